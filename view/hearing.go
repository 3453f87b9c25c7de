package view

import (
	"caisson/api"
	"caisson/assign"
)

// hearing answers a question that is asked of each step of a script, in their row: is it heard where a partition is? The config may be.
func hearing(c api.Config, part int) func(s api.Step) bool {
	flows := flowsTo(c, part)
	devices := devicesOf(c)
	ticks := 0
	return func(s api.Step) bool {
		switch {
		case s.Kind == api.StepTick && ticks < api.MaxTick:
			// Layer 22 has no tick behind the last one: moves end no more then.
			ticks++
			devices.Tick()
		case s.Kind == api.StepMove:
			devices.Move(s.Device, s.A)
		case s.Kind == api.StepDma || s.Kind == api.StepRaise:
			// Nobody is no partition, and no partition flows anywhere.
			return flows(devices.Owner(s.Device))
		case s.Kind >= api.StepMap && s.Kind <= api.StepRing:
			return flows(s.Part)
		}
		return true
	}
}

// devicesOf is whose the devices are ahead of all steps.
func devicesOf(c api.Config) *assign.Table {
	var owners []int
	for _, d := range c.Devices {
		owners = append(owners, d.Part)
	}
	// What layer 21 lets be, this takes.
	t, _ := assign.New(c.Quiet, len(c.Parts), owners...)
	return t
}
