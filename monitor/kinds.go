package monitor

import (
	"caisson/api"
)

// kind is one kind of step: what is asked of it ahead of all else, and what it does if nothing is wrong.
type kind struct {
	check func(m *Monitor, s api.Step) api.Errno
	does  func(m *Monitor, s api.Step) (api.Answer, api.Errno)
}

// kinds are all kinds, each at its number.
func kinds() [api.StepRing + 1]kind {
	return [...]kind{
		api.StepNone:    {check: (*Monitor).checkNothing, does: (*Monitor).nothing},
		api.StepTick:    {check: (*Monitor).checkNothing, does: (*Monitor).nextTick},
		api.StepMove:    {check: (*Monitor).checkDevice, does: (*Monitor).move},
		api.StepDma:     {check: (*Monitor).checkOwned, does: (*Monitor).dma},
		api.StepRaise:   {check: (*Monitor).checkOwned, does: (*Monitor).raise},
		api.StepMap:     {check: (*Monitor).checkOwner, does: (*Monitor).mapPage},
		api.StepUnmap:   {check: (*Monitor).checkOwner, does: (*Monitor).unmapPage},
		api.StepVector:  {check: (*Monitor).checkOwner, does: (*Monitor).vector},
		api.StepMask:    {check: (*Monitor).checkOwner, does: (*Monitor).mask},
		api.StepRead:    {check: (*Monitor).checkPart, does: (*Monitor).read},
		api.StepWrite:   {check: (*Monitor).checkPart, does: (*Monitor).write},
		api.StepReg:     {check: (*Monitor).checkOwner, does: (*Monitor).reg},
		api.StepFaults:  {check: (*Monitor).checkPart, does: (*Monitor).takeFaults},
		api.StepIrqs:    {check: (*Monitor).checkPart, does: (*Monitor).takeIrqs},
		api.StepSend:    {check: (*Monitor).checkPart, does: (*Monitor).send},
		api.StepReceive: {check: (*Monitor).checkPart, does: (*Monitor).receive},
		api.StepRing:    {check: (*Monitor).checkPart, does: (*Monitor).runRing},
	}
}

// answer is what a step does, by the table of kinds.
func (m *Monitor) answer(s api.Step) (api.Answer, api.Errno) {
	all := kinds()
	if s.Kind < 0 || s.Kind >= len(all) {
		return api.Answer{}, api.ErrMonitorForm
	}
	k := all[s.Kind]
	if e := k.check(m, s); e != api.OK {
		return api.Answer{}, e
	}
	return k.does(m, s)
}

// checkNothing: of a step that names neither a partition nor a device.
func (m *Monitor) checkNothing(api.Step) api.Errno {
	return api.OK
}

// checkDevice: of a step that names a device, whoever owns it.
func (m *Monitor) checkDevice(s api.Step) api.Errno {
	if !m.hasDevice(s.Device) {
		return api.ErrMonitorForm
	}
	return api.OK
}

// checkOwned: of a step that a device does for its owner.
func (m *Monitor) checkOwned(s api.Step) api.Errno {
	if e := m.checkDevice(s); e != api.OK {
		return e
	}
	// A device that moves is nobody's, and nobody is no partition.
	if !m.hasPart(m.owners.Owner(s.Device)) {
		return api.ErrMonitorQuiet
	}
	return api.OK
}

// checkPart: of a call that names no device.
func (m *Monitor) checkPart(s api.Step) api.Errno {
	if !m.hasPart(s.Part) {
		return api.ErrMonitorForm
	}
	return api.OK
}

// checkOwner: of a call about a device, which must be the caller's now.
func (m *Monitor) checkOwner(s api.Step) api.Errno {
	if e := m.checkPart(s); e != api.OK {
		return e
	}
	if e := m.checkDevice(s); e != api.OK {
		return e
	}
	if m.owners.Owner(s.Device) != s.Part {
		return api.ErrMonitorOwner
	}
	return api.OK
}
