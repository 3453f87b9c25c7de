package config

import (
	"slices"

	"caisson/api"
	"caisson/extent"
	"caisson/frames"
	"caisson/lattice"
	"caisson/sched"
)

// rule is one thing that must hold of a config.
type rule func(c api.Config) bool

// rules are all that must hold. Each may lean on those ahead of it: they bound the lists and the numbers that it goes by.
func rules() []rule {
	return []rule{
		framesMay,
		partsMay,
		devicesMay,
		framesUnlike,
		windowsMay,
		grantsMay,
		sharesMay,
		quotaMay,
		quietMay,
	}
}

// framesMay: there is memory, and not too much of it.
func framesMay(c api.Config) bool {
	return isFrom(c.Frames, 1, api.MaxFrames)
}

// partsMay: there are partitions, each with a label and with frames.
func partsMay(c api.Config) bool {
	return isFrom(len(c.Parts), 1, api.MaxParts) && each(c.Parts, func(p api.Part) bool {
		return lattice.May(p.Label) && len(p.Frames) > 0
	})
}

// devicesMay: there are devices, each a partition's and with frames for its tables.
func devicesMay(c api.Config) bool {
	return isFrom(len(c.Devices), 1, api.MaxDevices) && each(c.Devices, func(d api.Device) bool {
		// A root's frame, and a leaf's at least.
		return hasPart(c, d.Part) && isFrom(len(d.Pool), 2, api.MaxPool)
	})
}

// framesUnlike: there is each frame that is a partition's or a pool's, and none is named twice.
func framesUnlike(c api.Config) bool {
	return ownersOf(c) != nil
}

// windowsMay: the windows share the major frame, and no partition is without one.
func windowsMay(c api.Config) bool {
	if !sched.May(c.Windows, c.Major, len(c.Parts)) {
		return false
	}
	for part := range c.Parts {
		if !slices.ContainsFunc(c.Windows, func(w api.Window) bool { return w.Part == part }) {
			return false
		}
	}
	return true
}

// grantsMay: each grant is of a partition's frame to another partition, and there is no second one of that frame to that one.
func grantsMay(c api.Config) bool {
	owners := ownersOf(c)
	var granted [api.MaxFrames][api.MaxParts]bool
	for _, g := range c.Grants {
		owner, e := owners.Of(g.Frame)
		// The monitor's frames, and the free ones, are no partition's.
		if e != api.OK || !hasPart(c, owner) || !hasPart(c, g.To) || g.To == owner || granted[g.Frame][g.To] {
			return false
		}
		granted[g.Frame][g.To] = true
	}
	return true
}

// sharesMay: the partitions' sectors lie on the disk, none in two shares.
func sharesMay(c api.Config) bool {
	return extent.May(c.Parts, c.Sectors)
}

// quotaMay: what a partition's window gives it of the disk is within the bounds.
func quotaMay(c api.Config) bool {
	return isFrom(c.Quota, 0, api.MaxQuota)
}

// quietMay: a move lasts a tick at least, and not too many.
func quietMay(c api.Config) bool {
	return isFrom(c.Quiet, 1, api.MaxQuiet)
}

// ownersOf is whose each frame is, a pool's the monitor's; nil, if one that is named is not there or was named already.
func ownersOf(c api.Config) *frames.Owners {
	// Where there is no memory there is no table either, and a nil one refuses each frame.
	owners, _ := frames.New(c.Frames)
	for part, p := range c.Parts {
		if !give(owners, part, p.Frames) {
			return nil
		}
	}
	for _, d := range c.Devices {
		if !give(owners, api.OwnerMonitor, d.Pool) {
			return nil
		}
	}
	return owners
}

// give makes some frames an owner's, up to one that is not there or not free; it tells whether there was none such.
func give(owners *frames.Owners, owner int, row []int) bool {
	return each(row, func(frame int) bool {
		was, e := owners.Of(frame)
		return e == api.OK && was == api.OwnerFree && owners.Set(frame, owner) == api.OK
	})
}

// isFrom tells whether n is from low to high.
func isFrom(n int, low int, high int) bool {
	return n >= low && n <= high
}
