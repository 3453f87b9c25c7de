package assign

import (
	"caisson/api"
)

// state is where a device stands; each step from one to another is one of the methods here.
type state struct {
	phase int
	// part is whose the device is, or, while it is quiescing, whose it will be.
	part int
	// left is how many ticks it is still quiescing, and 0 where it is not.
	left int
}

// assigned is the state of a partition's device.
func assigned(part int) state {
	return state{phase: api.PhaseAssigned, part: part}
}

// quiescing is the state of a device that will be a partition's when so many ticks are gone.
func quiescing(part int, left int) state {
	return state{phase: api.PhaseQuiescing, part: part, left: left}
}

// move answers the state behind a move; one that is refused leaves it.
func (s state) move(to int, quiet int) (state, api.Errno) {
	if s.phase == api.PhaseQuiescing {
		return s, api.ErrAssignBusy
	}
	return quiescing(to, quiet), api.OK
}

// tick answers the state behind a tick, and whether that was the last one of a move.
func (s state) tick() (state, bool) {
	switch {
	case s.phase == api.PhaseAssigned:
		return s, false
	case s.left > 1:
		return quiescing(s.part, s.left-1), false
	}
	return assigned(s.part), true
}

// owner answers whose the device is in this state, or -1: it is nobody's as long as it is quiescing.
func (s state) owner() int {
	if s.phase == api.PhaseQuiescing {
		return nobody
	}
	return s.part
}
