package monitor

import (
	"strings"

	"caisson/api"
	"caisson/config"
	"caisson/extent"
	"caisson/ring"
)

// ringBytes is how many a ring has.
const ringBytes = api.RingSize * api.DescSize

// runRing: StepRing.
func (m *Monitor) runRing(s api.Step) (api.Answer, api.Errno) {
	chain, e := m.chainOf(s)
	if e != api.OK {
		return api.Answer{}, e
	}
	if e := m.checkChain(s.Part, chain); e != api.OK {
		return api.Answer{}, e
	}
	if e := m.disk.Spend(s.Part, sectorsOf(chain)); e != api.OK {
		return api.Answer{}, e
	}
	for _, d := range chain {
		m.carry(s.Part, d)
	}
	return api.Answer{Num: len(chain)}, api.OK
}

// chainOf is the chain that a step names, as it stands in memory now: what the chain itself writes there changes it no more.
func (m *Monitor) chainOf(s api.Step) ([]api.Desc, api.Errno) {
	if !config.Reads(m.config, s.Part, s.A, ringBytes) {
		return nil, api.ErrMonitorFrame
	}
	bytes, e := m.memory.Read(s.A, ringBytes)
	if e != api.OK {
		return nil, e
	}
	return ring.Chain(bytes, s.B)
}

// checkChain is what is wrong with a partition's chain: a buffer that the partition may not reach itself, or sectors that are not its own.
func (m *Monitor) checkChain(part int, chain []api.Desc) api.Errno {
	if e := ring.Check(chain, m.reach(config.Reads, part), m.reach(config.Writes, part)); e != api.OK {
		return e
	}
	for _, d := range chain {
		if d.Op == api.BlkFlush {
			continue
		}
		if _, e := extent.To(m.config.Parts, part, d.Lba, d.Len); e != api.OK {
			return e
		}
	}
	return api.OK
}

// reach is the frames for which one of layer 21's questions is answered yes.
func (m *Monitor) reach(may func(c api.Config, part int, at int, n int) bool, part int) []int {
	var row []int
	for frame := range m.config.Frames {
		if m.mayFrame(may, part, frame) {
			row = append(row, frame)
		}
	}
	return row
}

// sectorsOf is how many sectors a chain's descriptors name together.
func sectorsOf(chain []api.Desc) int {
	n := 0
	for _, d := range chain {
		n += d.Len
	}
	return n
}

// carry moves what a descriptor says between memory and a partition's sectors; it was checked, so that nothing refuses it.
func (m *Monitor) carry(part int, d api.Desc) {
	size := d.Len * api.SectorSize
	switch d.Op {
	case api.BlkRead:
		s, _ := m.disk.Read(part, d.Lba, d.Len)
		m.memory.Write(d.Buf, s)
	case api.BlkWrite:
		s, _ := m.memory.Read(d.Buf, size)
		m.disk.Write(part, d.Lba, s)
	case api.BlkDiscard:
		m.disk.Write(part, d.Lba, strings.Repeat("\x00", size))
	}
}
