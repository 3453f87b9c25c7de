package monitor

import (
	"strings"

	"caisson/api"
	"caisson/sched"
)

// nothing: StepNone.
func (m *Monitor) nothing(api.Step) (api.Answer, api.Errno) {
	return api.Answer{}, api.OK
}

// nextTick: StepTick.
func (m *Monitor) nextTick(api.Step) (api.Answer, api.Errno) {
	if m.tick >= api.MaxTick {
		return api.Answer{}, api.ErrMonitorForm
	}
	m.tick++
	for _, device := range m.owners.Tick() {
		m.regs.Reset(device)
		m.tables.Clear(device)
	}
	if part := sched.Opens(m.config.Windows, m.config.Major, m.tick); m.hasPart(part) {
		m.disk.Open(part)
	}
	if part := sched.Delivers(m.config.Windows, m.config.Major, m.tick); m.hasPart(part) {
		m.deliver(part)
	}
	return api.Answer{}, api.OK
}

// deliver hands the vectors that wait for a partition over to its inbox; those that it has no room for are gone.
func (m *Monitor) deliver(part int) {
	row := append(m.inboxes[part], m.irqs.Deliver(part, m.tick)...)
	m.inboxes[part] = row[:min(len(row), api.MaxInbox)]
}

// move: StepMove.
func (m *Monitor) move(s api.Step) (api.Answer, api.Errno) {
	if e := m.owners.Move(s.Device, s.A); e != api.OK {
		return api.Answer{}, e
	}
	// At once, and not when the move ends: no vector that waits may be handed over behind it.
	return api.Answer{}, m.irqs.Clear(s.Device)
}

// dma: StepDma.
func (m *Monitor) dma(s api.Step) (api.Answer, api.Errno) {
	write, n := s.C == yes, s.B
	if write {
		n = len(s.Data)
	}
	pieces, e := m.tables.Translate(s.Device, s.A, n, write)
	if e != api.OK {
		f := api.Fault{Tick: m.tick, Device: s.Device, Iova: s.A, Write: write, Code: int(e)}
		m.logs[m.owners.Owner(s.Device)].Add(f)
		return api.Answer{}, e
	}
	if write {
		m.scatter(pieces, s.Data)
		return api.Answer{}, api.OK
	}
	return api.Answer{Data: m.gather(pieces)}, api.OK
}

// scatter writes data to pieces of memory, of which there are just as many bytes.
func (m *Monitor) scatter(pieces []api.Piece, data string) {
	for _, p := range pieces {
		m.memory.Write(placeOf(p), data[:p.Len])
		data = data[p.Len:]
	}
}

// gather is the bytes of pieces of memory.
func (m *Monitor) gather(pieces []api.Piece) string {
	var b strings.Builder
	for _, p := range pieces {
		s, _ := m.memory.Read(placeOf(p), p.Len)
		b.WriteString(s)
	}
	return b.String()
}

// placeOf is where a piece begins in memory.
func placeOf(p api.Piece) int {
	return p.Frame*api.FrameSize + p.Off
}

// raise: StepRaise.
func (m *Monitor) raise(s api.Step) (api.Answer, api.Errno) {
	return api.Answer{}, m.irqs.Raise(s.Device, s.A, m.owners.Owner(s.Device))
}
