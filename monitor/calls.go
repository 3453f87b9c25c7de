package monitor

import (
	"caisson/api"
	"caisson/config"
	"caisson/pte"
)

// yes is what a step's number is where it says that something is so; each other number says that it is not.
const yes = 1

// mapPage: StepMap.
func (m *Monitor) mapPage(s api.Step) (api.Answer, api.Errno) {
	e := api.Entry{Frame: s.B, Perm: s.C}
	if !m.mayLend(s.Part, e) {
		return api.Answer{}, api.ErrMonitorFrame
	}
	return api.Answer{}, m.tables.Map(s.Device, s.A, e)
}

// mayLend tells whether an entry may be, and a partition may itself do with its frame all that it lets a device do.
func (m *Monitor) mayLend(part int, e api.Entry) bool {
	if !pte.May(e) {
		return false
	}
	if e.Perm&api.PermRead != 0 && !m.mayFrame(config.Reads, part, e.Frame) {
		return false
	}
	return e.Perm&api.PermWrite == 0 || m.mayFrame(config.Writes, part, e.Frame)
}

// mayFrame tells whether one of layer 21's questions is answered yes for a partition and all of a frame; there may be such a frame.
func (m *Monitor) mayFrame(may func(c api.Config, part int, at int, n int) bool, part int, frame int) bool {
	return may(m.config, part, frame*api.FrameSize, api.FrameSize)
}

// unmapPage: StepUnmap.
func (m *Monitor) unmapPage(s api.Step) (api.Answer, api.Errno) {
	return api.Answer{}, m.tables.Unmap(s.Device, s.A)
}

// vector: StepVector.
func (m *Monitor) vector(s api.Step) (api.Answer, api.Errno) {
	if s.B == yes {
		return api.Answer{}, m.irqs.Route(s.Device, s.A, s.Part)
	}
	return api.Answer{}, m.irqs.Unroute(s.Device, s.A)
}

// mask: StepMask.
func (m *Monitor) mask(s api.Step) (api.Answer, api.Errno) {
	return api.Answer{}, m.irqs.Mask(s.Device, s.A, s.B == yes)
}

// read: StepRead.
func (m *Monitor) read(s api.Step) (api.Answer, api.Errno) {
	if !config.Reads(m.config, s.Part, s.A, s.B) {
		return api.Answer{}, api.ErrMonitorFrame
	}
	data, e := m.memory.Read(s.A, s.B)
	return api.Answer{Data: data}, e
}

// write: StepWrite.
func (m *Monitor) write(s api.Step) (api.Answer, api.Errno) {
	if !config.Writes(m.config, s.Part, s.A, len(s.Data)) {
		return api.Answer{}, api.ErrMonitorFrame
	}
	return api.Answer{}, m.memory.Write(s.A, s.Data)
}

// reg: StepReg.
func (m *Monitor) reg(s api.Step) (api.Answer, api.Errno) {
	if s.C == yes {
		return api.Answer{}, m.regs.Write(s.Device, s.A, s.B)
	}
	x, e := m.regs.Read(s.Device, s.A)
	return api.Answer{Num: x}, e
}

// takeFaults: StepFaults.
func (m *Monitor) takeFaults(s api.Step) (api.Answer, api.Errno) {
	row, drops := m.logs[s.Part].Take()
	return api.Answer{Faults: row, Num: drops}, api.OK
}

// takeIrqs: StepIrqs.
func (m *Monitor) takeIrqs(s api.Step) (api.Answer, api.Errno) {
	row := m.inboxes[s.Part]
	// The list itself is handed out, so that none of its memory may stay.
	m.inboxes[s.Part] = nil
	return api.Answer{Irqs: row}, api.OK
}

// send: StepSend.
func (m *Monitor) send(s api.Step) (api.Answer, api.Errno) {
	return api.Answer{}, m.queues.Send(s.Part, s.A, s.Data)
}

// receive: StepReceive.
func (m *Monitor) receive(s api.Step) (api.Answer, api.Errno) {
	first, e := m.queues.Receive(s.Part)
	return api.Answer{Num: first.From, Data: first.Data}, e
}
