package monitor_test

import (
	"slices"
	"strings"

	"caisson/api"
)

// numbers is a row of numbers.
type numbers uint64

// next is a number from 0 below n.
func (r *numbers) next(n int) int {
	*r = *r*6364136223846793005 + 1442695040888963407
	return int(uint64(*r) >> 33 % uint64(n))
}

// one is one of some numbers.
func (r *numbers) one(of ...int) int {
	return of[r.next(len(of))]
}

// place is a page, a vector or a register of a device.
type place struct {
	device int
	at     int
}

// leaf is where a page leads.
type leaf struct {
	frame int
	perm  int
}

// route is where a vector leads.
type route struct {
	part   int
	masked bool
}

// wait is a vector that waits for a partition.
type wait struct {
	part int
	place
}

// plain is a system by rows and maps of its own, and by no layer: what a Monitor is held against.
type plain struct {
	c       api.Config
	tick    int
	memory  []byte
	pages   map[place]leaf
	leaves  map[place]int
	routes  map[place]route
	waits   map[wait]int
	regs    map[place]int
	owners  []int
	moving  []int
	disk    []byte
	left    []int
	queues  [][]api.Message
	logs    [][]api.Fault
	drops   []int
	inboxes [][]api.Irq
}

// plainOf is a system that is set up so; the config may be.
func plainOf(c api.Config) *plain {
	parts := len(c.Parts)
	p := &plain{
		c: c, memory: make([]byte, c.Frames*64), disk: make([]byte, c.Sectors*16),
		pages: map[place]leaf{}, leaves: map[place]int{}, routes: map[place]route{}, waits: map[wait]int{}, regs: map[place]int{},
		moving: make([]int, len(c.Devices)), queues: make([][]api.Message, parts), logs: make([][]api.Fault, parts), drops: make([]int, parts), inboxes: make([][]api.Irq, parts),
	}
	for _, d := range c.Devices {
		p.owners = append(p.owners, d.Part)
	}
	for range c.Parts {
		p.left = append(p.left, c.Quota)
	}
	return p
}

// is tells whether n is from low to high.
func is(n, low, high int) bool {
	return low <= n && n <= high
}

// run tells whether n from at on lie within size.
func run(at, n, size int) bool {
	return is(at, 0, size) && is(n, 0, size-at)
}

// owner is whose a device is now, or -1.
func (p *plain) owner(device int) int {
	if !is(device, 0, len(p.owners)-1) || p.moving[device] > 0 {
		return -1
	}
	return p.owners[device]
}

// has tells whether a partition may read a frame, or write it.
func (p *plain) has(part, frame int, write bool) bool {
	if slices.Contains(p.c.Parts[part].Frames, frame) {
		return true
	}
	for _, g := range p.c.Grants {
		if g.Frame == frame && g.To == part && (g.Write || !write) {
			return true
		}
	}
	return false
}

// hasRun tells whether a partition may read, or write, n bytes from at on.
func (p *plain) hasRun(part, at, n int, write bool) bool {
	if !run(at, n, len(p.memory)) {
		return false
	}
	for b := at; b < at+n; b++ {
		if !p.has(part, b/64, write) {
			return false
		}
	}
	return true
}

// do is what a Monitor is to do and to answer.
func (p *plain) do(s api.Step) api.Answer {
	a, e := p.step(s)
	if e != api.OK {
		return api.Answer{Code: int(e)}
	}
	return a
}

// step is do, with the error beside.
func (p *plain) step(s api.Step) (api.Answer, api.Errno) {
	if e := p.named(s); e != api.OK {
		return api.Answer{}, e
	}
	switch s.Kind {
	case api.StepTick:
		return api.Answer{}, p.time()
	case api.StepMove:
		return api.Answer{}, p.move(s.Device, s.A)
	case api.StepDma:
		return p.dma(s)
	case api.StepMap:
		return api.Answer{}, p.mapPage(s)
	case api.StepUnmap, api.StepReg:
		return p.place(s)
	case api.StepRaise, api.StepVector, api.StepMask:
		return api.Answer{}, p.vector(s)
	}
	return p.call(s)
}

// named is what is wrong with the numbers that a step names.
func (p *plain) named(s api.Step) api.Errno {
	kind := func(of ...int) bool { return slices.Contains(of, s.Kind) }
	switch {
	case !is(s.Kind, 0, 16),
		s.Kind >= 5 && !is(s.Part, 0, len(p.c.Parts)-1),
		kind(2, 3, 4, 5, 6, 7, 8, 11) && !is(s.Device, 0, len(p.c.Devices)-1):
		return 2200
	case kind(3, 4) && p.owner(s.Device) < 0:
		return 2202
	case kind(5, 6, 7, 8, 11) && p.owner(s.Device) != s.Part:
		return 2201
	}
	return 0
}

// place is what a call about a page that is no more, or about a register, is to do.
func (p *plain) place(s api.Step) (api.Answer, api.Errno) {
	var a api.Answer
	at := place{s.Device, s.A}
	if s.Kind == api.StepUnmap {
		if !is(s.A, 0, 255) {
			return a, 700
		}
		if _, there := p.pages[at]; !there {
			return a, 702
		}
		delete(p.pages, at)
		return a, 0
	}
	if !is(s.A, 0, 7) || s.C == 1 && !is(s.B, 0, 65535) {
		return a, 1400
	}
	if s.C == 1 {
		p.regs[at] = s.B
	} else {
		a.Num = p.regs[at]
	}
	return a, 0
}

// vector is what a step about a vector is to do.
func (p *plain) vector(s api.Step) api.Errno {
	at := place{s.Device, s.A}
	if !is(s.A, 0, 7) {
		return 1300
	}
	if s.Kind == api.StepVector && s.B == 1 {
		p.routes[at] = route{part: s.Part}
		return 0
	}
	to, there := p.routes[at]
	if !there || s.Kind == api.StepRaise && to.part != p.owner(s.Device) {
		return 1301
	}
	switch s.Kind {
	case api.StepRaise:
		p.waits[wait{to.part, at}] = 1
	case api.StepMask:
		p.routes[at] = route{to.part, s.B == 1}
	case api.StepVector:
		delete(p.routes, at)
		for part := range 4 {
			delete(p.waits, wait{part, at})
		}
	}
	return 0
}

// call is what a call that names no device is to do.
func (p *plain) call(s api.Step) (api.Answer, api.Errno) {
	var a api.Answer
	switch s.Kind {
	case api.StepRead:
		if !p.hasRun(s.Part, s.A, s.B, false) {
			return a, 2203
		}
		a.Data = string(p.memory[s.A : s.A+s.B])
	case api.StepWrite:
		if !p.hasRun(s.Part, s.A, len(s.Data), true) {
			return a, 2203
		}
		copy(p.memory[s.A:], s.Data)
	case api.StepFaults:
		a.Faults, a.Num = p.logs[s.Part], p.drops[s.Part]
		p.logs[s.Part], p.drops[s.Part] = nil, 0
	case api.StepIrqs:
		a.Irqs = p.inboxes[s.Part]
		p.inboxes[s.Part] = nil
	case api.StepSend:
		return a, p.send(s)
	case api.StepReceive:
		if len(p.queues[s.Part]) == 0 {
			return a, 2002
		}
		first := p.queues[s.Part][0]
		p.queues[s.Part] = p.queues[s.Part][1:]
		a.Num, a.Data = first.From, first.Data
	case api.StepRing:
		return p.ring(s)
	}
	return a, 0
}

// time lets a tick go by.
func (p *plain) time() api.Errno {
	if p.tick == 1048575 {
		return 2200
	}
	p.tick++
	for d := range p.moving {
		if p.moving[d] == 0 {
			continue
		}
		p.moving[d]--
		for at := range 256 {
			if p.moving[d] == 0 {
				delete(p.regs, place{d, at})
				delete(p.pages, place{d, at})
				delete(p.leaves, place{d, at})
			}
		}
	}
	for _, w := range p.c.Windows {
		if w.Start == p.tick%p.c.Major {
			p.left[w.Part] = p.c.Quota
		}
		if w.Deliver == p.tick%p.c.Major {
			p.deliver(w.Part)
		}
	}
	return 0
}

// deliver hands over what waits for a partition.
func (p *plain) deliver(part int) {
	for d := range 4 {
		for v := range 8 {
			w := wait{part, place{d, v}}
			if p.waits[w] == 0 || p.routes[w.place].masked {
				continue
			}
			delete(p.waits, w)
			if len(p.inboxes[part]) < 64 {
				p.inboxes[part] = append(p.inboxes[part], api.Irq{Tick: p.tick, Device: d, Vector: v})
			}
		}
	}
}

// move makes a device another partition's, in a while.
func (p *plain) move(device, to int) api.Errno {
	if !is(to, 0, len(p.c.Parts)-1) {
		return 1500
	}
	if p.moving[device] > 0 {
		return 1501
	}
	p.owners[device], p.moving[device] = to, p.c.Quiet
	for v := range 8 {
		delete(p.routes, place{device, v})
		for part := range 4 {
			delete(p.waits, wait{part, place{device, v}})
		}
	}
	return 0
}

// mapPage makes a page lead to a frame.
func (p *plain) mapPage(s api.Step) api.Errno {
	if !is(s.C, 0, 3) || !is(s.B, 0, 63) || s.C == 0 && s.B != 0 {
		return 2203
	}
	if s.C&1 != 0 && !p.has(s.Part, s.B, false) || s.C&2 != 0 && !p.has(s.Part, s.B, true) {
		return 2203
	}
	if !is(s.A, 0, 255) || s.C == 0 {
		return 700
	}
	table, n := place{s.Device, s.A / 16}, 0
	for k := range 16 {
		n += p.leaves[place{s.Device, k}]
	}
	if p.leaves[table] == 0 && n == len(p.c.Devices[s.Device].Pool)-1 {
		return 701
	}
	p.leaves[table] = 1
	p.pages[place{s.Device, s.A}] = leaf{s.B, s.C}
	return 0
}

// dma moves a device's bytes, one by one.
func (p *plain) dma(s api.Step) (api.Answer, api.Errno) {
	n, need := s.B, 1
	if s.C == 1 {
		n, need = len(s.Data), 2
	}
	if e := p.reachable(s.Device, s.A, n, need); e != api.OK {
		part := p.owner(s.Device)
		if len(p.logs[part]) < 16 {
			p.logs[part] = append(p.logs[part], api.Fault{Tick: p.tick, Device: s.Device, Iova: s.A, Write: s.C == 1, Code: int(e)})
		} else {
			p.drops[part] = min(p.drops[part]+1, 65535)
		}
		return api.Answer{}, e
	}
	var data []byte
	for i := range n {
		at := p.pages[place{s.Device, (s.A + i) / 64}].frame*64 + (s.A+i)%64
		if s.C == 1 {
			p.memory[at] = s.Data[i]
		} else {
			data = append(data, p.memory[at])
		}
	}
	return api.Answer{Data: string(data)}, 0
}

// reachable is what is wrong with a device's bytes.
func (p *plain) reachable(device, iova, n, need int) api.Errno {
	if !is(n, 1, 256) || !run(iova, n, 256*64) {
		return 700
	}
	for page := iova / 64; page <= (iova+n-1)/64; page++ {
		l, there := p.pages[place{device, page}]
		if !there {
			return 702
		}
		if l.perm&need == 0 {
			return 703
		}
	}
	return 0
}

// over tells whether a label has all that another one has.
func over(a, b api.Label) bool {
	return a.Level >= b.Level && a.Cats|b.Cats == a.Cats
}

// send puts a message into another's queue.
func (p *plain) send(s api.Step) api.Errno {
	if !is(s.A, 0, len(p.c.Parts)-1) || !is(len(s.Data), 1, 32) {
		return 2000
	}
	if !over(p.c.Parts[s.A].Label, p.c.Parts[s.Part].Label) {
		return 2001
	}
	if len(p.queues[s.A]) < 8 {
		p.queues[s.A] = append(p.queues[s.A], api.Message{From: s.Part, Data: s.Data})
	}
	return 0
}

// chain is the descriptors of a ring, from one on.
func chain(b []byte, head int) ([]api.Desc, api.Errno) {
	if !is(head, 0, 7) {
		return nil, 1701
	}
	var ds []api.Desc
	came := map[int]int{}
	for head != 255 {
		if came[head] > 0 {
			return nil, 1702
		}
		came[head]++
		x := b[head*8 : head*8+8]
		if x[0] > 3 || x[1] > 7 && x[1] < 255 || x[7] != 0 {
			return nil, 1700
		}
		ds = append(ds, api.Desc{Op: int(x[0]), Next: int(x[1]), Lba: int(x[2]) + 256*int(x[3]), Buf: int(x[4]) + 256*int(x[5]), Len: int(x[6])})
		head = int(x[1])
	}
	return ds, 0
}

// wrong is what is wrong with a partition's chain.
func (p *plain) wrong(part int, ds []api.Desc) api.Errno {
	for _, d := range ds {
		if !is(d.Len, 1, 4) {
			return 1700
		}
		if d.Op < 2 && !p.hasRun(part, d.Buf, 16*d.Len, d.Op == 0) {
			return 1703
		}
	}
	for _, d := range ds {
		if d.Op != 2 && !run(d.Lba, d.Len, p.c.Parts[part].Count) {
			return 1801
		}
	}
	return 0
}

// ring does what a ring's chain says.
func (p *plain) ring(s api.Step) (api.Answer, api.Errno) {
	if !p.hasRun(s.Part, s.A, 64, false) {
		return api.Answer{}, 2203
	}
	ds, e := chain(slices.Clone(p.memory[s.A:s.A+64]), s.B)
	if e == api.OK {
		e = p.wrong(s.Part, ds)
	}
	if e != api.OK {
		return api.Answer{}, e
	}
	n := 0
	for _, d := range ds {
		n += d.Len
	}
	if n > p.left[s.Part] {
		return api.Answer{}, 1901
	}
	p.left[s.Part] -= n
	for _, d := range ds {
		if d.Op == 2 {
			continue
		}
		sectors := p.disk[16*(p.c.Parts[s.Part].First+d.Lba):][:16*d.Len]
		switch d.Op {
		case 0:
			copy(p.memory[d.Buf:], sectors)
		case 1:
			copy(sectors, p.memory[d.Buf:])
		case 3:
			clear(sectors)
		}
	}
	return api.Answer{Num: len(ds)}, 0
}

// view is what a partition is to see.
func (p *plain) view(part int) (api.View, api.Errno) {
	if !is(part, 0, len(p.c.Parts)-1) {
		return api.View{}, 2200
	}
	var b strings.Builder
	for _, f := range p.c.Parts[part].Frames {
		b.Write(p.memory[f*64 : f*64+64])
	}
	return api.View{Memory: b.String(), Inbox: p.inboxes[part], Queue: p.queues[part], Left: p.left[part]}, 0
}

// sameAnswers tells whether two answers are one; an empty list and nil are.
func sameAnswers(a, b api.Answer) bool {
	return a.Code == b.Code && a.Num == b.Num && a.Data == b.Data && slices.Equal(a.Irqs, b.Irqs) && slices.Equal(a.Faults, b.Faults)
}

// sameViews tells whether two views are one; an empty list and nil are.
func sameViews(a, b api.View) bool {
	return a.Memory == b.Memory && a.Left == b.Left && slices.Equal(a.Inbox, b.Inbox) && slices.Equal(a.Queue, b.Queue)
}
