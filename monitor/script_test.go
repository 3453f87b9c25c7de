package monitor_test

import (
	"math"

	"caisson/api"
)

// far are numbers that are no partition, no device, no place and no length.
var far = []int{
	math.MinInt, math.MinInt + 1, math.MinInt / 2, -1 << 32, math.MinInt32, -4096, -256, -64, -5, -4, -3, -2, -1,
	257, 1024, 4095, 4096, 4097, 16384, 1 << 16, math.MaxInt32, math.MaxUint32, 1 << 32, 1<<32 + 1, math.MaxInt / 2, math.MaxInt/2 + 1, math.MaxInt - 64, math.MaxInt - 1, math.MaxInt,
}

// sample is a config of three partitions and two devices. Part 1 may read part 0's frames 7 and 2, and write 2; part 0 may read part 2's frame 5. Part 1's label dominates both others.
func sample() api.Config {
	return api.Config{
		Frames: 20,
		Parts: []api.Part{
			{Label: api.Label{Level: 1, Cats: 5}, Frames: []int{7, 2, 0}, First: 4, Count: 6},
			{Label: api.Label{Level: 3, Cats: 15}, Frames: []int{4, 3}, First: 0, Count: 4},
			{Label: api.Label{Level: 1, Cats: 2}, Frames: []int{5}, First: 12, Count: 8},
		},
		Devices: []api.Device{{Part: 0, Pool: []int{19, 9, 12}}, {Part: 2, Pool: []int{10, 11}}},
		Major:   12,
		Windows: []api.Window{{Part: 1, Start: 6, Len: 4, Deliver: 9}, {Part: 0, Start: 0, Len: 4, Deliver: 2}, {Part: 2, Start: 10, Len: 2, Deliver: 11}, {Part: 0, Start: 4, Len: 1, Deliver: 4}},
		Grants:  []api.Grant{{Frame: 7, To: 1}, {Frame: 2, To: 1, Write: true}, {Frame: 5, To: 0}},
		Sectors: 20,
		Quota:   9,
		Quiet:   3,
	}
}

// least is the least config that there is.
func least() api.Config {
	return api.Config{
		Frames: 3, Parts: []api.Part{{Frames: []int{1}}}, Devices: []api.Device{{Pool: []int{2, 0}}},
		Major: 1, Windows: []api.Window{{Len: 1}}, Quiet: 1,
	}
}

// most is a config that has the most of all: each frame is somebody's, and each of the partitions' is granted to all others.
func most() api.Config {
	c := api.Config{Frames: 64, Major: 64, Sectors: 64, Quota: 64, Quiet: 8}
	for i := range 4 {
		p := api.Part{Label: api.Label{Level: i, Cats: 15}, First: 16 * i, Count: 16}
		for f := range 11 {
			p.Frames = append(p.Frames, i+4*f)
			for to := range 4 {
				if to != i {
					c.Grants = append(c.Grants, api.Grant{Frame: i + 4*f, To: to, Write: f%2 == 0})
				}
			}
		}
		c.Parts = append(c.Parts, p)
		c.Devices = append(c.Devices, api.Device{Part: 3 - i, Pool: []int{44 + i, 48 + i, 52 + i, 56 + i, 60 + i}})
		c.Windows = append(c.Windows, api.Window{Part: i, Start: 16 * i, Len: 8, Deliver: 16*i + 7}, api.Window{Part: i, Start: 16*i + 8, Len: 8, Deliver: 16*i + 8})
	}
	return c
}

// made is a config that may be.
func made(r *numbers) api.Config {
	c := api.Config{Frames: 40 + r.next(25), Major: 40 + r.next(25), Sectors: 64, Quota: r.next(33), Quiet: 1 + r.next(8)}
	free := make([]int, c.Frames)
	for i := range free {
		k := r.next(i + 1)
		free[i], free[k] = free[k], i
	}
	take := func(n int) []int {
		row := free[:n:n]
		free = free[n:]
		return row
	}
	parts := 1 + r.next(4)
	for i := range parts {
		c.Parts = append(c.Parts, api.Part{Label: api.Label{Level: r.next(4), Cats: r.next(16)}, Frames: take(1 + r.next(4)), First: 48 - 16*i, Count: r.next(17)})
	}
	for range 1 + r.next(4) {
		c.Devices = append(c.Devices, api.Device{Part: r.next(parts), Pool: take(2 + r.next(4))})
	}
	for i := range parts + r.next(parts+1) {
		w := api.Window{Part: i % parts, Start: 5 * i, Len: 1 + r.next(5)}
		w.Deliver = w.Start + r.next(w.Len)
		c.Windows = append(c.Windows, w)
	}
	for i, p := range c.Parts {
		for _, f := range p.Frames {
			if to := r.next(3 * parts); to < parts && to != i {
				c.Grants = append(c.Grants, api.Grant{Frame: f, To: to, Write: r.next(2) == 0})
			}
		}
	}
	return c
}

// writer writes a script for a system, whose state it goes by: most of its steps do something.
type writer struct {
	numbers
	p *plain
}

// odd is n, or now and then a number near or far from it.
func (w *writer) odd(n int) int {
	switch w.numbers.next(60) {
	case 0:
		return far[w.numbers.next(len(far))]
	case 1:
		return n + w.one(-1, 1, 2, 4)
	}
	return n
}

// part is a partition.
func (w *writer) part() int {
	return w.odd(w.numbers.next(len(w.p.c.Parts)))
}

// device is a device.
func (w *writer) device() int {
	return w.odd(w.numbers.next(len(w.p.c.Devices)))
}

// data is so many bytes.
func (w *writer) data(n int) string {
	b := make([]byte, n)
	for i := range b {
		b[i] = byte(w.numbers.next(256))
	}
	return string(b)
}

// frame is one that a partition may read, or one of all.
func (w *writer) frame(part int) int {
	f := w.numbers.next(w.p.c.Frames)
	for range 100 {
		if is(part, 0, len(w.p.c.Parts)-1) && !w.p.has(part, f, false) {
			f = w.numbers.next(w.p.c.Frames)
		}
	}
	return f
}

// page is one of a few, so that many of those asked for are mapped.
func (w *writer) page() int {
	return w.odd(w.one(0, 1, 2, 3, 0, 1, 2, 3, 16, 17, 40, 254, 255, w.numbers.next(256)))
}

// next is what a script goes on with.
func (w *writer) next() []api.Step {
	switch k := w.numbers.next(40); k {
	case 0:
		return []api.Step{{Kind: w.one(0, 0, -1, 17, w.odd(0)), Part: w.part(), Device: w.device()}}
	case 1:
		if w.numbers.next(3) > 0 {
			return nil
		}
		return []api.Step{{Kind: api.StepMove, Part: w.part(), Device: w.device(), A: w.odd(w.numbers.next(len(w.p.c.Parts)))}}
	case 2, 3, 4, 5, 6, 7:
		return []api.Step{w.dma()}
	case 8, 9:
		return []api.Step{{Kind: api.StepRaise, Part: w.part(), Device: w.device(), A: w.odd(w.numbers.next(8))}}
	case 10, 11, 12, 13, 14, 15, 16, 17, 18, 19, 20:
		return []api.Step{w.ofDevice()}
	case 21, 22, 23, 24, 25, 26, 27, 28:
		return []api.Step{w.call()}
	case 29, 30, 31:
		return w.ring()
	}
	return []api.Step{{Kind: api.StepTick, Part: w.part(), Device: w.device()}}
}

// dma is a device's request.
func (w *writer) dma() api.Step {
	s := api.Step{Kind: api.StepDma, Part: w.part(), Device: w.device(), A: w.odd(w.page()*64 + w.one(0, 60, w.numbers.next(64))), C: w.one(0, 1, 1, 2)}
	n := w.one(1, 4, w.numbers.next(70), w.numbers.next(200), 256, 257)
	if s.C == 1 {
		s.Data = w.data(n)
		s.B = w.numbers.next(9)
	} else {
		s.B = w.odd(n)
		s.Data = w.data(w.numbers.next(3))
	}
	return s
}

// ofDevice is a call about a device, most often of its owner.
func (w *writer) ofDevice() api.Step {
	s := api.Step{Kind: w.one(5, 5, 5, 5, 6, 7, 7, 7, 8, 8, 11, 11), Part: w.part(), Device: w.device(), C: w.odd(w.one(0, 1))}
	if owner := w.p.owner(s.Device); owner >= 0 && w.numbers.next(8) > 0 {
		s.Part = owner
	}
	switch s.Kind {
	case api.StepMap:
		s.A, s.B, s.C = w.page(), w.odd(w.frame(s.Part)), w.one(1, 2, 3, 3, 3, 3, 0, 4, -1)
		if s.C == 0 && w.numbers.next(2) == 0 {
			s.B = 0
		}
	case api.StepUnmap:
		s.A = w.page()
	case api.StepVector:
		s.A, s.B = w.odd(w.numbers.next(8)), w.one(1, 1, 1, 1, 0, 2)
	case api.StepMask:
		s.A, s.B = w.odd(w.numbers.next(8)), w.one(0, 1, 2)
	case api.StepReg:
		s.A, s.B = w.odd(w.numbers.next(8)), w.odd(w.one(0, 65535, 65536, w.numbers.next(65536)))
	}
	return s
}

// call is a call that names no device.
func (w *writer) call() api.Step {
	s := api.Step{Kind: w.one(9, 10, 10, 12, 13, 14, 14, 14, 15), Part: w.part(), Device: w.device()}
	switch s.Kind {
	case api.StepRead:
		s.A, s.B = w.odd(w.frame(s.Part)*64+w.numbers.next(64)), w.odd(w.one(0, 1, 4, 64, w.numbers.next(64)))
	case api.StepWrite:
		s.A, s.Data = w.odd(w.frame(s.Part)*64+w.numbers.next(64)), w.data(w.one(0, 1, 4, w.numbers.next(64)))
	case api.StepFaults, api.StepIrqs:
		if w.numbers.next(3) > 0 {
			s.Kind = api.StepNone
		}
	case api.StepSend:
		s.A, s.Data = w.part(), w.data(w.one(0, 1, 5, 5, 5, 32, 33))
	}
	return s
}

// ring is a call that writes a ring, and one that runs it.
func (w *writer) ring() []api.Step {
	part := w.part()
	at := w.frame(part)*64 + w.one(0, 0, 0, 0, 0, 8, 32)
	var b []byte
	for i := range 8 {
		b = append(b, w.desc(part, i)...)
	}
	return []api.Step{
		{Kind: api.StepWrite, Part: part, A: at, Data: string(b)},
		{Kind: api.StepRing, Part: part, Device: w.device(), A: at, B: w.odd(w.numbers.next(8))},
	}
}

// desc is the bytes of a partition's descriptor, most often of one that may be.
func (w *writer) desc(part int, i int) []byte {
	count := 64
	if is(part, 0, len(w.p.c.Parts)-1) {
		count = w.p.c.Parts[part].Count
	}
	d := api.Desc{Op: w.numbers.next(4), Next: 255, Lba: w.numbers.next(count + 1), Buf: w.frame(part)*64 + 16*w.numbers.next(4), Len: w.one(1, 1, 1, 2, 2, 3, 4)}
	if w.numbers.next(2) == 0 {
		d.Next = min(i+1, 7)
	}
	switch w.numbers.next(60) {
	case 0:
		d.Len = w.one(0, 5, 255)
	case 1:
		d.Op = w.one(4, 255)
	case 2:
		d.Next = w.one(8, 254, w.numbers.next(8))
	case 3:
		d.Lba = w.numbers.next(65536)
	case 4:
		d.Buf = w.numbers.next(65536)
	case 5:
		return append(bytesOf(d)[:7], 1)
	}
	return bytesOf(d)
}

// bytesOf is the bytes of a descriptor.
func bytesOf(d api.Desc) []byte {
	return []byte{byte(d.Op), byte(d.Next), byte(d.Lba), byte(d.Lba >> 8), byte(d.Buf), byte(d.Buf >> 8), byte(d.Len), 0}
}

// ringOf is the bytes of a ring that begins with these descriptors.
func ringOf(ds ...api.Desc) string {
	var b []byte
	for _, d := range ds {
		b = append(b, bytesOf(d)...)
	}
	return string(append(b, make([]byte, 64-len(b))...))
}
