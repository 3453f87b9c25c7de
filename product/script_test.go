package product_test

import (
	"slices"
	"testing"

	"caisson/api"
	"caisson/monitor"
	"caisson/product"
	"caisson/view"
)

// numbers is a row of numbers.
type numbers uint64

// next is a number from 0 below n.
func (r *numbers) next(n int) int {
	*r = *r*6364136223846793005 + 1442695040888963407
	return int(uint64(*r) >> 33 % uint64(n))
}

// one is one of some numbers.
func (r *numbers) one(of ...int) int {
	return of[r.next(len(of))]
}

// data is up to n bytes, one at least.
func (r *numbers) data(n int) string {
	b := make([]byte, 1+r.next(n))
	for i := range b {
		b[i] = byte(r.next(256))
	}
	return string(b)
}

// made is a config that may be; where it has few grants and its labels are of one category each, little flows.
func made(r *numbers) api.Config {
	c := api.Config{Frames: 40 + r.next(25), Major: 20 + r.next(45), Sectors: 64, Quota: 4 + r.next(61), Quiet: 1 + r.next(8)}
	free := make([]int, c.Frames)
	for i := range free {
		k := r.next(i + 1)
		free[i], free[k] = free[k], i
	}
	take := func(n int) []int {
		row := free[:n:n]
		free = free[n:]
		return row
	}
	parts, often := 1+r.next(4), r.one(2, 5, 20)
	for i := range parts {
		c.Parts = append(c.Parts, api.Part{Label: api.Label{Level: r.one(3-i, r.next(4)), Cats: r.one(1<<i, 1<<i, r.next(16))}, Frames: take(1 + r.next(4)), First: 48 - 16*i, Count: r.next(17)})
		w := api.Window{Part: i, Start: 5 * i, Len: 1 + r.next(5)}
		w.Deliver = w.Start + r.next(w.Len)
		c.Windows = append(c.Windows, w)
	}
	for range 1 + r.next(4) {
		c.Devices = append(c.Devices, api.Device{Part: r.next(parts), Pool: take(2 + r.next(4))})
	}
	for i, p := range c.Parts {
		for _, f := range p.Frames {
			if to := r.next(often * parts); to < parts && to != i {
				c.Grants = append(c.Grants, api.Grant{Frame: f, To: to, Write: r.next(2) == 0})
			}
		}
	}
	return c
}

// writer writes a script for a system that runs beside it, so that most of its steps do something.
type writer struct {
	*numbers
	c api.Config
	m *monitor.Monitor
}

// scriptOf is a script of so many steps for a config.
func scriptOf(r *numbers, c api.Config, n int) []api.Step {
	m, _ := monitor.New(c)
	w := &writer{numbers: r, c: c, m: m}
	var row []api.Step
	for len(row) < n {
		for _, s := range w.some() {
			m.Do(s)
			row = append(row, s)
		}
	}
	return row[:n]
}

// part is a partition, or now and then none.
func (w *writer) part() int {
	if w.next(50) == 0 {
		return w.one(-1, len(w.c.Parts), far[w.next(len(far))])
	}
	return w.next(len(w.c.Parts))
}

// frame is one of a partition's own, or granted to it, if a few of all are asked, or one of all.
func (w *writer) frame(part int) int {
	f := w.next(w.c.Frames)
	for range 60 {
		if part < 0 || part >= len(w.c.Parts) || slices.Contains(w.c.Parts[part].Frames, f) || slices.ContainsFunc(w.c.Grants, func(g api.Grant) bool { return g.Frame == f && g.To == part }) {
			break
		}
		f = w.next(w.c.Frames)
	}
	return f
}

// some is what a script goes on with.
func (w *writer) some() []api.Step {
	s := api.Step{Part: w.part(), Device: w.next(len(w.c.Devices))}
	switch k := w.next(40); {
	case k == 0:
		s.Kind, s.Device = w.one(-1, 0, 3, 4, 11, 17), far[w.next(len(far))]
	case k == 1:
		s.Kind, s.A = api.StepMove, w.part()
	case k < 8:
		s.Kind, s.A, s.B, s.C, s.Data = api.StepDma, w.page()*64+w.one(0, 60), 1+w.next(70), w.one(0, 1), w.data(70)
	case k < 11:
		s.Kind, s.A = api.StepRaise, w.next(8)
	case k < 21:
		s = w.ofDevice(s)
	case k < 29:
		s = w.ofPart(s)
	case k < 32:
		return w.ring(s.Part)
	default:
		s.Kind = api.StepTick
	}
	return []api.Step{s}
}

// page is one of a few, so that many of those asked for are mapped.
func (w *writer) page() int {
	return w.one(0, 1, 2, 3, 0, 1, 2, 3, 16, 255, 256)
}

// ofDevice makes a step a call about its device, most often of its owner.
func (w *writer) ofDevice(s api.Step) api.Step {
	if owner := w.m.Owner(s.Device); owner >= 0 && w.next(8) > 0 {
		s.Part = owner
	}
	s.Kind, s.A, s.B, s.C = w.one(5, 5, 5, 5, 6, 7, 7, 7, 8, 11, 11), w.next(8), w.one(0, 1, 1), w.one(0, 1)
	switch s.Kind {
	case api.StepMap:
		s.A, s.B, s.C = w.page(), w.frame(s.Part), w.one(1, 2, 3, 3, 3)
	case api.StepUnmap:
		s.A = w.page()
	case api.StepReg:
		s.B = w.next(65537)
	}
	return s
}

// ofPart makes a step a call that names no device.
func (w *writer) ofPart(s api.Step) api.Step {
	s.Kind = w.one(9, 9, 10, 10, 12, 13, 14, 14, 15, 15)
	switch s.Kind {
	case api.StepRead:
		s.A, s.B = w.frame(s.Part)*64+w.next(8), w.one(1, 32, 56, 64)
	case api.StepWrite:
		s.A, s.Data = w.frame(s.Part)*64+w.next(8), w.data(64)
	case api.StepSend:
		s.A, s.Data = w.part(), w.data(33)
	}
	return s
}

// ring is a call that writes a ring, and one that runs it.
func (w *writer) ring(part int) []api.Step {
	at := w.frame(part) * 64
	var b []byte
	for i := range 8 {
		buf, next := w.frame(part)*64+16*w.next(4), w.one(255, min(i+1, 7))
		b = append(b, byte(w.next(4)), byte(next), byte(w.next(9)), 0, byte(buf), byte(buf>>8), byte(w.one(1, 1, 1, 2, 4)), 0)
	}
	return []api.Step{{Kind: api.StepWrite, Part: part, A: at, Data: string(b)}, {Kind: api.StepRing, Part: part, A: at, B: w.next(8)}}
}

// TestEachByItself: what a partition is told by the system that all share, and sees of it, is what it is told by a machine of its own.
func TestEachByItself(t *testing.T) {
	r := numbers(243)
	came := map[int]int{}
	for range 120 {
		c := made(&r)
		steps := scriptOf(&r, c, 800)
		m, _ := monitor.New(c)
		wants := make([][]api.Answer, len(c.Parts))
		for _, s := range steps {
			a := m.Do(s)
			if s.Kind >= 5 && s.Kind <= 16 && s.Part >= 0 && s.Part < len(c.Parts) {
				wants[s.Part] = append(wants[s.Part], a)
				if a.Code == 0 {
					came[s.Kind]++
				}
			}
		}
		for part, want := range wants {
			told, seen, e := product.Answers(c, steps, part)
			if e != api.OK || !sameAnswers(told, want) {
				t.Fatalf("T4: part %d of %#v: by %#v: %#v, %d, want %#v", part, c, steps, told, e, want)
			}
			if end, _ := m.View(part); !sameViews(seen, end) {
				t.Fatalf("T4: part %d of %#v: by %#v: %#v, want %#v", part, c, steps, seen, end)
			}
		}
	}
	for kind := api.StepMap; kind <= api.StepRing; kind++ {
		if came[kind] < 100 {
			t.Errorf("T4: kind %d did something only %d times", kind, came[kind])
		}
	}
}

// TestOthersAreNotHeard: whatever those do that do not flow to a partition, it is told and sees the same.
func TestOthersAreNotHeard(t *testing.T) {
	r := numbers(244)
	others := 0
	for range 80 {
		c := made(&r)
		steps := scriptOf(&r, c, 500)
		for part := range c.Parts {
			want, end, _ := product.Answers(c, steps, part)
			// Another script, with each step that is not heard of it between those that are heard of the first.
			other := scriptOf(&r, c, 500)
			heard, _ := view.Purge(c, steps, part)
			var mixed []api.Step
			for i, s := range heard {
				mixed = append(mixed, s)
				if o := other[i]; isUnheard(c, o, part) {
					mixed = append(mixed, o)
					others++
				}
			}
			told, seen, e := product.Answers(c, mixed, part)
			if e != api.OK || !sameAnswers(told, want) || !sameViews(seen, end) {
				t.Fatalf("T3: part %d of %#v: %#v, %#v by %#v, but %#v, %#v by %#v", part, c, want, end, steps, told, seen, mixed)
			}
		}
	}
	if others < 10000 {
		t.Errorf("T3: only %d steps of others", others)
	}
}

// isUnheard tells whether a step is a call of a partition that does not flow to another one.
func isUnheard(c api.Config, s api.Step, part int) bool {
	return s.Kind >= 5 && s.Kind <= 16 && !view.Flows(c, s.Part, part)
}
