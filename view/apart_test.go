package view_test

import (
	"reflect"
	"testing"

	"caisson/api"
	"caisson/monitor"
	"caisson/view"
)

// writer writes a script for a system that runs beside it, so that most of its steps do something.
type writer struct {
	*numbers
	c api.Config
	m *monitor.Monitor
}

// scriptOf is a script of so many steps for a config.
func scriptOf(r *numbers, c api.Config, n int) []api.Step {
	m, _ := monitor.New(c)
	w := &writer{numbers: r, c: c, m: m}
	var row []api.Step
	for len(row) < n {
		for _, s := range w.some() {
			m.Do(s)
			row = append(row, s)
		}
	}
	return row[:n]
}

// part is a partition, or now and then none.
func (w *writer) part() int {
	if w.next(60) == 0 {
		return w.one(-1, len(w.c.Parts), far[w.next(len(far))])
	}
	return w.next(len(w.c.Parts))
}

// device is a device, or now and then none.
func (w *writer) device() int {
	if w.next(60) == 0 {
		return w.one(-1, len(w.c.Devices), far[w.next(len(far))])
	}
	return w.next(len(w.c.Devices))
}

// data is so many bytes.
func (w *writer) data(n int) string {
	b := make([]byte, n)
	for i := range b {
		b[i] = byte(w.next(256))
	}
	return string(b)
}

// frame is one that a partition may read, if a few of all are asked, or one of all.
func (w *writer) frame(part int) int {
	f := w.next(w.c.Frames)
	for range 60 {
		if is(part, 0, len(w.c.Parts)-1) && !reaches(w.c, part, f, false) {
			f = w.next(w.c.Frames)
		}
	}
	return f
}

// page is one of a few, so that many of those asked for are mapped.
func (w *writer) page() int {
	return w.one(0, 1, 2, 3, 0, 1, 2, 3, 16, 40, 255, 256)
}

// some is what a script goes on with.
func (w *writer) some() []api.Step {
	s := api.Step{Part: w.part(), Device: w.device()}
	switch k := w.next(40); {
	case k == 0:
		s.Kind = w.one(-1, 0, 17)
	case k == 1:
		s.Kind, s.A = api.StepMove, w.part()
	case k < 8:
		s.Kind, s.A, s.B, s.C = api.StepDma, w.page()*64+w.one(0, 60), 1+w.next(70), w.one(0, 1)
		s.Data = w.data(1 + w.next(70))
	case k < 11:
		s.Kind, s.A = api.StepRaise, w.next(8)
	case k < 21:
		s = w.ofDevice(s)
	case k < 29:
		s = w.ofPart(s)
	case k < 32:
		return w.ring(s.Part)
	default:
		s.Kind = api.StepTick
	}
	return []api.Step{s}
}

// ofDevice makes a step a call about its device, most often of its owner.
func (w *writer) ofDevice(s api.Step) api.Step {
	if owner := w.m.Owner(s.Device); owner >= 0 && w.next(8) > 0 {
		s.Part = owner
	}
	s.Kind, s.A, s.B, s.C = w.one(5, 5, 5, 5, 6, 7, 7, 7, 8, 11, 11), w.next(8), w.one(0, 1, 1), w.one(0, 1)
	switch s.Kind {
	case api.StepMap:
		s.A, s.B, s.C = w.page(), w.frame(s.Part), w.one(1, 2, 3, 3, 3)
	case api.StepUnmap:
		s.A = w.page()
	case api.StepReg:
		s.B = w.next(65537)
	}
	return s
}

// ofPart makes a step a call that names no device.
func (w *writer) ofPart(s api.Step) api.Step {
	s.Kind = w.one(9, 9, 10, 10, 12, 13, 14, 14, 15, 15)
	switch s.Kind {
	case api.StepRead:
		s.A, s.B = w.frame(s.Part)*64+w.next(8), w.one(1, 32, 56, 64)
	case api.StepWrite:
		s.A, s.Data = w.frame(s.Part)*64+w.next(8), w.data(w.one(1, 32, 56, 64))
	case api.StepSend:
		s.A, s.Data = w.part(), w.data(w.one(0, 5, 32, 33))
	}
	return s
}

// ring is a call that writes a ring, and one that runs it.
func (w *writer) ring(part int) []api.Step {
	at := w.frame(part) * 64
	var b []byte
	for i := range 8 {
		buf, next := w.frame(part)*64+16*w.next(4), w.one(255, min(i+1, 7))
		b = append(b, byte(w.next(4)), byte(next), byte(w.next(9)), 0, byte(buf), byte(buf>>8), byte(w.one(1, 1, 1, 2, 4)), 0)
	}
	return []api.Step{{Kind: api.StepWrite, Part: part, A: at, Data: string(b)}, {Kind: api.StepRing, Part: part, A: at, B: w.next(8)}}
}

// bare is a row, or nil if it is empty: the two are one.
func bare[T any](row []T) []T {
	return append([]T(nil), row...)
}

// sameAnswers tells whether two answers are the same.
func sameAnswers(a, b api.Answer) bool {
	a.Irqs, a.Faults = bare(a.Irqs), bare(a.Faults)
	b.Irqs, b.Faults = bare(b.Irqs), bare(b.Faults)
	return reflect.DeepEqual(a, b)
}

// sameViews tells whether two views are the same.
func sameViews(a, b api.View) bool {
	a.Inbox, a.Queue = bare(a.Inbox), bare(a.Queue)
	b.Inbox, b.Queue = bare(b.Inbox), bare(b.Queue)
	return reflect.DeepEqual(a, b)
}

// TestAPartitionSeesNoDifference: a system that does a script and one that does what Purge leaves of it are the same to a partition, step by step.
func TestAPartitionSeesNoDifference(t *testing.T) {
	r := numbers(235)
	came := map[int]int{}
	gone, bytes, messages, irqs := 0, 0, 0, 0
	for range 150 {
		c := made(&r)
		steps := scriptOf(&r, c, 1000)
		for part := range c.Parts {
			purged, _ := view.Purge(c, steps, part)
			all, _ := monitor.New(c)
			some, _ := monitor.New(c)
			for i, s := range steps {
				x, y := all.Do(s), some.Do(purged[i])
				if is(s.Kind, api.StepMap, api.StepRing) && s.Part == part {
					if !sameAnswers(x, y) {
						t.Fatalf("P23.3: part %d of %#v: behind %#v: %#v, but %#v by Purge", part, c, steps[:i+1], x, y)
					}
					if x.Code == 0 {
						came[s.Kind]++
					}
				}
				v, _ := all.View(part)
				w, _ := some.View(part)
				if !sameViews(v, w) || all.Tick() != some.Tick() {
					t.Fatalf("P23.3: part %d of %#v: behind %#v: %#v, but %#v by Purge", part, c, steps[:i+1], v, w)
				}
				if s != purged[i] {
					gone++
				}
				messages, irqs = messages+len(v.Queue), irqs+len(v.Inbox)
				for k := range v.Memory {
					bytes += int(v.Memory[k])
				}
			}
		}
	}
	for kind := api.StepMap; kind <= api.StepRing; kind++ {
		if came[kind] < 100 {
			t.Errorf("P23.3: kind %d did something only %d times", kind, came[kind])
		}
	}
	if gone < 50000 || bytes == 0 || messages == 0 || irqs == 0 {
		t.Errorf("P23.3: %d steps were gone; %d, %d, %d", gone, bytes, messages, irqs)
	}
}

// TestWhoseADeviceIs: what Purge leaves of a device's requests is what those do who own it by layer 22.
func TestWhoseADeviceIs(t *testing.T) {
	r := numbers(236)
	for range 100 {
		c := made(&r)
		steps := scriptOf(&r, c, 600)
		for part := range c.Parts {
			purged, _ := view.Purge(c, steps, part)
			m, _ := monitor.New(c)
			for i, s := range steps {
				if s.Kind == api.StepDma || s.Kind == api.StepRaise {
					if heard := view.Flows(c, m.Owner(s.Device), part); heard != (purged[i] == s) {
						t.Fatalf("P23.2: part %d, step %d of %#v: %t", part, i, steps, heard)
					}
				}
				m.Do(s)
			}
		}
	}
}
