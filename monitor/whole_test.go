package monitor_test

import (
	"maps"
	"reflect"
	"slices"
	"strings"
	"sync"
	"testing"

	"caisson/api"
	"caisson/monitor"
)

func TestTicks(t *testing.T) {
	// The last tick of all delivers to part 0, so that one more would be seen if it did what the last one did.
	c := sample()
	c.Windows[1].Deliver = api.MaxTick % 12
	x := start(t, c)
	x.code(api.Step{Kind: api.StepVector, A: 0, B: 1}, api.OK)
	x.ticks(api.MaxTick - 1)
	x.code(api.Step{Kind: api.StepRaise, A: 0}, api.OK)
	x.code(api.Step{Kind: api.StepMove, Device: 1, A: 1}, api.OK)
	x.ticks(1)
	x.want(api.Step{Kind: api.StepIrqs}, api.Answer{Irqs: []api.Irq{{Tick: api.MaxTick}}})
	x.code(api.Step{Kind: api.StepRaise, A: 0}, api.OK)
	for range 30 {
		x.code(api.Step{Kind: api.StepTick}, api.ErrMonitorForm)
	}
	if x.m.Tick() != api.MaxTick || x.m.Owner(1) != -1 {
		t.Errorf("P22.1: tick %d, owner %d", x.m.Tick(), x.m.Owner(1))
	}
	x.want(api.Step{Kind: api.StepIrqs}, api.Answer{})
	x.code(api.Step{Kind: api.StepDma, A: 5, B: 1}, api.ErrIommuNone)
	x.want(api.Step{Kind: api.StepFaults}, api.Answer{Faults: []api.Fault{{Tick: api.MaxTick, Iova: 5, Code: 702}}})
}

// flows tells of which partitions a partition may hear.
func flows(c api.Config, to int) []bool {
	var direct [4][4]bool
	for from := range c.Parts {
		for to := range c.Parts {
			direct[from][to] = from == to || over(c.Parts[to].Label, c.Parts[from].Label)
		}
	}
	for _, g := range c.Grants {
		for from, p := range c.Parts {
			if slices.Contains(p.Frames, g.Frame) {
				direct[from][g.To] = true
				direct[g.To][from] = direct[g.To][from] || g.Write
			}
		}
	}
	hears := make([]bool, 4)
	hears[to] = true
	for range 4 {
		for from := range 4 {
			for over := range 4 {
				hears[from] = hears[from] || direct[from][over] && hears[over]
			}
		}
	}
	return hears
}

// purged is a step, or nothing if those of whom it is may not be heard; the owner is its device's now.
func purged(s api.Step, hears []bool, owner int) api.Step {
	of := 0
	switch {
	case s.Kind == api.StepDma || s.Kind == api.StepRaise:
		of = owner
	case s.Kind >= api.StepMap && s.Kind <= api.StepRing:
		of = s.Part
	default:
		return s
	}
	if !is(of, 0, 3) || !hears[of] {
		return api.Step{}
	}
	return s
}

// TestApart: a partition's answers and its View hang on nothing but the ticks, the moves, and the steps of those that flow to it.
func TestApart(t *testing.T) {
	r := numbers(3)
	configs := []api.Config{sample(), sample()}
	for range 40 {
		configs = append(configs, made(&r))
	}
	gone := 0
	for i, c := range configs {
		for part := range c.Parts {
			hears := flows(c, part)
			x := start(t, c)
			alone, _ := monitor.New(c)
			w := &writer{numbers: numbers(1000 + i), p: x.p}
			for range 800 {
				for _, s := range w.next() {
					left := purged(s, hears, x.m.Owner(s.Device))
					if !reflect.DeepEqual(s, left) {
						gone++
					}
					a, b := x.do(s), alone.Do(left)
					if s.Kind >= api.StepMap && s.Part == part && !sameAnswers(a, b) {
						t.Fatalf("T3: %#v: %#v, alone %#v", s, a, b)
					}
					v, _ := x.m.View(part)
					lone, _ := alone.View(part)
					if !sameViews(v, lone) || x.m.Tick() != alone.Tick() {
						t.Fatalf("T3: behind %#v: %#v, alone %#v", s, v, lone)
					}
				}
			}
		}
	}
	if gone < 5000 {
		t.Errorf("T3: %d steps were gone", gone)
	}
}

// TestHandedOver: what comes to an inbox comes at a tick of its windows, was raised while the device was its partition's, which it is still, and comes once.
func TestHandedOver(t *testing.T) {
	r := numbers(4)
	for i := range 30 {
		c := made(&r)
		x := start(t, c)
		w := &writer{numbers: numbers(2000 + i), p: x.p}
		raised := map[wait]int{}
		for range 1500 {
			for _, s := range w.next() {
				if s.Kind == api.StepIrqs {
					continue
				}
				owner := x.m.Owner(s.Device)
				a := x.do(s)
				if s.Kind == api.StepRaise && a.Code == 0 {
					raised[wait{owner, place{s.Device, s.A}}] = 1
				}
				if s.Kind == api.StepMove && a.Code == 0 {
					maps.DeleteFunc(raised, func(w wait, _ int) bool { return w.device == s.Device })
				}
				for part := range c.Parts {
					for _, irq := range x.do(api.Step{Kind: api.StepIrqs, Part: part}).Irqs {
						at := wait{part, place{irq.Device, irq.Vector}}
						windows := slices.ContainsFunc(c.Windows, func(w api.Window) bool { return w.Part == part && w.Deliver == irq.Tick%c.Major })
						if raised[at] == 0 || !windows || s.Kind != api.StepTick || irq.Tick != x.m.Tick() || x.m.Owner(irq.Device) != part {
							t.Fatalf("T2: %#v came to %d behind %#v", irq, part, s)
						}
						delete(raised, at)
					}
				}
			}
		}
	}
}

// spare is a copy of a list with room behind it, and what stands there.
func spare[T any](row []T, with T) []T {
	n := len(row)
	return append(slices.Clone(row), with, with, with)[:n]
}

// whole is a copy of a list and of the spare room behind it.
func whole[T any](row []T) []T {
	return slices.Clone(row[:cap(row)])
}

// roomy is a sample whose lists have room behind them.
func roomy() api.Config {
	c := sample()
	c.Parts, c.Devices = spare(c.Parts, api.Part{First: 1}), spare(c.Devices, api.Device{Part: 1})
	c.Windows, c.Grants = spare(c.Windows, api.Window{Len: 1}), spare(c.Grants, api.Grant{Frame: 3})
	for i := range c.Parts {
		c.Parts[i].Frames = spare(c.Parts[i].Frames, 17)
	}
	for i := range c.Devices {
		c.Devices[i].Pool = spare(c.Devices[i].Pool, 18)
	}
	return c
}

// opened is a copy of all that a config holds, spare room included.
func opened(c api.Config) api.Config {
	c.Parts, c.Devices, c.Windows, c.Grants = whole(c.Parts), whole(c.Devices), whole(c.Windows), whole(c.Grants)
	for i := range c.Parts {
		c.Parts[i].Frames = whole(c.Parts[i].Frames)
	}
	for i := range c.Devices {
		c.Devices[i].Pool = whole(c.Devices[i].Pool)
	}
	return c
}

// scramble turns all numbers of a config's lists.
func scramble(c api.Config) {
	for i := range c.Parts {
		for k := range c.Parts[i].Frames {
			c.Parts[i].Frames[k] = 13 + k
		}
		c.Parts[i] = api.Part{Label: api.Label{Level: 2, Cats: 1}, Frames: []int{1}, First: 2, Count: 1}
	}
	for i := range c.Devices {
		for k := range c.Devices[i].Pool {
			c.Devices[i].Pool[k] = 2 + k
		}
		c.Devices[i] = api.Device{Part: 1}
	}
	for i := range c.Windows {
		c.Windows[i] = api.Window{Part: 1, Start: i, Len: 1, Deliver: i}
	}
	for i := range c.Grants {
		c.Grants[i] = api.Grant{Frame: 0, To: 2, Write: true}
	}
}

func TestNoConfigIsChangedOrKept(t *testing.T) {
	for i := range 10 {
		c, p := roomy(), plainOf(sample())
		was := opened(c)
		m, e := monitor.New(c)
		if e != api.OK {
			t.Fatalf("P22.1: New = %d", e)
		}
		x := &pair{t: t, m: m, p: p}
		w := &writer{numbers: numbers(3000 + i), p: p}
		half := func() {
			for range 500 {
				for _, s := range w.next() {
					x.do(s)
				}
				x.hold("in a script")
			}
		}
		half()
		if now := opened(c); !reflect.DeepEqual(now, was) {
			t.Fatalf("R4: %#v is %#v now", was, now)
		}
		scramble(c)
		turned := opened(c)
		half()
		x.rest()
		if now := opened(c); !reflect.DeepEqual(now, turned) {
			t.Fatalf("R4: %#v is %#v now", turned, now)
		}
	}
}

// spoil turns all of a list, and of the room behind it.
func spoil[T any](row []T, with T) {
	row = row[:cap(row)]
	for i := range row {
		row[i] = with
	}
}

func TestWhatIsAnsweredIsNew(t *testing.T) {
	for i := range 20 {
		x := start(t, sample())
		w := &writer{numbers: numbers(4000 + i), p: x.p}
		var answers []api.Answer
		var views []api.View
		for range 1500 {
			for _, s := range w.next() {
				answers = append(answers, x.do(s))
				for part := range 3 {
					v, _ := x.m.View(part)
					views = append(views, v)
				}
				// Those of some steps before are spoilt, too, as what is kept may have come into their room since.
				answers, views = last(answers, 8), last(views, 24)
				for _, a := range answers {
					spoil(a.Irqs, api.Irq{Tick: -7})
					spoil(a.Faults, api.Fault{Tick: -7})
				}
				for _, v := range views {
					spoil(v.Inbox, api.Irq{Tick: -8})
					spoil(v.Queue, api.Message{From: -8})
				}
				x.hold("with spoilt answers")
			}
		}
	}
}

// last is the last ones of a row, n at most.
func last[T any](row []T, n int) []T {
	return row[max(0, len(row)-n):]
}

func TestWhatWasAnsweredStays(t *testing.T) {
	x := start(t, sample())
	for v := range 3 {
		x.code(api.Step{Kind: api.StepVector, A: v, B: 1}, api.OK)
	}
	raise := func(want int) []api.Irq {
		for v := range 3 {
			x.code(api.Step{Kind: api.StepRaise, A: v}, api.OK)
		}
		x.code(api.Step{Kind: api.StepDma, A: 64 * want, B: 1}, api.ErrIommuNone)
		x.ticks(12)
		return x.do(api.Step{Kind: api.StepIrqs}).Irqs
	}
	first := raise(1)
	faults := x.do(api.Step{Kind: api.StepFaults}).Faults
	raise(2)
	x.do(api.Step{Kind: api.StepFaults})
	if len(first) != 3 || first[0].Tick != 2 || len(faults) != 1 || faults[0].Iova != 64 {
		t.Errorf("R4: %v, %v", first, faults)
	}
}

func TestTwoViewsShareNothing(t *testing.T) {
	x := start(t, sample())
	x.code(api.Step{Kind: api.StepVector, A: 1, B: 1}, api.OK)
	x.code(api.Step{Kind: api.StepRaise, A: 1}, api.OK)
	x.code(api.Step{Kind: api.StepSend, Data: "m"}, api.OK)
	x.ticks(2)
	v, _ := x.m.View(0)
	other, _ := x.m.View(0)
	spoil(v.Inbox, api.Irq{Tick: -7})
	spoil(v.Queue, api.Message{From: -7})
	if len(other.Inbox) != 1 || other.Inbox[0].Tick != 2 || len(other.Queue) != 1 || other.Queue[0].Data != "m" {
		t.Errorf("R4: %#v", other)
	}
	a := x.do(api.Step{Kind: api.StepIrqs})
	if !slices.Equal(a.Irqs, other.Inbox) {
		t.Errorf("P22.1: %#v", a)
	}
	spoil(a.Irqs, api.Irq{Tick: -9})
	if other.Inbox[0].Tick != 2 {
		t.Errorf("R4: %#v", other)
	}
}

func TestViewsInTheConfigsRow(t *testing.T) {
	x := start(t, sample())
	x.secret()
	for part, want := range []string{"aaabbbccc", "iiijjj", "qqq"} {
		v, e := x.m.View(part)
		var b strings.Builder
		for i := 0; i < len(v.Memory); i += 64 {
			b.WriteString(v.Memory[i:i+1] + v.Memory[i+31:i+32] + v.Memory[i+63:i+64])
		}
		if b.String() != want || e != api.OK || v.Left != 9 || len(v.Inbox)+len(v.Queue) != 0 {
			t.Errorf("P22.2: View(%d) = %#v, %d", part, v, e)
		}
	}
}

func TestTwoMonitorsOfOneConfig(t *testing.T) {
	c := sample()
	x, y := start(t, c), start(t, c)
	wx, wy := &writer{numbers: 5, p: x.p}, &writer{numbers: 6, p: y.p}
	for range 2000 {
		for _, s := range wx.next() {
			x.do(s)
		}
		for _, s := range wy.next() {
			y.do(s)
		}
		x.hold("one")
		y.hold("the other")
	}
	x.rest()
	y.rest()
}

func TestNil(t *testing.T) {
	var m *monitor.Monitor
	for kind := -1; kind < 18; kind++ {
		if a := m.Do(api.Step{Kind: kind, B: 1, C: 1, Data: "x"}); !reflect.DeepEqual(a, api.Answer{}) {
			t.Errorf("R3: Do of kind %d = %#v", kind, a)
		}
	}
	for _, n := range append([]int{0, 1}, far...) {
		if v, e := m.View(n); e != api.ErrNil || !reflect.DeepEqual(v, api.View{}) {
			t.Errorf("R3: View(%d) = %#v, %d", n, v, e)
		}
		if m.Owner(n) != 0 || m.Tick() != 0 {
			t.Errorf("R3: Owner(%d) = %d, Tick = %d", n, m.Owner(n), m.Tick())
		}
	}
}

func TestAMonitorThatIsNotNews(t *testing.T) {
	m := &monitor.Monitor{}
	for kind := -1; kind < 18; kind++ {
		for _, n := range []int{0, 1, -1, 4} {
			a := m.Do(api.Step{Kind: kind, Part: n, Device: n, A: n, B: 1, C: 1, Data: "x"})
			if kind != api.StepNone && kind != api.StepTick && a.Code != 2200 {
				t.Errorf("R1: Do of kind %d = %#v", kind, a)
			}
			m.Owner(n)
			if _, e := m.View(n); e != api.ErrMonitorForm {
				t.Errorf("R1: View(%d) = %d", n, e)
			}
		}
	}
}

func TestLongData(t *testing.T) {
	x := start(t, sample())
	x.code(api.Step{Kind: api.StepMap, A: 0, B: 7, C: 3}, api.OK)
	for _, data := range []string{strings.Repeat("l", 4097), strings.Repeat("l", 1<<24)} {
		x.code(api.Step{Kind: api.StepDma, C: 1, Data: data}, api.ErrIommuForm)
		x.code(api.Step{Kind: api.StepWrite, Data: data}, api.ErrMonitorFrame)
		x.code(api.Step{Kind: api.StepSend, Data: data}, api.ErrNicForm)
		x.want(api.Step{Kind: api.StepDma, B: 2, Data: data}, api.Answer{Data: "\x00\x00"})
		x.want(api.Step{Kind: api.StepRead, A: 448, B: 2, Data: data}, api.Answer{Data: "\x00\x00"})
	}
}

func TestFromSeveralGoroutines(t *testing.T) {
	c, wrong := sample(), sample()
	wrong.Grants[0].To = 0
	var group sync.WaitGroup
	for i := range 8 {
		group.Go(func() {
			for range 20 {
				m, e := monitor.New(c)
				if _, bad := monitor.New(wrong); e != api.OK || bad != api.ErrConfigForm {
					t.Errorf("R5: New = %d, %d", e, bad)
					return
				}
				p := plainOf(c)
				w := &writer{numbers: numbers(i), p: p}
				for range 100 {
					for _, s := range w.next() {
						if got, want := m.Do(s), p.do(s); !sameAnswers(got, want) {
							t.Errorf("R5: Do(%#v) = %#v, want %#v", s, got, want)
						}
					}
				}
			}
		})
	}
	group.Wait()
}
