package pending_test

import (
	"math"
	"slices"
	"sync"
	"testing"

	"caisson/api"
	"caisson/pending"
)

// far are numbers that are no device, no vector and no partition.
var far = []int{
	math.MinInt, math.MinInt + 1, math.MinInt + 8, math.MinInt / 2, -1 << 32, math.MinInt32, -256, -8, -4, -2, -1,
	8, 9, 16, 255, 256, 257, 1 << 16, math.MaxInt32, math.MaxUint32, 1 << 32, 1<<32 + 1, 1<<32 + 3, math.MaxInt / 2, math.MaxInt - 1, math.MaxInt,
}

// ticks are the least and the greatest, and some that are none: what Take is handed is what it tells.
var ticks = []int{0, 1, 7, api.MaxTick, api.MaxTick + 1, -1, math.MinInt, math.MaxInt}

// wait is a vector of a device that waits for a partition.
type wait struct {
	part   int
	device int
	vector int
}

// plain is a row of what waits, in any order: what a Sets is held against.
type plain struct {
	waits []wait
}

// raise is what Raise is to do.
func (p *plain) raise(w wait) bool {
	if slices.Contains(p.waits, w) {
		return false
	}
	p.waits = append(p.waits, w)
	return true
}

// take is what Take is to do.
func (p *plain) take(part int, tick int, masked []api.Irq) []api.Irq {
	var irqs []api.Irq
	for device := range api.MaxDevices {
		for vector := range api.Vectors {
			w := wait{part, device, vector}
			at := slices.Index(p.waits, w)
			if at < 0 || isMasked(w, masked) {
				continue
			}
			p.waits = slices.Delete(p.waits, at, at+1)
			irqs = append(irqs, api.Irq{Tick: tick, Device: device, Vector: vector})
		}
	}
	return irqs
}

// clear is what Clear is to do.
func (p *plain) clear(device int) int {
	before := len(p.waits)
	p.waits = slices.DeleteFunc(p.waits, func(w wait) bool { return w.device == device })
	return before - len(p.waits)
}

// isMasked tells whether a list names a vector, at whatever tick.
func isMasked(w wait, masked []api.Irq) bool {
	for _, irq := range masked {
		if irq.Device == w.device && irq.Vector == w.vector {
			return true
		}
	}
	return false
}

// pair is a Sets, and the plain one that it is held against.
type pair struct {
	t     *testing.T
	sets  *pending.Sets
	plain plain
	parts int
}

// made is a pair of so many partitions, in which nothing waits.
func made(t *testing.T, parts int) *pair {
	t.Helper()
	s, e := pending.New(parts)
	if s == nil || e != api.OK {
		t.Fatalf("P12.1: New(%d) = %v, %d", parts, s, e)
	}
	return &pair{t: t, sets: s, parts: parts}
}

// raise holds Raise against what it is to answer.
func (x *pair) raise(w wait) {
	x.t.Helper()
	want := x.plain.raise(w)
	if is, e := x.sets.Raise(w.part, w.device, w.vector); is != want || e != api.OK {
		x.t.Fatalf("P12.1: Raise(%v) = %v, %d, want %v", w, is, e, want)
	}
}

// take holds Take against what it is to answer.
func (x *pair) take(part int, tick int, masked ...api.Irq) {
	x.t.Helper()
	want := x.plain.take(part, tick, masked)
	if got := x.sets.Take(part, tick, masked...); !slices.Equal(got, want) {
		x.t.Fatalf("P12.1: Take(%d, %d, %v) = %v, want %v", part, tick, masked, got, want)
	}
}

// clear holds Clear against what it is to answer.
func (x *pair) clear(device int) {
	x.t.Helper()
	want := x.plain.clear(device)
	if got := x.sets.Clear(device); got != want {
		x.t.Fatalf("P12.1: Clear(%d) = %d, want %d", device, got, want)
	}
}

// empty takes all that waits, for each partition.
func (x *pair) empty() {
	x.t.Helper()
	for part := range x.parts {
		x.take(part, 10+part)
	}
	if len(x.plain.waits) != 0 {
		x.t.Fatalf("P12.1: still there: %v", x.plain.waits)
	}
	for part := range x.parts {
		x.take(part, 20+part)
	}
}

// all are the vectors of all devices, for so many partitions, in a row far from rising.
func all(parts int) []wait {
	var waits []wait
	n := parts * api.MaxDevices * api.Vectors
	for i := range n {
		// 37 has no divisor in common with any n, so that each comes once.
		k := (i*37 + 11) % n
		waits = append(waits, wait{k / 32, k / 8 % 4, k % 8})
	}
	return waits
}

// fill makes all wait.
func (x *pair) fill() {
	x.t.Helper()
	for _, w := range all(x.parts) {
		x.raise(w)
	}
}

// irq is a vector as masked names it.
func irq(device int, vector int) api.Irq {
	return api.Irq{Device: device, Vector: vector}
}

func TestNewHasNothing(t *testing.T) {
	for i := range api.MaxParts {
		x := made(t, i+1)
		x.empty()
		for device := range api.MaxDevices {
			x.clear(device)
		}
		x.take(i, 5, irq(0, 0), irq(3, 7))
		x.empty()
	}
}

func TestNewRefuses(t *testing.T) {
	for _, parts := range append([]int{0, 5, 6, 7}, far...) {
		if s, e := pending.New(parts); s != nil || e != api.ErrPendingForm {
			t.Errorf("P12.1: New(%d) = %v, %d", parts, s, e)
		}
	}
}

func TestRaiseOfEach(t *testing.T) {
	for i := range api.MaxParts {
		for _, w := range all(i + 1) {
			x := made(t, i+1)
			x.raise(w)
			x.raise(w)
			x.raise(w)
			x.empty()
			// It waits no more, so it is new.
			x.raise(w)
			x.raise(w)
			x.empty()
		}
	}
}

func TestAllAtOnce(t *testing.T) {
	for i := range api.MaxParts {
		x := made(t, i+1)
		for range 3 {
			x.fill()
			// None of them is new.
			x.fill()
			x.empty()
		}
	}
}

func TestOrder(t *testing.T) {
	x := made(t, 1)
	// Each vector of device 3 is raised ahead of all of device 2, and so on; within a device the greatest first.
	for k := range 32 {
		x.raise(wait{0, 3 - k/8, 7 - k%8})
	}
	x.empty()
	// By device ahead of vector.
	for _, w := range []wait{{0, 1, 0}, {0, 0, 7}, {0, 3, 1}, {0, 2, 6}, {0, 0, 2}} {
		x.raise(w)
	}
	got := x.sets.Take(0, 3)
	want := []api.Irq{{Tick: 3, Device: 0, Vector: 2}, {Tick: 3, Device: 0, Vector: 7}, {Tick: 3, Device: 1, Vector: 0}, {Tick: 3, Device: 2, Vector: 6}, {Tick: 3, Device: 3, Vector: 1}}
	if !slices.Equal(got, want) {
		t.Fatalf("P12.1: %v, want %v", got, want)
	}
}

func TestPartitionsAreApart(t *testing.T) {
	x := made(t, api.MaxParts)
	for part := range api.MaxParts {
		// The same vector waits for each of them, once.
		x.raise(wait{part, 1, 5})
		x.raise(wait{part, 1, 5})
	}
	for part := range api.MaxParts {
		x.take(part, 9)
		x.take(part, 10)
		for other := range part + 1 {
			x.take(other, 11)
		}
	}
	x.empty()
}

func TestTicks(t *testing.T) {
	for _, tick := range ticks {
		x := made(t, 2)
		x.fill()
		x.take(1, tick, irq(0, 0))
		x.take(1, tick)
		x.take(0, tick)
		x.empty()
	}
}

func TestMaskedStays(t *testing.T) {
	for _, w := range all(2) {
		x := made(t, 2)
		x.fill()
		m := irq(w.device, w.vector)
		x.take(w.part, 4, m)
		// What is masked still waits, so it isn't new; once it isn't masked it is told, once.
		x.raise(w)
		x.take(w.part, 5, m)
		x.take(w.part, 6)
		x.take(w.part, 7)
		x.empty()
	}
}

func TestMaskedOfEachSet(t *testing.T) {
	places := []api.Irq{irq(0, 0), irq(0, 7), irq(1, 0), irq(2, 3), irq(3, 6), irq(3, 7)}
	for bits := range 1 << len(places) {
		for wanted := range 1 << len(places) {
			x := made(t, 1)
			var masked []api.Irq
			for i := range places {
				k := len(places) - 1 - i
				if wanted>>k&1 == 1 {
					x.raise(wait{0, places[k].Device, places[k].Vector})
				}
				if bits>>i&1 == 1 {
					masked = append(masked, places[i])
				}
			}
			x.take(0, 1, masked...)
			x.raise(wait{0, 1, 1})
			x.take(0, 2, masked...)
			x.empty()
		}
	}
}

func TestMaskedAllStay(t *testing.T) {
	x := made(t, 1)
	var masked []api.Irq
	for _, w := range all(1) {
		masked = append(masked, irq(w.device, w.vector))
	}
	x.fill()
	for range 3 {
		x.take(0, 1, masked...)
		x.fill()
	}
	// One fewer is masked each time, so that just one is told.
	for i := range masked {
		x.take(0, i, masked[i+1:]...)
	}
	x.empty()
}

func TestMaskedAtAnyTick(t *testing.T) {
	for _, tick := range append(ticks, far...) {
		x := made(t, 1)
		x.raise(wait{0, 2, 2})
		x.raise(wait{0, 2, 3})
		x.take(0, 8, api.Irq{Tick: tick, Device: 2, Vector: 2})
		x.take(0, tick, api.Irq{Tick: 8, Device: 2, Vector: 2})
		x.empty()
	}
}

func TestMaskedThatNoneWaitFor(t *testing.T) {
	x := made(t, 2)
	x.raise(wait{0, 1, 3})
	x.raise(wait{1, 2, 4})
	// Each has a device or a vector in common with what waits, but not both; that of the other partition doesn't count.
	x.take(0, 1, irq(1, 2), irq(1, 4), irq(0, 3), irq(2, 3), irq(3, 1), irq(2, 4), irq(1, 11), irq(0, 11), irq(2, -5))
	x.take(1, 2, irq(1, 3))
	x.empty()
	// What was masked while it didn't wait isn't masked behind that.
	x.take(0, 3, irq(1, 3))
	x.raise(wait{0, 1, 3})
	x.empty()
}

func TestMaskedThatMayNotBe(t *testing.T) {
	var masked []api.Irq
	for _, n := range append([]int{4, 5}, far...) {
		for k := range 4 {
			masked = append(masked, irq(n, k), irq(n, n), api.Irq{Tick: n, Device: n, Vector: k})
			if n > 7 || n < 0 {
				masked = append(masked, irq(k, n))
			}
		}
	}
	x := made(t, 1)
	x.fill()
	x.take(0, 1, masked...)
	x.empty()
}

func TestMaskedLongAndTwice(t *testing.T) {
	x := made(t, 1)
	var masked []api.Irq
	for i := range 200000 {
		masked = append(masked, api.Irq{Tick: i, Device: i % 2, Vector: i * i % 8})
	}
	x.fill()
	x.take(0, 1, masked...)
	x.take(0, 2, masked...)
	x.empty()
}

func TestMaskedIsNotTouched(t *testing.T) {
	s := made(t, 1)
	room := []api.Irq{{Tick: 5, Device: 3, Vector: 7}, {Tick: 4, Device: 0, Vector: 1}, {Tick: 5, Device: 3, Vector: 7}, {Tick: 6, Device: 2, Vector: 2}, {Tick: 7, Device: 1, Vector: 1}}
	was := slices.Clone(room)
	s.fill()
	s.take(0, 9, room[:3]...)
	if !slices.Equal(room, was) {
		t.Fatalf("R4: %v, want %v", room, was)
	}
	// It isn't kept: what becomes of it behind the call is nothing to the sets.
	for i := range room {
		room[i] = irq(3, 6)
	}
	s.take(0, 10, irq(0, 1))
	s.empty()
}

func TestAnswersShareNothing(t *testing.T) {
	x := made(t, 2)
	x.fill()
	a, b := x.sets.Take(0, 1, irq(0, 0), irq(2, 5)), x.sets.Take(1, 2)
	wantB := slices.Clone(b)
	// Its spare room, too.
	spare := a[:cap(a)]
	for i := range spare {
		spare[i] = irq(1, 1)
	}
	if len(a) != 30 || len(b) != 32 || !slices.Equal(b, wantB) {
		t.Fatalf("R4: %d, %d, %v", len(a), len(b), b)
	}
	c := x.sets.Take(0, 3)
	if !slices.Equal(c, []api.Irq{{Tick: 3}, {Tick: 3, Device: 2, Vector: 5}}) {
		t.Fatalf("R4: %v", c)
	}
}

func TestClearOfEach(t *testing.T) {
	for i := range api.MaxParts {
		for device := range api.MaxDevices {
			x := made(t, i+1)
			x.fill()
			x.clear(device)
			x.clear(device)
			for vector := range api.Vectors {
				// It waits no more, so it is new.
				x.raise(wait{i, device, vector})
			}
			x.take(i, 3, irq(device, 2))
			x.clear(device)
			x.empty()
		}
	}
}

func TestClearCounts(t *testing.T) {
	x := made(t, 3)
	for _, w := range []wait{{0, 1, 1}, {1, 1, 1}, {2, 1, 1}, {2, 1, 7}, {0, 0, 1}, {2, 3, 1}, {2, 3, 1}} {
		x.raise(w)
	}
	for _, c := range [][2]int{{2, 0}, {1, 4}, {1, 0}, {3, 1}, {0, 1}, {0, 0}} {
		x.plain.clear(c[0])
		if got := x.sets.Clear(c[0]); got != c[1] {
			t.Errorf("P12.1: Clear(%d) = %d, want %d", c[0], got, c[1])
		}
	}
	x.empty()
}

func TestClearOfMasked(t *testing.T) {
	x := made(t, 2)
	x.fill()
	for part := range 2 {
		x.take(part, 1, irq(1, 0), irq(1, 7), irq(2, 3))
	}
	x.clear(1)
	x.clear(0)
	x.empty()
}

func TestClearLeavesTheOrder(t *testing.T) {
	for device := range api.MaxDevices {
		for gone := range api.MaxDevices {
			x := made(t, 1)
			// A different row each time: the one that is cleared lies among the others.
			for k := range 32 {
				x.raise(wait{0, (k + device) % 4, k * 5 % 8})
				x.raise(wait{0, (k*3 + 1) % 4, k * 3 % 8})
			}
			x.clear(gone)
			x.raise(wait{0, gone, 4})
			x.raise(wait{0, gone, 0})
			x.empty()
		}
	}
}

func TestRefusals(t *testing.T) {
	for i := range api.MaxParts {
		parts := i + 1
		x := made(t, parts)
		// One half waits, so that what is refused could be new, or not.
		for k, w := range all(parts) {
			if k%2 == 0 {
				x.raise(w)
			}
		}
		refuse := func(w wait) {
			t.Helper()
			if is, e := x.sets.Raise(w.part, w.device, w.vector); is || e != api.ErrPendingForm {
				t.Errorf("P12.1: Raise(%v) = %v, %d", w, is, e)
			}
		}
		for _, n := range append([]int{4, 5, 6, 7}, far...) {
			for k := range 4 {
				refuse(wait{n, k, 2 * k})
				refuse(wait{i, n, k})
				refuse(wait{n, n, k})
				refuse(wait{n, n, n})
			}
			if got := x.sets.Clear(n); got != 0 {
				t.Errorf("P12.1: Clear(%d) = %d", n, got)
			}
			if got := x.sets.Take(n, 1); len(got) != 0 {
				t.Errorf("P12.1: Take(%d) = %v", n, got)
			}
			if got := x.sets.Take(n, 1, irq(0, 0)); len(got) != 0 {
				t.Errorf("P12.1: Take(%d) = %v", n, got)
			}
		}
		for _, n := range far {
			for device := range api.MaxDevices {
				refuse(wait{i, device, n})
				refuse(wait{parts, device, n})
			}
		}
		for part := parts; part < api.MaxParts+2; part++ {
			for _, w := range all(1) {
				refuse(wait{part, w.device, w.vector})
			}
			if got := x.sets.Take(part, 1); len(got) != 0 {
				t.Errorf("P12.1: Take(%d) = %v", part, got)
			}
		}
		x.empty()
	}
}

func TestDevicesHangOnNoPartitions(t *testing.T) {
	// Sets of one partition have all devices there may be.
	x := made(t, 1)
	for device := range api.MaxDevices {
		x.raise(wait{0, 3 - device, device})
	}
	x.empty()
}

func TestAllShortRows(t *testing.T) {
	waits := []wait{{0, 0, 0}, {0, 1, 0}, {1, 0, 0}, {0, 0, 1}}
	steps := []func(x *pair, n int){
		func(x *pair, _ int) { x.raise(waits[0]) },
		func(x *pair, _ int) { x.raise(waits[1]) },
		func(x *pair, _ int) { x.raise(waits[2]) },
		func(x *pair, _ int) { x.raise(waits[3]) },
		func(x *pair, n int) { x.take(0, n) },
		func(x *pair, n int) { x.take(1, n) },
		func(x *pair, n int) { x.take(0, n, irq(0, 0)) },
		func(x *pair, n int) { x.take(0, n, irq(1, 0), irq(0, 1)) },
		func(x *pair, _ int) { x.clear(0) },
		func(x *pair, _ int) { x.clear(1) },
	}
	for row := range 100000 {
		x := made(t, 2)
		left := row
		for n := range 5 {
			steps[left%len(steps)](x, n)
			left /= len(steps)
		}
		x.empty()
	}
}

func TestLongRows(t *testing.T) {
	row := 1
	next := func(n int) int {
		row = (row*1103515245 + 12345) % (1 << 31)
		return row >> 12 % n
	}
	for i := range api.MaxParts {
		x := made(t, i+1)
		for tick := range 20000 {
			w := wait{next(i + 1), next(api.MaxDevices), next(api.Vectors)}
			switch next(24) {
			case 0:
				x.clear(w.device)
			case 1:
				x.take(w.part, tick)
			case 2, 3:
				var masked []api.Irq
				for range next(20) {
					masked = append(masked, api.Irq{Tick: next(100), Device: next(api.MaxDevices), Vector: next(api.Vectors)})
				}
				x.take(w.part, tick, masked...)
			default:
				x.raise(w)
			}
		}
		x.empty()
	}
}

func TestSetsShareNothing(t *testing.T) {
	a, b := made(t, 2), made(t, 2)
	a.raise(wait{0, 1, 1})
	b.raise(wait{1, 1, 1})
	b.raise(wait{0, 1, 1})
	a.take(1, 1)
	a.clear(1)
	b.take(1, 2)
	b.clear(1)
	a.empty()
	b.empty()
}

func TestNilSets(t *testing.T) {
	var none *pending.Sets
	for _, n := range append([]int{0, 1, 3, 4, 7}, far...) {
		for _, w := range []wait{{0, 0, n}, {0, n, 0}, {n, 0, 0}, {n, n, n}} {
			if is, e := none.Raise(w.part, w.device, w.vector); is || e != api.ErrNil {
				t.Errorf("R3: Raise(%v) = %v, %d", w, is, e)
			}
			if got := none.Take(w.part, w.vector, irq(w.device, w.vector)); len(got) != 0 {
				t.Errorf("R3: Take(%d) = %v", w.part, got)
			}
		}
		if got := none.Take(n, n); len(got) != 0 {
			t.Errorf("R3: Take(%d) = %v", n, got)
		}
		if got := none.Clear(n); got != 0 {
			t.Errorf("R3: Clear(%d) = %d", n, got)
		}
	}
}

func TestSetsThatAreNotNews(t *testing.T) {
	var zero pending.Sets
	for _, n := range []int{0, 1, 3, 4, -1, math.MaxInt, math.MinInt} {
		if is, e := zero.Raise(n, 0, 0); is || e != api.ErrPendingForm {
			t.Errorf("P12.1: no partitions: Raise(%d, 0, 0) = %v, %d", n, is, e)
		}
		if len(zero.Take(n, n)) != 0 || len(zero.Take(n, n, irq(n, n))) != 0 || zero.Clear(n) != 0 {
			t.Errorf("R1: no partitions: Take(%d, %d), Clear", n, n)
		}
	}
}

func TestFromSeveralGoroutines(t *testing.T) {
	var group sync.WaitGroup
	for k := range 8 {
		group.Go(func() {
			for tick := range 200 {
				s, e := pending.New(k%api.MaxParts + 1)
				if e != api.OK {
					t.Errorf("R5: New(%d): %d", k%api.MaxParts+1, e)
					return
				}
				if is, e := s.Raise(0, 2, k); !is || e != api.OK {
					t.Errorf("R5: Raise(0, 2, %d) = %v, %d", k, is, e)
				}
				if got := s.Take(0, tick); !slices.Equal(got, []api.Irq{{Tick: tick, Device: 2, Vector: k}}) {
					t.Errorf("R5: Take(0, %d) = %v", tick, got)
				}
			}
		})
	}
	group.Wait()
}
