package irq_test

import (
	"math"
	"slices"
	"sync"
	"testing"

	"caisson/api"
	"caisson/irq"
)

// far are numbers that are no device, no vector and no partition.
var far = []int{
	math.MinInt, math.MinInt + 1, math.MinInt / 2, -1 << 32, math.MinInt32, -256, -8, -4, -1,
	8, 9, 16, 255, 256, 1 << 16, math.MaxInt32, 1 << 32, 1<<32 + 1, 1<<32 + 3, math.MaxInt / 2, math.MaxInt,
}

// place is a vector of a device.
type place struct {
	device int
	vector int
}

// route is where a vector leads.
type route struct {
	part   int
	masked bool
}

// wait is a vector that waits for a partition.
type wait struct {
	part int
	place
}

// plain is entries and a row of what waits, in any order: what a Unit is held against.
type plain struct {
	devices int
	parts   int
	routes  map[place]route
	waits   []wait
}

// form tells whether a place is of a vector that there is.
func (p *plain) form(at place) bool {
	return at.device >= 0 && at.device < p.devices && at.vector >= 0 && at.vector < api.Vectors
}

// hasPart tells whether there is such a partition.
func (p *plain) hasPart(part int) bool {
	return part >= 0 && part < p.parts
}

// there is what a call that needs an entry is to answer, if nothing else is wrong.
func (p *plain) there(at place) api.Errno {
	if !p.form(at) {
		return api.ErrIrqForm
	}
	if _, is := p.routes[at]; !is {
		return api.ErrIrqNone
	}
	return api.OK
}

// forget makes those wait no more that are meant.
func (p *plain) forget(meant func(w wait) bool) {
	p.waits = slices.DeleteFunc(p.waits, meant)
}

// pair is a Unit, and the plain one that it is held against.
type pair struct {
	t     *testing.T
	unit  *irq.Unit
	plain plain
}

// made is a pair of so many devices and partitions.
func made(t *testing.T, devices int, parts int) *pair {
	t.Helper()
	u, e := irq.New(devices, parts)
	if u == nil || e != api.OK {
		t.Fatalf("P13.1: New(%d, %d) = %v, %d", devices, parts, u, e)
	}
	return &pair{t: t, unit: u, plain: plain{devices: devices, parts: parts, routes: map[place]route{}}}
}

// same holds what a call answered against what it is to answer, and tells whether it was to be done.
func (x *pair) same(name string, got api.Errno, want api.Errno) bool {
	x.t.Helper()
	if got != want {
		x.t.Fatalf("%s = %d, want %d", name, got, want)
	}
	return want == api.OK
}

// route holds Route against what it is to do.
func (x *pair) route(device int, vector int, part int) {
	x.t.Helper()
	at := place{device, vector}
	want := api.OK
	if !x.plain.form(at) || !x.plain.hasPart(part) {
		want = api.ErrIrqForm
	}
	if x.same("P13.1: Route", x.unit.Route(device, vector, part), want) {
		x.plain.routes[at] = route{part: part}
	}
}

// unroute holds Unroute against what it is to do.
func (x *pair) unroute(device int, vector int) {
	x.t.Helper()
	at := place{device, vector}
	if x.same("P13.1: Unroute", x.unit.Unroute(device, vector), x.plain.there(at)) {
		delete(x.plain.routes, at)
		x.plain.forget(func(w wait) bool { return w.place == at })
	}
}

// mask holds Mask against what it is to do.
func (x *pair) mask(device int, vector int, masked bool) {
	x.t.Helper()
	at := place{device, vector}
	if x.same("P13.1: Mask", x.unit.Mask(device, vector, masked), x.plain.there(at)) {
		x.plain.routes[at] = route{x.plain.routes[at].part, masked}
	}
}

// raise holds Raise against what it is to do.
func (x *pair) raise(device int, vector int, part int) {
	x.t.Helper()
	at := place{device, vector}
	want := x.plain.there(at)
	switch {
	case !x.plain.hasPart(part):
		want = api.ErrIrqForm
	case want == api.OK && x.plain.routes[at].part != part:
		want = api.ErrIrqNone
	}
	if x.same("P13.2: Raise", x.unit.Raise(device, vector, part), want) && !slices.Contains(x.plain.waits, wait{part, at}) {
		x.plain.waits = append(x.plain.waits, wait{part, at})
	}
}

// deliver holds Deliver against what it is to do.
func (x *pair) deliver(part int, tick int) {
	x.t.Helper()
	var want []api.Irq
	for device := range x.plain.devices {
		for vector := range api.Vectors {
			w := wait{part, place{device, vector}}
			if slices.Contains(x.plain.waits, w) && !x.plain.routes[w.place].masked {
				want = append(want, api.Irq{Tick: tick, Device: device, Vector: vector})
			}
		}
	}
	x.plain.forget(func(w wait) bool { return w.part == part && !x.plain.routes[w.place].masked })
	if got := x.unit.Deliver(part, tick); !slices.Equal(got, want) {
		x.t.Fatalf("P13.2: Deliver(%d, %d) = %v, want %v", part, tick, got, want)
	}
}

// clear holds Clear against what it is to do.
func (x *pair) clear(device int) {
	x.t.Helper()
	want := api.OK
	if device < 0 || device >= x.plain.devices {
		want = api.ErrIrqForm
	}
	if x.same("P13.2: Clear", x.unit.Clear(device), want) {
		for vector := range api.Vectors {
			delete(x.plain.routes, place{device, vector})
		}
		x.plain.forget(func(w wait) bool { return w.device == device })
	}
}

// all are the vectors of the unit's devices.
func (x *pair) all() []place {
	var places []place
	for device := range x.plain.devices {
		for vector := range api.Vectors {
			places = append(places, place{device, vector})
		}
	}
	return places
}

// fill makes each vector lead somewhere and wait there; the first partition of a unit has the most.
func (x *pair) fill() {
	x.t.Helper()
	for i, at := range x.all() {
		part := i % 5 % x.plain.parts
		x.route(at.device, at.vector, part)
		x.raise(at.device, at.vector, part)
	}
}

// end asks where each vector leads, by raising it for all, and hands over all that wait: first what isn't masked, then the rest.
func (x *pair) end() {
	x.t.Helper()
	x.drain(100)
	for _, at := range x.all() {
		for part := range x.plain.parts {
			x.raise(at.device, at.vector, part)
		}
	}
	x.drain(200)
	for _, at := range x.all() {
		x.mask(at.device, at.vector, false)
	}
	x.drain(300)
	if len(x.plain.waits) != 0 {
		x.t.Fatalf("P13.2: still there: %v", x.plain.waits)
	}
}

// drain hands over twice to each partition, so that what was handed over is seen to wait no more.
func (x *pair) drain(tick int) {
	x.t.Helper()
	for i := range 2 * x.plain.parts {
		x.deliver(i%x.plain.parts, tick+i)
	}
}

// sizes is done for units of all sizes.
func sizes(t *testing.T, do func(x *pair)) {
	t.Helper()
	for d := range api.MaxDevices {
		for p := range api.MaxParts {
			do(made(t, d+1, p+1))
		}
	}
}

func TestNewHasNothing(t *testing.T) {
	sizes(t, func(x *pair) {
		x.drain(0)
		for _, at := range x.all() {
			x.unroute(at.device, at.vector)
			x.mask(at.device, at.vector, true)
			for part := range x.plain.parts {
				x.raise(at.device, at.vector, part)
			}
		}
		x.end()
		for device := range x.plain.devices {
			x.clear(device)
		}
		x.end()
	})
}

func TestNewRefuses(t *testing.T) {
	for _, n := range append([]int{0, 5, 6, 7}, far...) {
		for k := range 6 {
			for _, c := range [][2]int{{n, k}, {k, n}, {n, n}} {
				if u, e := irq.New(c[0], c[1]); u != nil || e != api.ErrIrqForm {
					t.Errorf("P13.1: New(%d, %d) = %v, %d", c[0], c[1], u, e)
				}
			}
		}
	}
}

func TestRouteOfEach(t *testing.T) {
	sizes(t, func(x *pair) {
		for _, at := range x.all() {
			for part := range x.plain.parts {
				x.route(at.device, at.vector, part)
				x.end()
			}
		}
	})
}

func TestRouteUnmasks(t *testing.T) {
	for part := range 2 {
		x := made(t, 1, 2)
		x.route(0, 3, 0)
		x.mask(0, 3, true)
		x.raise(0, 3, 0)
		x.deliver(0, 1)
		x.route(0, 3, part)
		if got, want := x.unit.Deliver(0, 2), []api.Irq{{Tick: 2, Vector: 3}}; !slices.Equal(got, want) {
			t.Fatalf("P13.1: %v, want %v", got, want)
		}
		x.plain.waits = nil
		x.end()
	}
}

func TestRouteElsewhereLeavesWhatWaits(t *testing.T) {
	x := made(t, 2, 3)
	x.route(1, 5, 0)
	x.raise(1, 5, 0)
	x.route(1, 5, 2)
	// It leads to another one now, but waits where it waited; both may wait for it.
	x.raise(1, 5, 0)
	x.raise(1, 5, 2)
	x.mask(1, 5, true)
	x.drain(1)
	x.mask(1, 5, false)
	for _, part := range []int{2, 0} {
		got := x.unit.Deliver(part, 9)
		if want := []api.Irq{{Tick: 9, Device: 1, Vector: 5}}; !slices.Equal(got, want) {
			t.Fatalf("P13.2: Deliver(%d) = %v, want %v", part, got, want)
		}
	}
	x.plain.waits = nil
	x.end()
}

func TestUnrouteOfEach(t *testing.T) {
	sizes(t, func(x *pair) {
		for _, at := range x.all() {
			x.fill()
			x.unroute(at.device, at.vector)
			x.unroute(at.device, at.vector)
			x.end()
			// It leads somewhere again, but what waited doesn't come back.
			x.route(at.device, at.vector, x.plain.parts-1)
			x.end()
		}
	})
}

func TestUnrouteIsForAllPartitions(t *testing.T) {
	x := made(t, 2, api.MaxParts)
	for _, vector := range []int{1, 2} {
		for part := range api.MaxParts {
			x.route(1, vector, part)
			x.raise(1, vector, part)
		}
	}
	x.unroute(1, 1)
	x.route(1, 1, 0)
	for part := range api.MaxParts {
		got := x.unit.Deliver(part, part)
		if want := []api.Irq{{Tick: part, Device: 1, Vector: 2}}; !slices.Equal(got, want) {
			t.Fatalf("P13.1: Deliver(%d) = %v, want %v", part, got, want)
		}
	}
}

func TestUnrouteOfMasked(t *testing.T) {
	x := made(t, 2, 2)
	x.fill()
	for _, at := range x.all() {
		x.mask(at.device, at.vector, true)
	}
	x.unroute(0, 4)
	x.unroute(1, 0)
	x.route(0, 4, 0)
	x.drain(1)
	x.end()
}

func TestMaskOfEach(t *testing.T) {
	x := made(t, api.MaxDevices, 3)
	for _, at := range x.all() {
		for _, masked := range []bool{true, true, false, false, true} {
			x.fill()
			x.mask(at.device, at.vector, masked)
			x.drain(7)
		}
		// What was raised while it was masked waits, too, once.
		x.fill()
		x.mask(at.device, at.vector, true)
		x.drain(8)
		x.end()
	}
}

func TestRaiseOfMasked(t *testing.T) {
	x := made(t, 1, 2)
	x.route(0, 6, 1)
	x.mask(0, 6, true)
	x.raise(0, 6, 1)
	x.raise(0, 6, 1)
	for tick := range 3 {
		if got := x.unit.Deliver(1, tick); len(got) != 0 {
			t.Fatalf("P13.2: %v of what is masked", got)
		}
	}
	x.mask(0, 6, false)
	if got, want := x.unit.Deliver(1, 3), []api.Irq{{Tick: 3, Vector: 6}}; !slices.Equal(got, want) {
		t.Fatalf("P13.2: %v, want %v", got, want)
	}
	if got := x.unit.Deliver(1, 4); len(got) != 0 {
		t.Fatalf("P13.2: %v was handed over", got)
	}
}

func TestMaskedOfEachSet(t *testing.T) {
	places := []place{{0, 0}, {0, 7}, {1, 0}, {2, 3}, {3, 0}, {3, 7}}
	for bits := range 1 << len(places) {
		for raised := range 1 << len(places) {
			x := made(t, api.MaxDevices, 1)
			for i, at := range places {
				x.route(at.device, at.vector, 0)
				x.mask(at.device, at.vector, bits>>i&1 == 1)
				if raised>>i&1 == 1 {
					x.raise(at.device, at.vector, 0)
				}
			}
			x.end()
		}
	}
}

func TestRaiseOfEach(t *testing.T) {
	sizes(t, func(x *pair) {
		for _, at := range x.all() {
			for to := range x.plain.parts {
				x.route(at.device, at.vector, to)
				for part := range x.plain.parts {
					x.raise(at.device, at.vector, part)
					x.raise(at.device, at.vector, part)
				}
				x.drain(3)
			}
			x.unroute(at.device, at.vector)
			x.raise(at.device, at.vector, 0)
			x.drain(4)
		}
		x.end()
	})
}

func TestDeliverIsInOrder(t *testing.T) {
	x := made(t, api.MaxDevices, 1)
	places := x.all()
	for i := range places {
		// 11 has no divisor in common with 32, so that each comes once.
		at := places[(i*11+5)%len(places)]
		x.route(at.device, at.vector, 0)
		x.raise(at.device, at.vector, 0)
	}
	got := x.unit.Deliver(0, 77)
	for i, at := range places {
		if len(got) != len(places) || got[i] != (api.Irq{Tick: 77, Device: at.device, Vector: at.vector}) {
			t.Fatalf("P13.2: %v", got)
		}
	}
}

func TestDeliverAtAnyTick(t *testing.T) {
	for _, tick := range append([]int{0, 1, api.MaxTick, api.MaxTick + 1}, far...) {
		x := made(t, 2, 2)
		x.fill()
		x.mask(0, 0, true)
		for part := range 2 {
			x.deliver(part, tick)
		}
		x.end()
	}
}

func TestDeliverOfNoPartition(t *testing.T) {
	sizes(t, func(x *pair) {
		x.fill()
		for _, part := range append([]int{x.plain.parts, api.MaxParts, api.MaxParts + 1}, far...) {
			if got := x.unit.Deliver(part, 1); len(got) != 0 {
				t.Errorf("P13.2: Deliver(%d) = %v", part, got)
			}
		}
		x.end()
	})
}

func TestClearOfEach(t *testing.T) {
	sizes(t, func(x *pair) {
		for device := range x.plain.devices {
			x.fill()
			x.mask(device, 2, true)
			x.clear(device)
			x.clear(device)
			x.drain(1)
			for vector := range api.Vectors {
				x.mask(device, vector, true)
				x.unroute(device, vector)
				x.raise(device, vector, 0)
				// It leads somewhere again, but what waited doesn't come back.
				x.route(device, vector, 0)
			}
			x.end()
		}
	})
}

func TestClearIsForAllPartitions(t *testing.T) {
	x := made(t, 2, api.MaxParts)
	for device := range 2 {
		for part := range api.MaxParts {
			x.route(device, 4, part)
			x.raise(device, 4, part)
		}
	}
	x.clear(0)
	x.route(0, 4, 0)
	for part := range api.MaxParts {
		got := x.unit.Deliver(part, 5)
		if want := []api.Irq{{Tick: 5, Device: 1, Vector: 4}}; !slices.Equal(got, want) {
			t.Fatalf("P13.2: Deliver(%d) = %v, want %v", part, got, want)
		}
	}
}

// refuse asks all of a place that is none, and of a partition.
func (x *pair) refuse(device int, vector int, part int) {
	x.t.Helper()
	x.route(device, vector, part)
	x.raise(device, vector, part)
	x.unroute(device, vector)
	for _, masked := range []bool{true, false} {
		x.mask(device, vector, masked)
	}
}

func TestRefusals(t *testing.T) {
	sizes(t, func(x *pair) {
		x.fill()
		devices := append([]int{x.plain.devices, api.MaxDevices, api.MaxDevices + 1}, far...)
		parts := append([]int{0, x.plain.parts, api.MaxParts}, far...)
		for _, device := range devices {
			x.clear(device)
			for _, vector := range []int{0, 7, 8, -1, math.MaxInt} {
				for _, part := range parts {
					x.refuse(device, vector, part)
				}
			}
		}
		for _, vector := range far {
			for _, part := range parts {
				x.refuse(x.plain.devices-1, vector, part)
			}
		}
		x.end()
	})
}

func TestPartsThatAreNone(t *testing.T) {
	sizes(t, func(x *pair) {
		// One half leads somewhere: whether there is an entry counts for nothing if there is no such partition.
		for i, at := range x.all() {
			if i%2 == 0 {
				x.route(at.device, at.vector, 0)
				x.mask(at.device, at.vector, i%4 == 0)
			}
		}
		for _, part := range append([]int{x.plain.parts, x.plain.parts + 1, api.MaxParts, api.MaxParts + 1}, far...) {
			for _, at := range x.all() {
				x.route(at.device, at.vector, part)
				x.raise(at.device, at.vector, part)
			}
		}
		x.end()
	})
}

func TestAllShortRows(t *testing.T) {
	steps := []func(x *pair, n int){
		func(x *pair, _ int) { x.route(0, 0, 0) },
		func(x *pair, _ int) { x.route(0, 0, 1) },
		func(x *pair, _ int) { x.route(1, 0, 0) },
		func(x *pair, _ int) { x.unroute(0, 0) },
		func(x *pair, _ int) { x.mask(0, 0, true) },
		func(x *pair, _ int) { x.mask(0, 0, false) },
		func(x *pair, _ int) { x.raise(0, 0, 0) },
		func(x *pair, _ int) { x.raise(0, 0, 1) },
		func(x *pair, n int) { x.deliver(0, n) },
		func(x *pair, _ int) { x.clear(0) },
	}
	for row := range 100000 {
		x := made(t, 2, 2)
		x.route(0, 0, 0)
		x.raise(0, 0, 0)
		left := row
		for n := range 5 {
			steps[left%len(steps)](x, n)
			left /= len(steps)
		}
		x.drain(10)
	}
}

func TestLongRows(t *testing.T) {
	row := 1
	next := func(n int) int {
		row = (row*1103515245 + 12345) % (1 << 31)
		return row >> 12 % n
	}
	sizes(t, func(x *pair) {
		for tick := range 2000 {
			device, vector, part := next(x.plain.devices), next(api.Vectors), next(x.plain.parts)
			switch next(20) {
			case 0:
				x.clear(device)
			case 1:
				x.unroute(device, vector)
			case 2, 3, 4:
				x.mask(device, vector, next(2) == 0)
			case 5, 6, 7, 8:
				x.route(device, vector, part)
			case 9, 10:
				x.deliver(part, tick)
			default:
				x.raise(device, vector, part)
			}
		}
		x.end()
	})
}

func TestAnswersShareNothing(t *testing.T) {
	x := made(t, api.MaxDevices, 2)
	x.fill()
	x.mask(0, 0, true)
	a, b := x.unit.Deliver(0, 1), x.unit.Deliver(1, 2)
	was := slices.Clone(b)
	// Its spare room, too.
	spare := a[:cap(a)]
	for i := range spare {
		spare[i] = api.Irq{Tick: 4, Device: 1, Vector: 1}
	}
	if len(a) == 0 || len(b) == 0 || !slices.Equal(b, was) {
		t.Fatalf("R4: %v, %v", a, b)
	}
	x.mask(0, 0, false)
	if got := x.unit.Deliver(0, 3); !slices.Equal(got, []api.Irq{{Tick: 3}}) {
		t.Fatalf("R4: %v", got)
	}
}

func TestUnitsShareNothing(t *testing.T) {
	a, b := made(t, 2, 2), made(t, 2, 2)
	a.fill()
	b.route(1, 1, 1)
	b.mask(1, 1, true)
	b.raise(1, 1, 1)
	a.unroute(1, 1)
	a.clear(0)
	b.drain(1)
	a.end()
	b.end()
}

func TestNilUnit(t *testing.T) {
	var none *irq.Unit
	for _, n := range append([]int{0, 1, 3, 4, 7}, far...) {
		for _, c := range [][3]int{{0, 0, n}, {0, n, 0}, {n, 0, 0}, {n, n, n}} {
			got := []api.Errno{none.Route(c[0], c[1], c[2]), none.Unroute(c[0], c[1]), none.Mask(c[0], c[1], true), none.Raise(c[0], c[1], c[2]), none.Clear(c[0])}
			for i, e := range got {
				if e != api.ErrNil {
					t.Errorf("R3: call %d of %v = %d", i, c, e)
				}
			}
			if irqs := none.Deliver(c[0], c[1]); len(irqs) != 0 {
				t.Errorf("R3: Deliver(%d) = %v", c[0], irqs)
			}
		}
	}
}

func TestUnitThatIsNotNews(t *testing.T) {
	var zero irq.Unit
	for _, n := range []int{0, 1, 3, 4, -1, math.MaxInt, math.MinInt} {
		got := []api.Errno{zero.Route(n, 0, 0), zero.Unroute(n, 0), zero.Mask(n, 0, true), zero.Raise(n, 0, 0), zero.Clear(n)}
		for i, e := range got {
			if e != api.ErrIrqForm {
				t.Errorf("P13.1: no devices: call %d of %d = %d", i, n, e)
			}
		}
		if irqs := zero.Deliver(n, n); len(irqs) != 0 {
			t.Errorf("R1: no partitions: Deliver(%d) = %v", n, irqs)
		}
	}
}

func TestFromSeveralGoroutines(t *testing.T) {
	var group sync.WaitGroup
	for k := range 8 {
		group.Go(func() {
			for tick := range 200 {
				u, e := irq.New(k%api.MaxDevices+1, k%api.MaxParts+1)
				if e != api.OK || u.Route(0, k, 0) != api.OK || u.Raise(0, k, 0) != api.OK {
					t.Errorf("R5: New(%d, %d): %d", k%api.MaxDevices+1, k%api.MaxParts+1, e)
					return
				}
				if got := u.Deliver(0, tick); !slices.Equal(got, []api.Irq{{Tick: tick, Vector: k}}) {
					t.Errorf("R5: Deliver(0, %d) = %v", tick, got)
				}
			}
		})
	}
	group.Wait()
}
