package remap_test

import (
	"math"
	"sync"
	"testing"

	"caisson/api"
	"caisson/remap"
)

// far are numbers that are no device, no vector and no partition.
var far = []int{
	math.MinInt, math.MinInt + 1, math.MinInt + 8, math.MinInt / 2, -1 << 32, math.MinInt32, -256, -8, -4, -2, -1,
	8, 9, 16, 255, 256, 257, 1 << 16, math.MaxInt32, math.MaxUint32, 1 << 32, 1<<32 + 1, 1<<32 + 3, math.MaxInt / 2, math.MaxInt - 1, math.MaxInt,
}

// place is a vector of a device.
type place struct {
	device int
	vector int
}

// route is where a vector leads.
type route struct {
	part   int
	masked bool
}

// made is a table of so many devices.
func made(t *testing.T, devices int) *remap.Table {
	t.Helper()
	x, e := remap.New(devices)
	if x == nil || e != api.OK {
		t.Fatalf("P11.1: New(%d) = %v, %d", devices, x, e)
	}
	return x
}

// all are the vectors of so many devices.
func all(devices int) []place {
	var places []place
	for device := range devices {
		for vector := range api.Vectors {
			places = append(places, place{device, vector})
		}
	}
	return places
}

// put makes all of a table's vectors lead somewhere, as unlike as may be, every third masked, and tells where.
func put(t *testing.T, x *remap.Table, devices int) map[place]route {
	t.Helper()
	want := map[place]route{}
	for i, p := range all(devices) {
		r := route{(i + p.device) % api.MaxParts, i%3 == 0}
		ok(t, "Set", x.Set(p.device, p.vector, r.part))
		ok(t, "Mask", x.Mask(p.device, p.vector, r.masked))
		want[p] = r
	}
	check(t, x, devices, want)
	return want
}

// ok holds a call to have been done.
func ok(t *testing.T, name string, e api.Errno) {
	t.Helper()
	if e != api.OK {
		t.Fatalf("P11.1: %s: %d", name, e)
	}
}

// check holds all of a table against where each vector is to lead.
func check(t *testing.T, x *remap.Table, devices int, want map[place]route) {
	t.Helper()
	for _, p := range all(api.MaxDevices) {
		r, is := want[p]
		e := api.OK
		switch {
		case p.device >= devices:
			e = api.ErrRemapForm
		case !is:
			e = api.ErrRemapNone
		}
		if part, masked, got := x.Look(p.device, p.vector); part != r.part || masked != r.masked || got != e {
			t.Fatalf("P11.1: Look(%d, %d) = %d, %v, %d, want %v, %d, of %d devices", p.device, p.vector, part, masked, got, r, e, devices)
		}
	}
}

// refuse holds all calls on a vector to be refused, but for Clear.
func refuse(t *testing.T, x *remap.Table, device int, vector int, want api.Errno) {
	t.Helper()
	for part := range api.MaxParts {
		if e := x.Set(device, vector, part); e != want {
			t.Errorf("P11.1: Set(%d, %d, %d) = %d, want %d", device, vector, part, e, want)
		}
	}
	refuseOld(t, x, device, vector, want)
}

// refuseOld holds all calls on a vector that need an entry to be refused.
func refuseOld(t *testing.T, x *remap.Table, device int, vector int, want api.Errno) {
	t.Helper()
	if e := x.Unset(device, vector); e != want {
		t.Errorf("P11.1: Unset(%d, %d) = %d, want %d", device, vector, e, want)
	}
	for _, masked := range []bool{true, false} {
		if e := x.Mask(device, vector, masked); e != want {
			t.Errorf("P11.1: Mask(%d, %d, %v) = %d, want %d", device, vector, masked, e, want)
		}
	}
	if part, masked, e := x.Look(device, vector); part != 0 || masked || e != want {
		t.Errorf("P11.1: Look(%d, %d) = %d, %v, %d, want %d", device, vector, part, masked, e, want)
	}
}

func TestNewHasNoEntries(t *testing.T) {
	for i := range api.MaxDevices {
		x := made(t, i+1)
		check(t, x, i+1, nil)
		for _, p := range all(i + 1) {
			refuseOld(t, x, p.device, p.vector, api.ErrRemapNone)
		}
		for device := range i + 1 {
			ok(t, "Clear", x.Clear(device))
		}
		check(t, x, i+1, nil)
	}
}

func TestNewRefuses(t *testing.T) {
	for _, devices := range append([]int{0, 5, 6, 7}, far...) {
		if x, e := remap.New(devices); x != nil || e != api.ErrRemapForm {
			t.Errorf("P11.1: New(%d) = %v, %d", devices, x, e)
		}
	}
}

func TestSetOfEach(t *testing.T) {
	x := made(t, api.MaxDevices)
	want := map[place]route{}
	for _, p := range all(api.MaxDevices) {
		for part := range api.MaxParts {
			ok(t, "Set", x.Set(p.device, p.vector, part))
			want[p] = route{part, false}
			check(t, x, api.MaxDevices, want)
		}
	}
}

func TestSetUnmasks(t *testing.T) {
	x := made(t, 2)
	want := put(t, x, 2)
	for _, part := range []int{3, 3, 0} {
		ok(t, "Mask", x.Mask(1, 4, true))
		want[place{1, 4}] = route{want[place{1, 4}].part, true}
		check(t, x, 2, want)
		ok(t, "Set", x.Set(1, 4, part))
		want[place{1, 4}] = route{part, false}
		check(t, x, 2, want)
	}
}

func TestSetBehindUnsetIsUnmasked(t *testing.T) {
	x := made(t, 1)
	for _, gone := range []func() api.Errno{
		func() api.Errno { return x.Unset(0, 2) },
		func() api.Errno { return x.Clear(0) },
	} {
		ok(t, "Set", x.Set(0, 2, 1))
		ok(t, "Mask", x.Mask(0, 2, true))
		ok(t, "gone", gone())
		check(t, x, 1, nil)
		// Mask of what is gone must not leave a mark, either.
		refuseOld(t, x, 0, 2, api.ErrRemapNone)
		ok(t, "Set", x.Set(0, 2, 3))
		check(t, x, 1, map[place]route{{0, 2}: {3, false}})
	}
}

func TestUnsetOfEach(t *testing.T) {
	for _, p := range all(api.MaxDevices) {
		x := made(t, api.MaxDevices)
		want := put(t, x, api.MaxDevices)
		ok(t, "Unset", x.Unset(p.device, p.vector))
		delete(want, p)
		check(t, x, api.MaxDevices, want)
		refuseOld(t, x, p.device, p.vector, api.ErrRemapNone)
		check(t, x, api.MaxDevices, want)
	}
}

func TestMaskOfEach(t *testing.T) {
	x := made(t, api.MaxDevices)
	want := put(t, x, api.MaxDevices)
	for _, p := range all(api.MaxDevices) {
		for _, masked := range []bool{true, true, false, false, true} {
			ok(t, "Mask", x.Mask(p.device, p.vector, masked))
			want[p] = route{want[p].part, masked}
			check(t, x, api.MaxDevices, want)
		}
	}
}

func TestClearOfEach(t *testing.T) {
	for i := range api.MaxDevices {
		for device := range i + 1 {
			x := made(t, i+1)
			want := put(t, x, i+1)
			for vector := range api.Vectors {
				delete(want, place{device, vector})
			}
			for range 2 {
				ok(t, "Clear", x.Clear(device))
				check(t, x, i+1, want)
			}
			for vector := range api.Vectors {
				refuseOld(t, x, device, vector, api.ErrRemapNone)
			}
			check(t, x, i+1, want)
		}
	}
}

func TestRefusals(t *testing.T) {
	for i := range api.MaxDevices {
		devices := i + 1
		x := made(t, devices)
		want := put(t, x, devices)
		noDevices := append([]int{devices, devices + 1, api.MaxDevices, api.MaxDevices + 1}, far...)
		for _, device := range noDevices {
			for _, vector := range append([]int{0, 7}, far...) {
				refuse(t, x, device, vector, api.ErrRemapForm)
			}
			if e := x.Clear(device); e != api.ErrRemapForm {
				t.Errorf("P11.1: Clear(%d) = %d", device, e)
			}
		}
		for _, vector := range far {
			for device := range devices {
				refuse(t, x, device, vector, api.ErrRemapForm)
			}
		}
		check(t, x, devices, want)
	}
}

func TestSetRefusesParts(t *testing.T) {
	x := made(t, 2)
	for _, part := range append([]int{api.MaxParts, api.MaxParts + 1}, far...) {
		for _, p := range all(2) {
			if e := x.Set(p.device, p.vector, part); e != api.ErrRemapForm {
				t.Errorf("P11.1: Set(%d, %d, %d) = %d", p.device, p.vector, part, e)
			}
		}
		check(t, x, 2, nil)
	}
	want := put(t, x, 2)
	for _, part := range append([]int{api.MaxParts, api.MaxParts + 1}, far...) {
		for _, p := range all(2) {
			if e := x.Set(p.device, p.vector, part); e != api.ErrRemapForm {
				t.Errorf("P11.1: Set(%d, %d, %d) = %d", p.device, p.vector, part, e)
			}
		}
		check(t, x, 2, want)
	}
}

func TestPartsHangOnNoDevices(t *testing.T) {
	// A table of one device leads to all partitions there may be.
	x := made(t, 1)
	want := map[place]route{}
	for part := range api.MaxParts {
		ok(t, "Set", x.Set(0, 7-part, part))
		want[place{0, 7 - part}] = route{part, false}
	}
	check(t, x, 1, want)
}

func TestTablesShareNothing(t *testing.T) {
	a, b := made(t, 2), made(t, 2)
	ok(t, "Set", a.Set(0, 3, 1))
	ok(t, "Set", b.Set(1, 3, 2))
	ok(t, "Mask", b.Mask(1, 3, true))
	check(t, a, 2, map[place]route{{0, 3}: {1, false}})
	check(t, b, 2, map[place]route{{1, 3}: {2, true}})
	ok(t, "Clear", a.Clear(0))
	check(t, a, 2, nil)
	check(t, b, 2, map[place]route{{1, 3}: {2, true}})
}

func TestAskingChangesNothing(t *testing.T) {
	x := made(t, 3)
	want := put(t, x, 3)
	for range 3 {
		check(t, x, 3, want)
	}
}

func TestNilTable(t *testing.T) {
	var none *remap.Table
	for _, device := range append([]int{0, 3, 4}, far...) {
		for _, vector := range append([]int{0, 7}, far...) {
			refuse(t, none, device, vector, api.ErrNil)
			if e := none.Set(device, vector, api.MaxParts); e != api.ErrNil {
				t.Errorf("R3: Set(%d, %d, 4) = %d", device, vector, e)
			}
		}
		if e := none.Clear(device); e != api.ErrNil {
			t.Errorf("R3: Clear(%d) = %d", device, e)
		}
	}
}

func TestTableThatIsNotNews(t *testing.T) {
	var zero remap.Table
	check(t, &zero, 0, nil)
	refuse(t, &zero, 0, 0, api.ErrRemapForm)
	if e := zero.Clear(0); e != api.ErrRemapForm {
		t.Errorf("P11.1: no devices: Clear(0) = %d", e)
	}
}

func TestFromSeveralGoroutines(t *testing.T) {
	var group sync.WaitGroup
	for k := range 8 {
		group.Go(func() {
			for range 200 {
				x, e := remap.New(k%api.MaxDevices + 1)
				if e != api.OK || x.Set(0, k, k%api.MaxParts) != api.OK {
					t.Errorf("R5: New(%d): %d", k%api.MaxDevices+1, e)
					continue
				}
				if part, masked, e := x.Look(0, k); part != k%api.MaxParts || masked || e != api.OK {
					t.Errorf("R5: Look(0, %d) = %d, %v, %d", k, part, masked, e)
				}
			}
		})
	}
	group.Wait()
}
