package frames_test

import (
	"math"
	"slices"
	"sync"
	"testing"

	"caisson/api"
	"caisson/frames"
)

// owners are all that a frame may be set to.
var owners = []int{api.OwnerMonitor, api.OwnerFree, 0, 1, 2, 3}

// made is a table of so many frames.
func made(t *testing.T, count int) *frames.Owners {
	t.Helper()
	o, e := frames.New(count)
	if o == nil || e != api.OK {
		t.Fatalf("P2.1: New(%d) = %v, %d", count, o, e)
	}
	return o
}

// set makes a frame an owner's, which must be allowed.
func set(t *testing.T, o *frames.Owners, frame, owner int) {
	t.Helper()
	if e := o.Set(frame, owner); e != api.OK {
		t.Fatalf("P2.1: Set(%d, %d) = %d", frame, owner, e)
	}
}

// check holds a table against whose each frame is to be.
func check(t *testing.T, o *frames.Owners, want []int) {
	t.Helper()
	all := map[int][]int{}
	for frame, owner := range want {
		all[owner] = append(all[owner], frame)
		if got, e := o.Of(frame); got != owner || e != api.OK {
			t.Fatalf("P2.1: Of(%d) = %d, %d, want %d", frame, got, e, owner)
		}
	}
	for _, owner := range owners {
		if got := o.All(owner); !slices.Equal(got, all[owner]) {
			t.Fatalf("P2.1: All(%d) = %v, want %v", owner, got, all[owner])
		}
	}
	for _, frame := range []int{-1, len(want)} {
		if got, e := o.Of(frame); got != 0 || e != api.ErrFramesForm {
			t.Fatalf("P2.1: Of(%d) = %d, %d, with %d frames", frame, got, e, len(want))
		}
	}
}

func TestNewIsFree(t *testing.T) {
	for i := range api.MaxFrames {
		check(t, made(t, i+1), slices.Repeat([]int{api.OwnerFree}, i+1))
	}
}

func TestNewRefuses(t *testing.T) {
	for _, count := range []int{math.MinInt, -api.MaxFrames, -1, 0, api.MaxFrames + 1, 2 * api.MaxFrames, 1 << 32, 1<<32 + 1, math.MaxInt} {
		if o, e := frames.New(count); o != nil || e != api.ErrFramesForm {
			t.Errorf("P2.1: New(%d) = %v, %d", count, o, e)
		}
	}
}

func TestSet(t *testing.T) {
	for _, count := range []int{1, 2, 7, api.MaxFrames} {
		o := made(t, count)
		want := slices.Repeat([]int{api.OwnerFree}, count)
		for frame := range count {
			for _, owner := range owners {
				set(t, o, frame, owner)
				want[frame] = owner
				check(t, o, want)
			}
		}
	}
}

func TestSetAnywhere(t *testing.T) {
	const count = 61
	o := made(t, count)
	want := slices.Repeat([]int{api.OwnerFree}, count)
	for k := range 1000 {
		frame, owner := k*37%count, owners[k*k%7%len(owners)]
		set(t, o, frame, owner)
		want[frame] = owner
		check(t, o, want)
	}
}

func TestSetTheSameAgain(t *testing.T) {
	o := made(t, 3)
	for range 3 {
		set(t, o, 2, 1)
		set(t, o, 0, 1)
		check(t, o, []int{1, api.OwnerFree, 1})
	}
}

func TestSetRefuses(t *testing.T) {
	const count = 4
	o := made(t, count)
	want := []int{3, api.OwnerMonitor, 0, api.OwnerFree}
	for frame, owner := range want {
		set(t, o, frame, owner)
	}
	for _, c := range []struct {
		name         string
		frame, owner int
	}{
		{"a frame below 0", -1, 0},
		{"a frame behind the last", count, 0},
		{"the last of the greatest memory", api.MaxFrames - 1, 0},
		{"a frame behind the greatest memory's", api.MaxFrames, 0},
		{"the lowest frame", math.MinInt, 0},
		{"the greatest frame", math.MaxInt, 0},
		{"a frame of more than 32 bits", 1<<32 + 1, 0},
		{"a partition behind the last", 1, api.MaxParts},
		{"an owner below the monitor", 1, api.OwnerMonitor - 1},
		{"the lowest owner", 1, math.MinInt},
		{"the greatest owner", 1, math.MaxInt},
		{"an owner of 8 bits and more", 1, 1 << 8},
		{"an owner of more than 32 bits", 1, 1<<32 + 1},
		{"neither", -1, api.MaxParts},
	} {
		if e := o.Set(c.frame, c.owner); e != api.ErrFramesForm {
			t.Errorf("P2.1: %s: Set(%d, %d) = %d", c.name, c.frame, c.owner, e)
		}
		check(t, o, want)
	}
}

func TestOfRefuses(t *testing.T) {
	o := made(t, 4)
	for frame := range 4 {
		set(t, o, frame, 1)
	}
	for _, frame := range []int{math.MinInt, -1, 4, 5, api.MaxFrames - 1, api.MaxFrames, 1 << 32, math.MaxInt} {
		if got, e := o.Of(frame); got != 0 || e != api.ErrFramesForm {
			t.Errorf("P2.1: Of(%d) = %d, %d", frame, got, e)
		}
	}
}

func TestAllOfNoOwner(t *testing.T) {
	o := made(t, api.MaxFrames)
	set(t, o, 0, 0)
	for _, owner := range []int{math.MinInt, api.OwnerMonitor - 1, api.MaxParts, 1 << 32, math.MaxInt} {
		if got := o.All(owner); len(got) != 0 {
			t.Errorf("P2.1: All(%d) = %v", owner, got)
		}
	}
}

func TestAllSharesNothing(t *testing.T) {
	o := made(t, 5)
	want := []int{api.OwnerFree, 2, api.OwnerFree, 2, 2}
	for frame, owner := range want {
		set(t, o, frame, owner)
	}
	first, other := o.All(2), o.All(2)
	for i := range first {
		first[i] = -9
	}
	for i := range first[:cap(first)] {
		first[:cap(first)][i] = -9
	}
	if !slices.Equal(other, []int{1, 3, 4}) {
		t.Errorf("R4: another answer: %v", other)
	}
	check(t, o, want)
}

func TestTablesShareNothing(t *testing.T) {
	a, b := made(t, 2), made(t, 2)
	set(t, a, 0, 0)
	set(t, b, 1, 1)
	check(t, a, []int{0, api.OwnerFree})
	check(t, b, []int{api.OwnerFree, 1})
}

func TestAskingChangesNothing(t *testing.T) {
	o := made(t, 3)
	set(t, o, 1, api.OwnerMonitor)
	for range 3 {
		check(t, o, []int{api.OwnerFree, api.OwnerMonitor, api.OwnerFree})
	}
}

func TestNilOwners(t *testing.T) {
	var none *frames.Owners
	for _, frame := range []int{-1, 0, api.MaxFrames} {
		if got, e := none.Of(frame); got != 0 || e != api.ErrNil {
			t.Errorf("R3: Of(%d) = %d, %d", frame, got, e)
		}
		for _, owner := range append([]int{api.MaxParts, -3}, owners...) {
			if e := none.Set(frame, owner); e != api.ErrNil {
				t.Errorf("R3: Set(%d, %d) = %d", frame, owner, e)
			}
			if got := none.All(owner); len(got) != 0 {
				t.Errorf("R3: All(%d) = %v", owner, got)
			}
		}
	}
}

func TestOwnersThatAreNotNews(t *testing.T) {
	var zero frames.Owners
	if e := zero.Set(0, 0); e != api.ErrFramesForm {
		t.Errorf("P2.1: no frames: Set(0, 0) = %d", e)
	}
	check(t, &zero, nil)
}

func TestNewFromSeveralGoroutines(t *testing.T) {
	var all sync.WaitGroup
	for k := range 8 {
		all.Go(func() {
			for range 200 {
				o, e := frames.New(k + 1)
				if e != api.OK || o.Set(k, k%api.MaxParts) != api.OK || len(o.All(api.OwnerFree)) != k {
					t.Errorf("R5: New(%d): %d", k+1, e)
				}
			}
		})
	}
	all.Wait()
}
