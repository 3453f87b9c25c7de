package lattice_test

import (
	"math"
	"sync"
	"testing"

	"caisson/api"
	"caisson/lattice"
)

// all are the labels that may be.
func all() []api.Label {
	var labels []api.Label
	for level := range api.MaxLevel + 1 {
		for cats := range api.MaxCats + 1 {
			labels = append(labels, api.Label{Level: level, Cats: cats})
		}
	}
	return labels
}

// edges are numbers round which a level, or a set of categories, is one no more.
func edges() []int {
	numbers := []int{
		math.MinInt, math.MinInt + 1, math.MinInt + 3, math.MinInt / 2, -1 << 32, math.MinInt32, -256, -16,
		255, 256, 257, 1 << 16, 1<<16 + 3, math.MaxInt32, math.MaxUint32, 1 << 32, 1<<32 + 3, 1<<32 + 15, math.MaxInt / 2, math.MaxInt - 1, math.MaxInt,
	}
	for i := range 2*api.MaxCats + 10 {
		numbers = append(numbers, i-8)
	}
	return numbers
}

// wrong are labels near the edges that may not be.
func wrong() []api.Label {
	may := map[api.Label]int{}
	for i, a := range all() {
		may[a] = i
	}
	var labels []api.Label
	for _, level := range edges() {
		for _, cats := range edges() {
			a := api.Label{Level: level, Cats: cats}
			if _, ok := may[a]; !ok {
				labels = append(labels, a)
			}
		}
	}
	return labels
}

// has is a label's categories, one by one.
func has(a api.Label) [4]bool {
	var cats [4]bool
	for i := range cats {
		cats[i] = a.Cats>>i%2 == 1
	}
	return cats
}

// over is what Dominates is to tell of two labels that may be.
func over(a, b api.Label) bool {
	mine, others := has(a), has(b)
	for i := range mine {
		if others[i] && !mine[i] {
			return false
		}
	}
	return a.Level >= b.Level
}

// both is what Join is to tell of two labels that may be.
func both(a, b api.Label) api.Label {
	join := a
	if b.Level > a.Level {
		join.Level = b.Level
	}
	mine := has(a)
	for i, other := range has(b) {
		if other && !mine[i] {
			join.Cats += 1 << i
		}
	}
	return join
}

// refuse holds two labels, of which one may not be, to be refused.
func refuse(t *testing.T, a, b api.Label) {
	t.Helper()
	if lattice.Dominates(a, b) {
		t.Errorf("P9.1: Dominates(%v, %v) = true", a, b)
	}
	if got, e := lattice.Join(a, b); got != (api.Label{}) || e != api.ErrLatticeForm {
		t.Errorf("P9.1: Join(%v, %v) = %v, %d", a, b, got, e)
	}
}

func TestMay(t *testing.T) {
	for _, c := range []struct {
		name string
		a    api.Label
		want bool
	}{
		{"the lowest", api.Label{}, true},
		{"the highest", api.Label{Level: 3, Cats: 15}, true},
		{"the highest level alone", api.Label{Level: 3}, true},
		{"all categories alone", api.Label{Cats: 15}, true},
		{"one between", api.Label{Level: 2, Cats: 5}, true},
		{"a level behind the last", api.Label{Level: 4}, false},
		{"a level below 0", api.Label{Level: -1}, false},
		{"a category behind the last", api.Label{Cats: 16}, false},
		{"a category behind the last, beside the others", api.Label{Cats: 31}, false},
		{"categories below 0", api.Label{Cats: -1}, false},
		{"below 0, no category in the lowest bits", api.Label{Cats: -16}, false},
		{"both behind the last", api.Label{Level: 4, Cats: 16}, false},
		{"both below 0", api.Label{Level: -1, Cats: -1}, false},
		{"a level whose lowest bits are one", api.Label{Level: 1<<32 + 3}, false},
		{"categories whose lowest bits are some", api.Label{Cats: 1<<32 + 15}, false},
		{"the least level", api.Label{Level: math.MinInt}, false},
		{"the least categories", api.Label{Cats: math.MinInt}, false},
		{"the greatest of both", api.Label{Level: math.MaxInt, Cats: math.MaxInt}, false},
	} {
		if got := lattice.May(c.a); got != c.want {
			t.Errorf("P9.1: %s: May(%v) = %v", c.name, c.a, got)
		}
	}
}

func TestAllThatMayBe(t *testing.T) {
	labels := all()
	if len(labels) != 64 {
		t.Fatalf("P9.1: %d labels", len(labels))
	}
	for _, a := range labels {
		if !lattice.May(a) {
			t.Errorf("P9.1: May(%v) = false", a)
		}
	}
	for _, a := range wrong() {
		if lattice.May(a) {
			t.Errorf("P9.1: May(%v) = true", a)
		}
	}
}

func TestDominates(t *testing.T) {
	for _, c := range []struct {
		name string
		a, b api.Label
		want bool
	}{
		{"the lowest, itself", api.Label{}, api.Label{}, true},
		{"the highest, itself", api.Label{Level: 3, Cats: 15}, api.Label{Level: 3, Cats: 15}, true},
		{"the highest, the lowest", api.Label{Level: 3, Cats: 15}, api.Label{}, true},
		{"the lowest, the highest", api.Label{}, api.Label{Level: 3, Cats: 15}, false},
		{"a higher level", api.Label{Level: 2, Cats: 5}, api.Label{Level: 1, Cats: 5}, true},
		{"a lower level", api.Label{Level: 1, Cats: 5}, api.Label{Level: 2, Cats: 5}, false},
		{"more categories", api.Label{Level: 1, Cats: 7}, api.Label{Level: 1, Cats: 5}, true},
		{"fewer categories", api.Label{Level: 1, Cats: 5}, api.Label{Level: 1, Cats: 7}, false},
		{"a higher level, fewer categories", api.Label{Level: 3, Cats: 5}, api.Label{Level: 0, Cats: 7}, false},
		{"a lower level, more categories", api.Label{Level: 0, Cats: 7}, api.Label{Level: 3, Cats: 5}, false},
		{"other categories, a greater number", api.Label{Level: 3, Cats: 8}, api.Label{Level: 0, Cats: 7}, false},
		{"other categories, a smaller number", api.Label{Level: 3, Cats: 7}, api.Label{Level: 0, Cats: 8}, false},
		{"some in common", api.Label{Level: 1, Cats: 6}, api.Label{Level: 1, Cats: 3}, false},
	} {
		if got := lattice.Dominates(c.a, c.b); got != c.want {
			t.Errorf("P9.1: %s: Dominates(%v, %v) = %v", c.name, c.a, c.b, got)
		}
	}
}

func TestJoin(t *testing.T) {
	for _, c := range []struct {
		name       string
		a, b, want api.Label
	}{
		{"the lowest, itself", api.Label{}, api.Label{}, api.Label{}},
		{"one, itself", api.Label{Level: 2, Cats: 9}, api.Label{Level: 2, Cats: 9}, api.Label{Level: 2, Cats: 9}},
		{"one, the lowest", api.Label{Level: 2, Cats: 9}, api.Label{}, api.Label{Level: 2, Cats: 9}},
		{"one, the highest", api.Label{Level: 2, Cats: 9}, api.Label{Level: 3, Cats: 15}, api.Label{Level: 3, Cats: 15}},
		{"unlike levels", api.Label{Level: 1}, api.Label{Level: 2}, api.Label{Level: 2}},
		{"unlike categories", api.Label{Cats: 5}, api.Label{Cats: 10}, api.Label{Cats: 15}},
		{"some in common", api.Label{Level: 1, Cats: 6}, api.Label{Level: 1, Cats: 3}, api.Label{Level: 1, Cats: 7}},
		{"the level of one, the categories of the other", api.Label{Level: 3}, api.Label{Level: 1, Cats: 4}, api.Label{Level: 3, Cats: 4}},
	} {
		if got, e := lattice.Join(c.a, c.b); got != c.want || e != api.OK {
			t.Errorf("P9.1: %s: Join(%v, %v) = %v, %d, want %v", c.name, c.a, c.b, got, e, c.want)
		}
		if got, e := lattice.Join(c.b, c.a); got != c.want || e != api.OK {
			t.Errorf("P9.1: %s: Join(%v, %v) = %v, %d, want %v", c.name, c.b, c.a, got, e, c.want)
		}
	}
}

func TestAllPairs(t *testing.T) {
	labels := all()
	for _, a := range labels {
		for _, b := range labels {
			if got := lattice.Dominates(a, b); got != over(a, b) {
				t.Errorf("P9.1: Dominates(%v, %v) = %v", a, b, got)
			}
			if got, e := lattice.Join(a, b); got != both(a, b) || e != api.OK {
				t.Errorf("P9.1: Join(%v, %v) = %v, %d, want %v", a, b, got, e, both(a, b))
			}
		}
	}
}

func TestDominatesIsAnOrder(t *testing.T) {
	labels := all()
	for _, a := range labels {
		if !lattice.Dominates(a, a) {
			t.Errorf("P9.1: Dominates(%v, %v) = false", a, a)
		}
		for _, b := range labels {
			if a != b && lattice.Dominates(a, b) && lattice.Dominates(b, a) {
				t.Errorf("P9.1: %v and %v dominate each other", a, b)
			}
			for _, c := range labels {
				if lattice.Dominates(a, b) && lattice.Dominates(b, c) && !lattice.Dominates(a, c) {
					t.Errorf("P9.1: %v over %v over %v, but not over the last", a, b, c)
				}
			}
		}
	}
}

func TestJoinIsTheLeastOverBoth(t *testing.T) {
	labels := all()
	for _, a := range labels {
		for _, b := range labels {
			join, e := lattice.Join(a, b)
			if e != api.OK || !lattice.Dominates(join, a) || !lattice.Dominates(join, b) {
				t.Errorf("P9.1: Join(%v, %v) = %v, %d: not over both", a, b, join, e)
			}
			for _, c := range labels {
				if lattice.Dominates(c, a) && lattice.Dominates(c, b) && !lattice.Dominates(c, join) {
					t.Errorf("P9.1: Join(%v, %v) = %v, but %v", a, b, join, c)
				}
			}
		}
	}
}

func TestRefusals(t *testing.T) {
	labels := all()
	for _, a := range wrong() {
		// A label that may not be is refused even beside itself.
		refuse(t, a, a)
		for _, b := range labels {
			refuse(t, a, b)
			refuse(t, b, a)
		}
	}
}

func TestTwoWrongLabels(t *testing.T) {
	some := []api.Label{
		{Level: -1}, {Level: api.MaxLevel + 1}, {Cats: -1}, {Cats: api.MaxCats + 1}, {Cats: -16},
		{Level: math.MinInt, Cats: math.MinInt}, {Level: math.MaxInt, Cats: math.MaxInt}, {Level: -1, Cats: 16},
	}
	for _, a := range some {
		for _, b := range some {
			refuse(t, a, b)
		}
	}
}

func TestFromSeveralGoroutines(t *testing.T) {
	labels := all()
	var group sync.WaitGroup
	for range 8 {
		group.Go(func() {
			for _, a := range labels {
				for _, b := range labels {
					join, e := lattice.Join(a, b)
					if !lattice.May(a) || lattice.Dominates(a, b) != over(a, b) || join != both(a, b) || e != api.OK {
						t.Errorf("R5: %v, %v: %v, %d", a, b, join, e)
					}
				}
			}
		})
	}
	group.Wait()
}
