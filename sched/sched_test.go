package sched_test

import (
	"math"
	"slices"
	"sync"
	"testing"

	"caisson/api"
	"caisson/sched"
)

// far are numbers that are nothing of a window, nor of a major frame.
var far = []int{
	math.MinInt, math.MinInt + 1, math.MinInt + 64, math.MinInt / 2, -1 << 32, math.MinInt32, -256, -65, -64, -8,
	1 << 8, 1 << 16, math.MaxInt32, 1 << 32, 1<<32 + 1, 1<<32 + 4, math.MaxInt / 2, math.MaxInt/2 + 1, math.MaxInt - 64, math.MaxInt - 1, math.MaxInt,
}

// wrongTicks are numbers that are no ticks.
var wrongTicks = []int{
	-1, -2, -5, -api.MaxTick, api.MaxTick + 1, api.MaxTick + 2, api.MaxTick + 5, 1 << 21, 1 << 33,
	math.MinInt, math.MinInt + 1, math.MaxInt - 1, math.MaxInt,
}

// one is a row of one window.
func one(part, start, length, deliver int) []api.Window {
	return []api.Window{{Part: part, Start: start, Len: length, Deliver: deliver}}
}

// each is a row of windows of one tick each, one behind the other, of part 0.
func each(n int) []api.Window {
	ws := make([]api.Window, n)
	for i := range ws {
		ws[i] = api.Window{Start: i, Len: 1, Deliver: i}
	}
	return ws
}

// row is a row of numbers, for windows in any row.
type row uint64

func (r *row) next(n int) int {
	*r = *r*6364136223846793005 + 1442695040888963407
	return int(uint64(*r) >> 33 % uint64(n))
}

// some are windows of a major frame that may be, in any row.
func (r *row) some(major int, parts int) []api.Window {
	var ws []api.Window
	for at := r.next(min(major, 4)); at < major && len(ws) < api.MaxWindows; {
		w := api.Window{Part: r.next(parts), Start: at, Len: 1 + r.next(min(major-at, 12))}
		w.Deliver = at + r.next(w.Len)
		ws = append(ws, w)
		at += w.Len + r.next(3)
	}
	for i := range ws {
		k := r.next(i + 1)
		ws[i], ws[k] = ws[k], ws[i]
	}
	return ws
}

// may is what May is to tell of a small major frame, offset by offset.
func may(ws []api.Window, major int, parts int) bool {
	taken := make([]int, major)
	for _, w := range ws {
		delivers := false
		for i := range max(w.Len, 0) {
			at := w.Start + i
			if at < 0 || at >= major {
				return false
			}
			taken[at]++
			delivers = delivers || w.Deliver == at
		}
		if !delivers || w.Part < 0 || w.Part >= parts {
			return false
		}
	}
	return len(ws) > 0 && slices.Max(taken) < 2
}

// holds are the parts whose windows deliver, or open, offset by offset; -1 is none.
func holds(ws []api.Window, major int) (deliver []int, opens []int) {
	deliver, opens = slices.Repeat([]int{-1}, major), slices.Repeat([]int{-1}, major)
	for _, w := range ws {
		deliver[w.Deliver], opens[w.Start] = w.Part, w.Part
	}
	return deliver, opens
}

// refuse holds windows that may not be, or a tick that is none, to be refused.
func refuse(t *testing.T, name string, ws []api.Window, major int, tick int) {
	t.Helper()
	if got := sched.Delivers(ws, major, tick); got != -1 {
		t.Errorf("P10.1: %s: Delivers(%v, %d, %d) = %d", name, ws, major, tick, got)
	}
	if got := sched.Opens(ws, major, tick); got != -1 {
		t.Errorf("P10.1: %s: Opens(%v, %d, %d) = %d", name, ws, major, tick, got)
	}
	for part := range api.MaxParts {
		if got, e := sched.Next(ws, major, part, tick); got != 0 || e != api.ErrSchedForm {
			t.Errorf("P10.2: %s: Next(%v, %d, %d, %d) = %d, %d", name, ws, major, part, tick, got, e)
		}
	}
}

func TestMay(t *testing.T) {
	for _, c := range []struct {
		name         string
		ws           []api.Window
		major, parts int
		want         bool
	}{
		{"one tick of one", one(0, 0, 1, 0), 1, 1, true},
		{"all of the longest", one(3, 0, 64, 63), 64, 4, true},
		{"the last tick of the longest", one(0, 63, 1, 63), 64, 1, true},
		{"none", nil, 5, 1, false},
		{"an empty row", []api.Window{}, 5, 1, false},
		{"eight", each(8), 8, 1, true},
		{"nine", each(9), 9, 1, false},
		{"nine that are one", slices.Repeat(one(0, 0, 1, 0), 9), 9, 1, false},
		{"side by side", []api.Window{{Len: 2, Deliver: 1}, {Part: 1, Start: 2, Len: 3, Deliver: 2}}, 5, 2, true},
		{"side by side, the later first", []api.Window{{Part: 1, Start: 2, Len: 3, Deliver: 2}, {Len: 2, Deliver: 1}}, 5, 2, true},
		{"apart", []api.Window{{Len: 1}, {Start: 4, Len: 1, Deliver: 4}}, 5, 1, true},
		{"one tick in common", []api.Window{{Len: 3, Deliver: 1}, {Part: 1, Start: 2, Len: 3, Deliver: 2}}, 5, 2, false},
		{"one tick in common, the later first", []api.Window{{Part: 1, Start: 2, Len: 3, Deliver: 2}, {Len: 3, Deliver: 1}}, 5, 2, false},
		{"the same", []api.Window{{Start: 1, Len: 2, Deliver: 1}, {Start: 1, Len: 2, Deliver: 2}}, 5, 1, false},
		{"one within another", []api.Window{{Len: 5}, {Start: 2, Len: 1, Deliver: 2}}, 5, 1, false},
		{"one around another", []api.Window{{Start: 2, Len: 1, Deliver: 2}, {Len: 5}}, 5, 1, false},
		{"the first and the last have one in common", []api.Window{{Len: 2}, {Start: 2, Len: 1, Deliver: 2}, {Start: 1, Len: 1, Deliver: 1}}, 5, 1, false},
		{"the last two have one in common", []api.Window{{Len: 1}, {Start: 2, Len: 2, Deliver: 2}, {Start: 3, Len: 1, Deliver: 3}}, 5, 1, false},
		{"the second may not be", []api.Window{{Len: 1}, {Start: 2, Len: 1, Deliver: 3}}, 5, 1, false},
		{"a major frame of none", one(0, 0, 1, 0), 0, 1, false},
		{"a major frame below 0", one(0, 0, 1, 0), -1, 1, false},
		{"a major frame above the longest", one(0, 0, 1, 0), 65, 1, false},
		{"no partitions", one(0, 0, 1, 0), 5, 0, false},
		{"partitions below 0", one(0, 0, 1, 0), 5, -1, false},
		{"too many partitions", one(0, 0, 1, 0), 5, 5, false},
		{"the last partition", one(1, 0, 1, 0), 5, 2, true},
		{"a partition behind the last", one(2, 0, 1, 0), 5, 2, false},
		{"a partition below 0", one(-1, 0, 1, 0), 5, 2, false},
		{"up to the end", one(0, 2, 3, 2), 5, 1, true},
		{"over the end", one(0, 2, 4, 2), 5, 1, false},
		{"from the end on", one(0, 5, 1, 5), 5, 1, false},
		{"from behind the end on", one(0, 6, 1, 6), 5, 1, false},
		{"no ticks", one(0, 2, 0, 2), 5, 1, false},
		{"no ticks at the end", one(0, 5, 0, 5), 5, 1, false},
		{"ticks below 0", one(0, 2, -1, 1), 5, 1, false},
		{"from below 0 on", one(0, -1, 2, 0), 5, 1, false},
		{"delivers at the first", one(0, 2, 3, 2), 5, 1, true},
		{"delivers at the last", one(0, 2, 3, 4), 5, 1, true},
		{"delivers ahead of the first", one(0, 2, 3, 1), 5, 1, false},
		{"delivers behind the last", one(0, 1, 3, 4), 5, 1, false},
		{"delivers at 0, and begins later", one(0, 2, 3, 0), 5, 1, false},
		{"delivers below 0", one(0, 0, 3, -1), 5, 1, false},
		{"a sum that overflows", one(0, 1, math.MaxInt, 1), 5, 1, false},
		{"a sum that overflows to 0", one(0, math.MaxInt, math.MaxInt, math.MaxInt), 5, 1, false},
		{"a difference that overflows", one(0, math.MinInt, math.MaxInt, 0), 5, 1, false},
		{"a delivery whose difference overflows", one(0, 1, 2, math.MinInt), 5, 1, false},
	} {
		if got := sched.May(c.ws, c.major, c.parts); got != c.want {
			t.Errorf("P10.1: %s: May(%v, %d, %d) = %v", c.name, c.ws, c.major, c.parts, got)
		}
	}
}

func TestMayOfEachSize(t *testing.T) {
	numbers := slices.Clone(far)
	for i := range 90 {
		numbers = append(numbers, i-10)
	}
	ws := one(0, 0, 1, 0)
	for _, major := range numbers {
		for _, parts := range numbers {
			want := major >= 1 && major <= 64 && parts >= 1 && parts <= 4
			if got := sched.May(ws, major, parts); got != want {
				t.Errorf("P10.1: May(%v, %d, %d) = %v", ws, major, parts, got)
			}
		}
	}
}

func TestMayOfEachWindow(t *testing.T) {
	for major := 1; major <= 4; major++ {
		for parts := 1; parts <= api.MaxParts; parts++ {
			for part := -1; part <= parts+1; part++ {
				for start := -2; start <= major+1; start++ {
					for length := -2; length <= major+2; length++ {
						for deliver := -3; deliver <= major+2; deliver++ {
							ws := one(part, start, length, deliver)
							if got := sched.May(ws, major, parts); got != may(ws, major, parts) {
								t.Errorf("P10.1: May(%v, %d, %d) = %v", ws, major, parts, got)
							}
						}
					}
				}
			}
		}
	}
}

func TestMayOfEachTwoAndThree(t *testing.T) {
	const major = 5
	var all []api.Window
	for start := range major {
		for length := range major - start {
			all = append(all, api.Window{Part: start % 2, Start: start, Len: length + 1, Deliver: start + length/2})
		}
	}
	for _, a := range all {
		for _, b := range all {
			if ws := []api.Window{a, b}; sched.May(ws, major, 2) != may(ws, major, 2) {
				t.Errorf("P10.1: May(%v, %d, 2) = %v", ws, major, !may(ws, major, 2))
			}
			for _, c := range all {
				if ws := []api.Window{a, b, c}; sched.May(ws, major, 2) != may(ws, major, 2) {
					t.Errorf("P10.1: May(%v, %d, 2) = %v", ws, major, !may(ws, major, 2))
				}
			}
		}
	}
}

func TestFarNumbersInAWindow(t *testing.T) {
	good := api.Window{Part: 1, Start: 2, Len: 3, Deliver: 3}
	fields := []func(w *api.Window) *int{
		func(w *api.Window) *int { return &w.Part },
		func(w *api.Window) *int { return &w.Start },
		func(w *api.Window) *int { return &w.Len },
		func(w *api.Window) *int { return &w.Deliver },
	}
	for _, x := range far {
		for _, y := range far {
			for i, first := range fields {
				for _, second := range fields[i:] {
					w := good
					*first(&w), *second(&w) = x, y
					for _, ws := range [][]api.Window{{w}, {w, {Len: 1}}, {{Len: 1}, w}, {w, w}} {
						if sched.May(ws, 6, 2) || sched.May(ws, 64, 4) {
							t.Errorf("P10.1: May(%v) = true", ws)
						}
						refuse(t, "a far number", ws, 6, 3)
					}
				}
			}
		}
	}
}

func TestTicks(t *testing.T) {
	ws := []api.Window{{Part: 2, Start: 5, Len: 3, Deliver: 5}, {Part: 0, Start: 0, Len: 2, Deliver: 1}, {Part: 2, Start: 3, Len: 1, Deliver: 3}}
	for _, c := range []struct {
		tick, deliver, open int
	}{
		{0, -1, 0}, {1, 0, -1}, {2, -1, -1}, {3, 2, 2}, {4, -1, -1}, {5, 2, 2}, {6, -1, -1}, {7, -1, -1}, {8, -1, -1}, {9, -1, -1},
		{10, -1, 0}, {11, 0, -1}, {13, 2, 2}, {25, 2, 2}, {1048570, -1, 0}, {1048571, 0, -1}, {1048573, 2, 2}, {1048575, 2, 2},
	} {
		if got := sched.Delivers(ws, 10, c.tick); got != c.deliver {
			t.Errorf("P10.1: Delivers at %d: %d, want %d", c.tick, got, c.deliver)
		}
		if got := sched.Opens(ws, 10, c.tick); got != c.open {
			t.Errorf("P10.1: Opens at %d: %d, want %d", c.tick, got, c.open)
		}
	}
}

func TestNext(t *testing.T) {
	ws := []api.Window{{Part: 2, Start: 5, Len: 3, Deliver: 5}, {Part: 0, Start: 0, Len: 2, Deliver: 1}, {Part: 2, Start: 3, Len: 1, Deliver: 3}}
	for _, c := range []struct {
		part, tick, want int
	}{
		{0, 0, 1}, {0, 1, 1}, {0, 2, 11}, {0, 10, 11}, {0, 11, 11}, {0, 12, 21},
		{2, 0, 3}, {2, 3, 3}, {2, 4, 5}, {2, 5, 5}, {2, 6, 13}, {2, 9, 13},
		{0, 1048571, 1048571}, {0, 1048572, 1048581}, {0, 1048575, 1048581}, {2, 1048575, 1048575}, {2, 1048574, 1048575},
	} {
		if got, e := sched.Next(ws, 10, c.part, c.tick); got != c.want || e != api.OK {
			t.Errorf("P10.2: Next of %d at %d: %d, %d, want %d", c.part, c.tick, got, e, c.want)
		}
	}
	for _, part := range append([]int{1, 3, -1, 4}, far...) {
		for _, tick := range []int{0, 3, 9, 10, api.MaxTick} {
			if got, e := sched.Next(ws, 10, part, tick); got != 0 || e != api.ErrSchedForm {
				t.Errorf("P10.2: Next of %d at %d: %d, %d", part, tick, got, e)
			}
		}
	}
}

func TestBehindTheLastTick(t *testing.T) {
	for major := 1; major <= api.MaxMajor; major++ {
		for deliver := range major {
			ws := one(3, 0, major, deliver)
			got, e := sched.Next(ws, major, 3, api.MaxTick)
			want := api.MaxTick
			for want%major != deliver {
				want++
			}
			if got != want || e != api.OK {
				t.Errorf("P10.2: Next(%v, %d, 3, %d) = %d, %d, want %d", ws, major, api.MaxTick, got, e, want)
			}
		}
	}
}

func TestWrongTicks(t *testing.T) {
	for _, ws := range [][]api.Window{one(0, 0, 1, 0), one(3, 0, 5, 4), {{Len: 1}, {Part: 1, Start: 1, Len: 4, Deliver: 4}}} {
		for _, tick := range wrongTicks {
			refuse(t, "no tick", ws, 5, tick)
			// Of a major frame of one tick each number has the rest 0.
			refuse(t, "no tick, of one tick", one(0, 0, 1, 0), 1, tick)
		}
	}
}

func TestWrongWindows(t *testing.T) {
	good := api.Window{Part: 1, Start: 2, Len: 3, Deliver: 3}
	for _, c := range []struct {
		name  string
		ws    []api.Window
		major int
	}{
		{"none", nil, 6},
		{"an empty row", []api.Window{}, 6},
		{"nine", each(9), 10},
		{"a major frame of none", []api.Window{good}, 0},
		{"a major frame below 0", []api.Window{good}, -6},
		{"a major frame too short", []api.Window{good}, 4},
		{"a major frame above the longest", []api.Window{good}, 65},
		{"a partition that there is none of", []api.Window{good, {Part: api.MaxParts, Len: 1}}, 6},
		{"a partition below 0", []api.Window{good, {Part: -1, Len: 1}}, 6},
		{"no ticks", []api.Window{good, {}}, 6},
		{"one that delivers outside", []api.Window{good, {Len: 1, Deliver: 1}}, 6},
		{"one tick in common", []api.Window{good, {Len: 3}}, 6},
		{"one tick in common, behind", []api.Window{good, {Start: 4, Len: 2, Deliver: 5}}, 6},
	} {
		for _, tick := range []int{0, 1, 2, 3, 4, 5, 6, 8, 9, api.MaxTick, -1} {
			refuse(t, c.name, c.ws, c.major, tick)
		}
	}
	for _, major := range far {
		refuse(t, "a far major frame", []api.Window{good}, major, 3)
	}
}

func TestWindowsOfEachPartition(t *testing.T) {
	// Where no partitions are named, windows are held to be of MaxParts.
	for part := range api.MaxParts {
		ws := one(part, 1, 2, 2)
		if sched.Delivers(ws, 4, 6) != part || sched.Opens(ws, 4, 5) != part {
			t.Errorf("P10.1: part %d: %d, %d", part, sched.Delivers(ws, 4, 6), sched.Opens(ws, 4, 5))
		}
		if got, e := sched.Next(ws, 4, part, 3); got != 6 || e != api.OK {
			t.Errorf("P10.2: part %d: %d, %d", part, got, e)
		}
	}
}

func TestByEachOffset(t *testing.T) {
	r := row(10)
	for range 600 {
		major := 1 + r.next(api.MaxMajor)
		ws := r.some(major, api.MaxParts)
		if !sched.May(ws, major, api.MaxParts) {
			t.Fatalf("P10.1: May(%v, %d, 4) = false", ws, major)
		}
		deliver, opens := holds(ws, major)
		first := r.next(api.MaxTick - 2*major)
		for _, tick := range []int{0, first, api.MaxTick - major} {
			for i := range major + 1 {
				byOffset(t, ws, deliver, opens, tick+i)
			}
		}
	}
}

// byOffset holds what the calls tell of a tick against what is told of its offset.
func byOffset(t *testing.T, ws []api.Window, deliver []int, opens []int, tick int) {
	t.Helper()
	major := len(deliver)
	if got := sched.Delivers(ws, major, tick); got != deliver[tick%major] {
		t.Fatalf("P10.1: Delivers(%v, %d, %d) = %d", ws, major, tick, got)
	}
	if got := sched.Opens(ws, major, tick); got != opens[tick%major] {
		t.Fatalf("P10.1: Opens(%v, %d, %d) = %d", ws, major, tick, got)
	}
	for part := range api.MaxParts {
		want, e := 0, api.ErrSchedForm
		for i := range major {
			if deliver[(tick+i)%major] == part {
				want, e = tick+i, api.OK
				break
			}
		}
		if got, no := sched.Next(ws, major, part, tick); got != want || no != e {
			t.Fatalf("P10.2: Next(%v, %d, %d, %d) = %d, %d, want %d, %d", ws, major, part, tick, got, no, want, e)
		}
	}
}

func TestTheirRowDoesNotCount(t *testing.T) {
	r := row(3)
	for range 100 {
		ws := r.some(40, 3)
		other := slices.Clone(ws)
		slices.Reverse(other)
		for tick := range 80 {
			a, e := sched.Next(ws, 40, tick%3, tick)
			b, no := sched.Next(other, 40, tick%3, tick)
			if a != b || e != no || sched.Delivers(ws, 40, tick) != sched.Delivers(other, 40, tick) || sched.Opens(ws, 40, tick) != sched.Opens(other, 40, tick) {
				t.Fatalf("R5: %v at %d", ws, tick)
			}
		}
	}
}

func TestNothingIsChanged(t *testing.T) {
	all := append(each(6), slices.Repeat(one(9, 9, 9, 9), 3)...)
	slices.Reverse(all[:6])
	for n := range len(all) + 1 {
		ws, kept := all[:n], slices.Clone(all)
		for tick := range 12 {
			sched.May(ws, 6, 1)
			sched.Delivers(ws, 6, tick)
			sched.Opens(ws, 6, tick)
			sched.Next(ws, 6, 0, tick)
		}
		if !slices.Equal(all, kept) {
			t.Errorf("R4: %d windows: %v", n, all)
		}
	}
}

func TestManyWindowsAreRefusedAtOnce(t *testing.T) {
	// So many that holding each against each would not end here.
	ws := make([]api.Window, 1<<20)
	for i := range ws {
		ws[i] = api.Window{Start: i, Len: 1, Deliver: i}
	}
	if sched.May(ws, api.MaxMajor, 1) || sched.Delivers(ws, api.MaxMajor, 0) != -1 || sched.Opens(ws, api.MaxMajor, 0) != -1 {
		t.Error("P10.1: many windows")
	}
	if got, e := sched.Next(ws, api.MaxMajor, 0, 0); got != 0 || e != api.ErrSchedForm {
		t.Errorf("P10.2: many windows: %d, %d", got, e)
	}
}

func TestFromSeveralGoroutines(t *testing.T) {
	r := row(7)
	ws := r.some(30, api.MaxParts)
	deliver, opens := holds(ws, 30)
	var group sync.WaitGroup
	for range 8 {
		group.Go(func() {
			for tick := range 2000 {
				if !sched.May(ws, 30, api.MaxParts) || sched.Delivers(ws, 30, tick) != deliver[tick%30] || sched.Opens(ws, 30, tick) != opens[tick%30] {
					t.Errorf("R5: at %d", tick)
				}
				if part := deliver[tick%30]; part >= 0 {
					if got, e := sched.Next(ws, 30, part, tick); got != tick || e != api.OK {
						t.Errorf("R5: Next at %d: %d, %d", tick, got, e)
					}
				}
			}
		})
	}
	group.Wait()
}
