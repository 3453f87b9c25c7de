package assign_test

import (
	"math"
	"slices"
	"sync"
	"testing"

	"caisson/api"
	"caisson/assign"
)

// far are numbers that are no device, no partition and no number of quiet ticks.
var far = []int{
	math.MinInt, math.MinInt + 1, math.MinInt + 4, math.MinInt / 2, -1 << 32, math.MinInt32, -256, -8, -4, -3, -2, -1,
	9, 16, 255, 256, 257, 1 << 16, math.MaxInt32, math.MaxUint32, 1 << 32, 1<<32 + 1, 1<<32 + 3, math.MaxInt / 2, math.MaxInt - 1, math.MaxInt,
}

// device is what the table is held against: whose one is from which tick on.
type device struct {
	part int
	from int
}

// pair is a Table, and the plain row that it is held against.
type pair struct {
	t       *testing.T
	table   *assign.Table
	quiet   int
	parts   int
	now     int
	devices []device
}

// made is a pair of such a table.
func made(t *testing.T, quiet int, parts int, owners ...int) *pair {
	t.Helper()
	table, e := assign.New(quiet, parts, owners...)
	if table == nil || e != api.OK {
		t.Fatalf("P15.1: New(%d, %d, %v) = %v, %d", quiet, parts, owners, table, e)
	}
	x := &pair{t: t, table: table, quiet: quiet, parts: parts}
	for _, owner := range owners {
		x.devices = append(x.devices, device{part: owner})
	}
	x.check()
	return x
}

// check holds all devices, those that are not there too, against the plain row.
func (x *pair) check() {
	x.t.Helper()
	for d := -1; d <= api.MaxDevices; d++ {
		owner, phase, want := -1, 0, api.ErrAssignForm
		if d >= 0 && d < len(x.devices) {
			owner, phase, want = x.devices[d].part, api.PhaseAssigned, api.OK
			if x.now < x.devices[d].from {
				owner, phase = -1, api.PhaseQuiescing
			}
		}
		if got := x.table.Owner(d); got != owner {
			x.t.Fatalf("P15.2: tick %d: Owner(%d) = %d, want %d", x.now, d, got, owner)
		}
		if got, e := x.table.Phase(d); got != phase || e != want {
			x.t.Fatalf("P15.2: tick %d: Phase(%d) = %d, %d, want %d, %d", x.now, d, got, e, phase, want)
		}
	}
}

// move moves a device in both.
func (x *pair) move(d int, to int) {
	x.t.Helper()
	want := api.OK
	switch {
	case d < 0 || d >= len(x.devices) || to < 0 || to >= x.parts:
		want = api.ErrAssignForm
	case x.now < x.devices[d].from:
		want = api.ErrAssignBusy
	default:
		x.devices[d] = device{part: to, from: x.now + x.quiet}
	}
	if e := x.table.Move(d, to); e != want {
		x.t.Fatalf("P15.1: tick %d: Move(%d, %d) = %d, want %d", x.now, d, to, e, want)
	}
	x.check()
}

// tick lets a tick go by in both.
func (x *pair) tick() {
	x.t.Helper()
	x.now++
	var want []int
	for d := range x.devices {
		if x.devices[d].from == x.now {
			want = append(want, d)
		}
	}
	if got := x.table.Tick(); !slices.Equal(got, want) {
		x.t.Fatalf("P15.2: tick %d: Tick() = %v, want %v", x.now, got, want)
	}
	x.check()
}

// rest lets so many ticks go by that no move lasts any longer.
func (x *pair) rest() {
	x.t.Helper()
	for range api.MaxQuiet + 2 {
		x.tick()
	}
}

// rows are all rows of so many owners of so many partitions.
func rows(parts int, count int) [][]int {
	all := [][]int{nil}
	for range count {
		var longer [][]int
		for _, row := range all {
			for part := range parts {
				longer = append(longer, append(slices.Clone(row), part))
			}
		}
		all = longer
	}
	return all
}

func TestNewOfEach(t *testing.T) {
	for q := range api.MaxQuiet {
		for p := range api.MaxParts {
			for count := range api.MaxDevices {
				for _, owners := range rows(p+1, count+1) {
					made(t, q+1, p+1, owners...)
				}
			}
		}
	}
}

// refused holds such a New to be refused.
func refused(t *testing.T, quiet int, parts int, owners ...int) {
	t.Helper()
	if table, e := assign.New(quiet, parts, owners...); table != nil || e != api.ErrAssignForm {
		t.Errorf("P15.1: New(%d, %d, %v) = %v, %d", quiet, parts, owners, table, e)
	}
}

func TestNewRefusesNumbers(t *testing.T) {
	for _, n := range append([]int{0}, far...) {
		refused(t, n, 2, 0, 1)
		refused(t, n, n, 0)
		refused(t, n, n, n)
	}
	for _, n := range append([]int{0, 5, 6, 7, 8}, far...) {
		refused(t, 1, n, 0)
		refused(t, 8, n, 0, 0, 0, 0)
		refused(t, 2, n, n-1)
	}
}

func TestNewRefusesRows(t *testing.T) {
	for p := range api.MaxParts {
		for _, count := range []int{0, 5, 6, 8, 9, 256, 100000} {
			refused(t, 3, p+1, make([]int, count)...)
		}
	}
	refused(t, 3, 2)
	refused(t, 3, 2, []int(nil)...)
}

func TestNewRefusesOwners(t *testing.T) {
	for p := range api.MaxParts {
		parts := p + 1
		for _, owner := range append([]int{parts, parts + 1, 4, 5, 8}, far...) {
			for count := range api.MaxDevices {
				for at := range count + 1 {
					owners := make([]int, count+1)
					owners[at] = owner
					refused(t, 1, parts, owners...)
				}
			}
		}
	}
}

func TestMoveOfEach(t *testing.T) {
	for q := range api.MaxQuiet {
		for p := range api.MaxParts {
			for count := range api.MaxDevices {
				for d := range count + 1 {
					for to := range p + 1 {
						x := made(t, q+1, p+1, []int{0, p, p / 2, p}[:count+1]...)
						x.move(d, to)
						x.rest()
						// It may move again, where it came from too.
						x.move(d, p-to)
						x.rest()
					}
				}
			}
		}
	}
}

func TestMoveLastsJustQuietTicks(t *testing.T) {
	for q := range api.MaxQuiet {
		table, e := assign.New(q+1, 2, 0, 0)
		if e != api.OK || table.Move(1, 1) != api.OK {
			t.Fatalf("P15.1: quiet %d: %d", q+1, e)
		}
		for tick := range q {
			if got := table.Tick(); len(got) != 0 || table.Owner(1) != -1 {
				t.Errorf("P15.2: quiet %d: tick %d: %v, %d", q+1, tick, got, table.Owner(1))
			}
		}
		if got := table.Tick(); !slices.Equal(got, []int{1}) || table.Owner(1) != 1 {
			t.Errorf("P15.2: quiet %d: %v, %d", q+1, got, table.Owner(1))
		}
	}
}

func TestMoveToWhoseItIs(t *testing.T) {
	x := made(t, 2, 2, 1, 0)
	x.move(0, 1)
	if x.table.Owner(0) != -1 {
		t.Errorf("P15.1: Owner(0) = %d", x.table.Owner(0))
	}
	x.rest()
}

func TestMoveOfBusy(t *testing.T) {
	for q := range api.MaxQuiet {
		x := made(t, q+1, 4, 0, 1, 2, 3)
		x.move(2, 3)
		for range q + 1 {
			for to := range 4 {
				// It is refused, and neither lasts any longer for it nor goes elsewhere.
				x.move(2, to)
			}
			x.tick()
		}
		x.move(2, 0)
		x.rest()
	}
}

func TestMovesAtOneTime(t *testing.T) {
	for order := range 24 {
		left, row := []int{3, 1, 0, 2}, []int(nil)
		for k := range 4 {
			i := order / []int{1, 4, 12, 24}[k] % (4 - k)
			row, left = append(row, left[i]), slices.Delete(left, i, i+1)
		}
		x := made(t, 3, 4, 0, 1, 2, 3)
		for i, d := range row {
			x.move(d, 3-i)
		}
		// They end in one tick, rising, in whatever row they came.
		x.rest()
		for _, d := range row {
			x.move(d, d)
			x.tick()
		}
		x.rest()
	}
}

func TestMoveRefuses(t *testing.T) {
	for p := range api.MaxParts {
		for count := range api.MaxDevices {
			x := made(t, 2, p+1, make([]int, count+1)...)
			// One half is quiescing: what may not be is told ahead of that, R6.
			for d := range (count + 2) / 2 {
				x.move(d, p)
			}
			for _, n := range append([]int{4, 5, 8}, far...) {
				for d := range count + 1 {
					x.move(d, n)
				}
				for to := range p + 1 {
					x.move(n, to)
				}
				x.move(n, n)
				if got, e := x.table.Phase(n); x.table.Owner(n) != -1 || got != 0 || e != api.ErrAssignForm {
					t.Errorf("P15.2: %d: Owner: %d, Phase: %d, %d", n, x.table.Owner(n), got, e)
				}
			}
			for d := -1; d <= api.MaxDevices; d++ {
				x.move(d, p+1)
				x.move(d, -1)
			}
			x.rest()
		}
	}
}

func TestMoveIsFormAheadOfBusy(t *testing.T) {
	table, _ := assign.New(8, 2, 0)
	if e := table.Move(0, 1); e != api.OK {
		t.Fatalf("P15.1: %d", e)
	}
	for _, c := range []struct {
		d, to int
		want  api.Errno
	}{{0, 0, api.ErrAssignBusy}, {0, 1, api.ErrAssignBusy}, {0, 2, api.ErrAssignForm}, {0, -1, api.ErrAssignForm}, {1, 0, api.ErrAssignForm}, {-1, 2, api.ErrAssignForm}} {
		if e := table.Move(c.d, c.to); e != c.want {
			t.Errorf("R6: Move(%d, %d) = %d, want %d", c.d, c.to, e, c.want)
		}
	}
}

func TestAllShortScripts(t *testing.T) {
	steps := []func(x *pair){
		(*pair).tick,
		func(x *pair) { x.move(0, 0) },
		func(x *pair) { x.move(0, 1) },
		func(x *pair) { x.move(1, 0) },
		func(x *pair) { x.move(1, 1) },
		func(x *pair) { x.move(1, 2) },
	}
	for q := range 3 {
		for script := range 6 * 6 * 6 * 6 * 6 * 6 {
			x := made(t, q+1, 2, 1, 0)
			left := script
			for range 6 {
				steps[left%len(steps)](x)
				left /= len(steps)
			}
			x.rest()
		}
	}
}

func TestLongScripts(t *testing.T) {
	seed := uint64(1)
	next := func(n int) int {
		seed = seed*6364136223846793005 + 1442695040888963407
		return int(seed >> 33 % uint64(n))
	}
	for q := range api.MaxQuiet {
		for p := range api.MaxParts {
			for count := range api.MaxDevices {
				owners := make([]int, count+1)
				for d := range owners {
					owners[d] = next(p + 1)
				}
				x := made(t, q+1, p+1, owners...)
				for range 2000 {
					if next(3) == 0 {
						x.move(next(count+3)-1, next(p+3)-1)
					} else {
						x.tick()
					}
				}
			}
		}
	}
}

func TestAskingChangesNothing(t *testing.T) {
	x := made(t, 3, 2, 0, 1, 0)
	x.move(1, 0)
	for range 20 {
		x.check()
	}
	x.rest()
}

func TestOwnersAreNotTouched(t *testing.T) {
	room := []int{1, 0, 2, 7, 9}
	was := slices.Clone(room)
	x := made(t, 2, 3, room[:3]...)
	x.move(0, 2)
	x.rest()
	if !slices.Equal(room, was) {
		t.Fatalf("R4: %v, want %v", room, was)
	}
	// They aren't kept: what becomes of them behind the call is nothing to the table.
	for i := range room {
		room[i] = 2
	}
	x.check()
	x.move(1, 1)
	x.rest()
}

func TestAnswersShareNothing(t *testing.T) {
	x := made(t, 1, 2, 0, 0, 1, 1)
	both := func() {
		for _, d := range []int{3, 1} {
			if e := x.table.Move(d, 0); e != api.OK {
				t.Fatalf("P15.1: Move(%d, 0) = %d", d, e)
			}
		}
	}
	both()
	a := x.table.Tick()
	both()
	b := x.table.Tick()
	for i := range a[:cap(a)] {
		a[:cap(a)][i] = 8
	}
	both()
	if c := x.table.Tick(); !slices.Equal(b, []int{1, 3}) || !slices.Equal(c, b) {
		t.Errorf("R4: %v, %v", b, c)
	}
}

func TestTablesShareNothing(t *testing.T) {
	a, b := made(t, 2, 2, 0, 1), made(t, 3, 3, 2)
	a.move(0, 1)
	b.check()
	b.move(0, 1)
	a.tick()
	b.check()
	a.move(1, 0)
	a.rest()
	b.rest()
	a.check()
}

func TestNilTable(t *testing.T) {
	var none *assign.Table
	for _, d := range append([]int{0, 1, 3, 4}, far...) {
		for _, to := range append([]int{0, 3, 4}, far...) {
			if e := none.Move(d, to); e != api.ErrNil {
				t.Errorf("R3: Move(%d, %d) = %d", d, to, e)
			}
		}
		if phase, e := none.Phase(d); phase != 0 || e != api.ErrNil {
			t.Errorf("R3: Phase(%d) = %d, %d", d, phase, e)
		}
		if owner := none.Owner(d); owner != 0 {
			t.Errorf("R3: Owner(%d) = %d", d, owner)
		}
	}
	if got := none.Tick(); len(got) != 0 {
		t.Errorf("R3: Tick() = %v", got)
	}
}

func TestTableThatIsNotNews(t *testing.T) {
	x := &pair{t: t, table: &assign.Table{}}
	for _, n := range append([]int{0, 1, 3, 4}, far...) {
		x.move(n, 0)
		x.move(0, n)
		x.move(n, n)
	}
	x.rest()
}

func TestFromSeveralGoroutines(t *testing.T) {
	var group sync.WaitGroup
	for k := range 8 {
		group.Go(func() {
			for range 200 {
				x, e := assign.New(k+1, 2, 0, 1)
				if e != api.OK || x.Move(0, 1) != api.OK {
					t.Errorf("R5: New(%d, 2, 0, 1): %d", k+1, e)
					continue
				}
				for range k {
					x.Tick()
				}
				if got := x.Tick(); !slices.Equal(got, []int{0}) || x.Owner(0) != 1 {
					t.Errorf("R5: quiet %d: %v, %d", k+1, got, x.Owner(0))
				}
			}
		})
	}
	group.Wait()
}
