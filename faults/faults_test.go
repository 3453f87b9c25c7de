package faults_test

import (
	"math"
	"slices"
	"sync"
	"testing"

	"caisson/api"
	"caisson/faults"
)

// far are numbers that are no size of a log; a fault's own may be any.
var far = []int{
	math.MinInt, math.MinInt + 1, math.MinInt / 2, -1 << 32, -api.MaxLog, -1,
	1 << 8, 1<<8 + 1, 1 << 16, 1<<16 + 1, 1 << 32, 1<<32 + 1, math.MaxInt / 2, math.MaxInt - 1, math.MaxInt,
}

// plain is what a log is to keep: all that came since it was taken.
type plain struct {
	most int
	came []api.Fault
}

func (p *plain) take() ([]api.Fault, int) {
	n := min(len(p.came), p.most)
	kept, drops := p.came[:n], min(len(p.came)-n, api.MaxDrops)
	p.came = nil
	return kept, drops
}

// made is an empty log that keeps so many.
func made(t *testing.T, most int) *faults.Log {
	t.Helper()
	l, e := faults.New(most)
	if l == nil || e != api.OK {
		t.Fatalf("P8.1: New(%d) = %v, %d", most, l, e)
	}
	return l
}

// take holds what a log tells against what it is to tell.
func take(t *testing.T, name string, l *faults.Log, want []api.Fault, drops int) {
	t.Helper()
	if got, n := l.Take(); !slices.Equal(got, want) || n != drops {
		t.Fatalf("P8.1: %s: Take() = %v, %d, want %v, %d", name, got, n, want, drops)
	}
}

// add adds faults, one by one.
func add(l *faults.Log, all ...api.Fault) {
	for _, f := range all {
		l.Add(f)
	}
}

// some are n faults from a number on, each another one.
func some(from int, n int) []api.Fault {
	var all []api.Fault
	for i := from; i < from+n; i++ {
		all = append(all, api.Fault{Tick: i, Device: i % api.MaxDevices, Iova: i * 64, Write: i%2 == 0, Code: 700 + i%5})
	}
	return all
}

func TestNewIsEmpty(t *testing.T) {
	for i := range api.MaxLog {
		l := made(t, i+1)
		take(t, "a new one", l, nil, 0)
		take(t, "a new one, again", l, nil, 0)
	}
}

func TestNewRefuses(t *testing.T) {
	for _, most := range append([]int{0, api.MaxLog + 1, 2 * api.MaxLog, api.MaxDrops}, far...) {
		if l, e := faults.New(most); l != nil || e != api.ErrFaultsForm {
			t.Errorf("P8.1: New(%d) = %v, %d", most, l, e)
		}
	}
}

func TestTheFirstStay(t *testing.T) {
	for i := range api.MaxLog {
		most := i + 1
		for n := range 3*most + 2 {
			l, all := made(t, most), some(n, n)
			add(l, all...)
			take(t, "so many", l, all[:min(n, most)], max(n-most, 0))
			take(t, "taken", l, nil, 0)
		}
	}
}

func TestTakenLogIsAsNew(t *testing.T) {
	for i := range api.MaxLog {
		most := i + 1
		l := made(t, most)
		for round := range 4 {
			all := some(100*round, most+3-round)
			add(l, all...)
			take(t, "one more round", l, all[:min(len(all), most)], max(3-round, 0))
			take(t, "taken", l, nil, 0)
		}
		add(l, some(7, 1)...)
		take(t, "one, behind more", l, some(7, 1), 0)
	}
}

func TestTheSameFaultAgain(t *testing.T) {
	l, f := made(t, 3), some(5, 1)[0]
	add(l, f, f)
	take(t, "twice", l, []api.Fault{f, f}, 0)
	add(l, f, f, f, f)
	take(t, "four times", l, []api.Fault{f, f, f}, 1)
	add(l, api.Fault{}, f, api.Fault{})
	take(t, "zeros", l, []api.Fault{{}, f, {}}, 0)
	add(l, api.Fault{}, api.Fault{}, api.Fault{}, api.Fault{})
	take(t, "zeros alone", l, []api.Fault{{}, {}, {}}, 1)
}

func TestAnyNumbersInAFault(t *testing.T) {
	var all []api.Fault
	for _, n := range append([]int{0, 1, api.MaxTick, api.MaxDevices, int(api.ErrIommuBad)}, far...) {
		all = append(all, api.Fault{Tick: n}, api.Fault{Device: n}, api.Fault{Iova: n}, api.Fault{Code: n})
		all = append(all, api.Fault{Write: true}, api.Fault{Tick: n, Device: n - 1, Iova: n + 1, Write: n%2 == 0, Code: -n})
	}
	l := made(t, api.MaxLog)
	for row := range slices.Chunk(all, api.MaxLog) {
		add(l, row...)
		take(t, "any numbers", l, row, 0)
	}
}

func TestTheCountStaysAtItsMost(t *testing.T) {
	for _, most := range []int{1, 2, api.MaxLog} {
		l := made(t, most)
		kept := some(1, most)
		for _, n := range []int{0, 1, 255, 256, 257, api.MaxDrops - 1, api.MaxDrops, api.MaxDrops + 1, api.MaxDrops + 2, 2*api.MaxDrops + 1, 2*api.MaxDrops + 2, 5} {
			add(l, kept...)
			for i := range n {
				l.Add(api.Fault{Tick: i})
			}
			take(t, "only counted", l, kept, min(n, api.MaxDrops))
			take(t, "only counted, taken", l, nil, 0)
		}
	}
}

func TestTakeSharesNothing(t *testing.T) {
	for _, most := range []int{1, 3, api.MaxLog} {
		l := made(t, most)
		add(l, some(0, most)...)
		first, _ := l.Take()
		for i := range first[:cap(first)] {
			first[:cap(first)][i] = api.Fault{Code: -9}
		}
		take(t, "an answer that was changed", l, nil, 0)
		add(l, some(50, most)...)
		for i := range first[:cap(first)] {
			first[:cap(first)][i] = api.Fault{Code: -8}
		}
		second, n := l.Take()
		if !slices.Equal(second, some(50, most)) || n != 0 {
			t.Fatalf("R4: the second answer: %v, %d", second, n)
		}
		add(l, some(90, most+1)...)
		l.Take()
		if !slices.Equal(second, some(50, most)) || first[0].Code != -8 {
			t.Errorf("R4: answers that were kept: %v, %v", first, second)
		}
	}
}

func TestAnswerOfAnEmptyLogSharesNothing(t *testing.T) {
	l := made(t, 2)
	none, _ := l.Take()
	for i := range none[:cap(none)] {
		none[:cap(none)][i] = api.Fault{Code: -9}
	}
	add(l, some(1, 2)...)
	_ = append(none, api.Fault{Code: -9})
	take(t, "an empty answer that was appended to", l, some(1, 2), 0)
}

func TestLogsShareNothing(t *testing.T) {
	a, b := made(t, 2), made(t, 1)
	add(a, some(1, 3)...)
	add(b, some(20, 4)...)
	take(t, "one", a, some(1, 2), 1)
	take(t, "the other", b, some(20, 1), 3)
	add(a, some(5, 1)...)
	take(t, "the other, taken", b, nil, 0)
	take(t, "one, again", a, some(5, 1), 0)
}

func TestACopySharesNothing(t *testing.T) {
	l := made(t, 2)
	add(l, some(1, 1)...)
	kept := *l
	add(l, some(2, 3)...)
	take(t, "the log", l, some(1, 2), 2)
	add(l, some(40, 2)...)
	take(t, "its copy", &kept, some(1, 1), 0)
	take(t, "the log, again", l, some(40, 2), 0)
}

func TestByThePlainRow(t *testing.T) {
	row := 1
	next := func(n int) int {
		row = (row*1103515245 + 12345) % (1 << 31)
		return row >> 12 % n
	}
	for i := range api.MaxLog {
		l, p := made(t, i+1), &plain{most: i + 1}
		for range 3000 {
			if next(i+3) == 0 {
				want, drops := p.take()
				take(t, "any row", l, want, drops)
				continue
			}
			f := some(next(40), 1)[0]
			l.Add(f)
			p.came = append(p.came, f)
		}
	}
}

func TestNilLog(t *testing.T) {
	var none *faults.Log
	take(t, "R3", none, nil, 0)
	for range api.MaxLog + 1 {
		none.Add(api.Fault{Code: 1})
		none.Add(api.Fault{})
	}
	take(t, "R3, added to", none, nil, 0)
}

func TestALogThatIsNotNews(t *testing.T) {
	var zero faults.Log
	take(t, "a size of 0", &zero, nil, 0)
	// None are kept, so that each is only counted.
	add(&zero, some(1, 3)...)
	take(t, "a size of 0, added to", &zero, nil, 3)
	take(t, "a size of 0, taken", &zero, nil, 0)
}

func TestFromSeveralGoroutines(t *testing.T) {
	var group sync.WaitGroup
	for i := range 8 {
		group.Go(func() {
			for n := range 500 {
				l, e := faults.New(i + 1)
				if e != api.OK {
					t.Errorf("R5: %d: %d", i, e)
					return
				}
				add(l, some(n, i+3)...)
				if got, drops := l.Take(); !slices.Equal(got, some(n, i+1)) || drops != 2 {
					t.Errorf("R5: %d: %v, %d", i, got, drops)
				}
			}
		})
	}
	group.Wait()
}
