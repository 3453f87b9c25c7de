package walk_test

import (
	"math"
	"sync"
	"testing"

	"caisson/api"
	"caisson/phys"
	"caisson/walk"
)

// far are numbers that are no page and no frame of any memory.
var far = []int{
	math.MinInt, math.MinInt + 1, math.MinInt / 2, -1 << 58, -1 << 32, -api.Pages, -api.MaxFrames, -api.Entries, -1,
	1 << 32, 1<<32 + 1, 1 << 58, 1<<58 + 1, math.MaxInt / 2, math.MaxInt - 1, math.MaxInt,
}

// made is a memory of so many frames.
func made(t *testing.T, frames int) *phys.Mem {
	t.Helper()
	m, e := phys.New(frames)
	if m == nil || e != api.OK {
		t.Fatalf("P3.1: New(%d) = %v, %d", frames, m, e)
	}
	return m
}

// put makes entry k of a frame's table a word, be it an entry's or not.
func put(t *testing.T, m *phys.Mem, frame int, k int, word int) {
	t.Helper()
	if e := m.PutWord(frame*64+k*4, word); e != api.OK {
		t.Fatalf("P3.2: PutWord of frame %d, entry %d: %d", frame, k, e)
	}
}

// word is an entry's, by the numbers of P4.1.
func word(frame int, perm int) int {
	return 1 + perm*2 + frame*4096
}

// hold holds a walk against what it is to answer.
func hold(t *testing.T, name string, m *phys.Mem, root int, page int, want api.Entry, f api.Errno) {
	t.Helper()
	if got, e := walk.Walk(m, root, page); got != want || e != f {
		t.Errorf("P5.1: %s: Walk(m, %d, %d) = %v, %d, want %v, %d", name, root, page, got, e, want, f)
	}
}

// bytes are all of a memory's.
func bytes(t *testing.T, m *phys.Mem) string {
	t.Helper()
	s, e := m.Read(0, m.Size())
	if e != api.OK {
		t.Fatalf("P3.1: Read = %d", e)
	}
	return s
}

func TestEntriesOfPages(t *testing.T) {
	m := made(t, 8)
	put(t, m, 1, 0, word(2, api.PermBoth))
	put(t, m, 1, 1, word(0, api.PermBoth))
	put(t, m, 1, 15, word(2, api.PermBoth))
	put(t, m, 2, 0, word(5, api.PermRead))
	put(t, m, 2, 3, word(6, api.PermWrite))
	put(t, m, 2, 15, word(7, api.PermBoth))
	put(t, m, 0, 4, word(0, api.PermRead))
	for _, c := range []struct {
		name string
		page int
		want api.Entry
	}{
		{"the first page, to read", 0, api.Entry{Frame: 5, Perm: api.PermRead}},
		{"a page, to write", 3, api.Entry{Frame: 6, Perm: api.PermWrite}},
		{"the last page of a table, the last frame", 15, api.Entry{Frame: 7, Perm: api.PermBoth}},
		{"a table in the first frame, of that frame", 20, api.Entry{Frame: 0, Perm: api.PermRead}},
		{"the same table by another entry", 240, api.Entry{Frame: 5, Perm: api.PermRead}},
		{"the last page", 255, api.Entry{Frame: 7, Perm: api.PermBoth}},
	} {
		hold(t, c.name, m, 1, c.page, c.want, api.OK)
	}
}

func TestPagesOfNoEntry(t *testing.T) {
	m := made(t, 4)
	put(t, m, 1, 2, word(3, api.PermBoth))
	put(t, m, 3, 5, word(0, api.PermRead))
	for page := range api.Pages {
		want, f := api.Entry{}, api.ErrWalkNone
		if page == 2*16+5 {
			want, f = api.Entry{Perm: api.PermRead}, api.OK
		}
		hold(t, "a leaf alone", m, 1, page, want, f)
		hold(t, "an empty root", m, 2, page, api.Entry{}, api.ErrWalkNone)
	}
}

func TestEachPageHasItsOwnEntry(t *testing.T) {
	m := made(t, api.MaxFrames)
	want := make([]api.Entry, api.Pages)
	for i := range api.Entries {
		put(t, m, 40, i, word(41+i, api.PermBoth))
		for k := range api.Entries {
			page := i*api.Entries + k
			want[page] = api.Entry{Frame: page * 5 % api.MaxFrames, Perm: 1 + page%3}
			put(t, m, 41+i, k, word(want[page].Frame, want[page].Perm))
		}
	}
	for page := range api.Pages {
		hold(t, "a page", m, 40, page, want[page], api.OK)
	}
}

func TestTablesThatAreTheirOwn(t *testing.T) {
	m := made(t, 1)
	put(t, m, 0, 1, word(0, api.PermBoth))
	put(t, m, 0, 2, word(0, api.PermRead))
	put(t, m, 0, 3, word(1, api.PermRead))
	for _, c := range []struct {
		name string
		page int
		want api.Entry
		e    api.Errno
	}{
		{"an entry that is a root's and a leaf's", 17, api.Entry{Perm: api.PermBoth}, api.OK},
		{"an entry that is but a leaf's", 18, api.Entry{Perm: api.PermRead}, api.OK},
		{"a leaf's of no frame", 19, api.Entry{}, api.ErrWalkBad},
		{"a leaf's that is not there", 20, api.Entry{}, api.ErrWalkNone},
		{"a root's that is but a leaf's", 34, api.Entry{}, api.ErrWalkBad},
		{"a root's that is not there", 0, api.Entry{}, api.ErrWalkNone},
	} {
		hold(t, c.name, m, 0, c.page, c.want, c.e)
	}
}

func TestPermsOfRoots(t *testing.T) {
	m := made(t, 4)
	put(t, m, 0, 0, word(1, api.PermRead))
	put(t, m, 0, 1, word(1, api.PermWrite))
	put(t, m, 0, 2, word(1, api.PermBoth))
	put(t, m, 1, 0, word(2, api.PermBoth))
	for k := range api.Entries {
		// Whatever the leaf's entry, a root's of another Perm is refused first.
		hold(t, "a root's to read", m, 0, k, api.Entry{}, api.ErrWalkBad)
		hold(t, "a root's to write", m, 0, 16+k, api.Entry{}, api.ErrWalkBad)
	}
	hold(t, "a root's of both", m, 0, 32, api.Entry{Frame: 2, Perm: api.PermBoth}, api.OK)
	hold(t, "a root's of both, no leaf", m, 0, 33, api.Entry{}, api.ErrWalkNone)
}

func TestWordsOfNoEntry(t *testing.T) {
	for _, bad := range []int{
		1, 2, 4, 6, 3 + 8, 7 + 8, 7 + 2048, 4096, 4096 + 1, 4096 + 6, 77,
		word(api.MaxFrames, 3), word(api.MaxFrames, 1), 7 + 1<<18, 7 + 1<<31, 1 << 31, math.MaxUint32,
	} {
		m := made(t, api.MaxFrames)
		put(t, m, 0, 0, bad)
		put(t, m, 0, 1, word(1, api.PermBoth))
		put(t, m, 1, 0, bad)
		put(t, m, 1, 1, word(9, api.PermRead))
		hold(t, "a root's word", m, 0, 0, api.Entry{}, api.ErrWalkBad)
		hold(t, "a root's word, a good leaf's place", m, 0, 1, api.Entry{}, api.ErrWalkBad)
		hold(t, "a leaf's word", m, 0, 16, api.Entry{}, api.ErrWalkBad)
		hold(t, "beside it", m, 0, 17, api.Entry{Frame: 9, Perm: api.PermRead}, api.OK)
	}
}

func TestFramesThatAreNotThere(t *testing.T) {
	for i := range api.MaxFrames {
		frames := i + 1
		m := made(t, frames)
		for frame := range api.MaxFrames {
			put(t, m, frames-1, 0, word(frame, api.PermBoth))
			want, f := api.Entry{}, api.ErrWalkBad
			if frame == frames-1 {
				want, f = api.Entry{Frame: frame, Perm: api.PermBoth}, api.OK
			} else if frame < frames {
				f = api.ErrWalkNone
			}
			hold(t, "a root's frame", m, frames-1, 0, want, f)
			for perm := range 3 {
				put(t, m, frames-1, 0, word(frames-1, api.PermBoth))
				put(t, m, frames-1, 1, word(frame, perm+1))
				want, f := api.Entry{}, api.ErrWalkBad
				if frame < frames {
					want, f = api.Entry{Frame: frame, Perm: perm + 1}, api.OK
				}
				hold(t, "a leaf's frame", m, frames-1, 1, want, f)
			}
		}
	}
}

func TestRefusedPagesAndRoots(t *testing.T) {
	for _, frames := range []int{1, 4, api.MaxFrames} {
		m := made(t, frames)
		for k := range api.Entries {
			put(t, m, 0, k, word(0, api.PermBoth))
		}
		for _, page := range append([]int{api.Pages, api.Pages + 1, 2 * api.Pages}, far...) {
			hold(t, "a page", m, 0, page, api.Entry{}, api.ErrWalkForm)
		}
		for _, root := range append([]int{frames, frames + 1, api.MaxFrames, 2 * api.MaxFrames, 1 << 20}, far...) {
			for _, page := range []int{0, 17, api.Pages - 1, api.Pages, -1} {
				hold(t, "a root", m, root, page, api.Entry{}, api.ErrWalkForm)
			}
		}
	}
}

func TestFormAheadOfTables(t *testing.T) {
	m := made(t, 2)
	put(t, m, 0, 15, 77)
	put(t, m, 0, 0, word(1, api.PermRead))
	hold(t, "a page behind the last", m, 0, api.Pages, api.Entry{}, api.ErrWalkForm)
	hold(t, "a page ahead of the first", m, 0, -1, api.Entry{}, api.ErrWalkForm)
	hold(t, "a bad root's word", m, 0, api.Pages-1, api.Entry{}, api.ErrWalkBad)
}

func TestNoMemory(t *testing.T) {
	for _, x := range append([]int{0, 1, api.Pages}, far...) {
		if got, e := walk.Walk(nil, x, x); got != (api.Entry{}) || e != api.ErrNil {
			t.Errorf("P5.1: Walk(nil, %d, %d) = %v, %d", x, x, got, e)
		}
	}
	// A memory that New did not make has no frame.
	for _, root := range append([]int{0, 1}, far...) {
		hold(t, "a memory of nothing", &phys.Mem{}, root, 0, api.Entry{}, api.ErrWalkForm)
	}
}

func TestByThePlainWords(t *testing.T) {
	frameOf := func(w int) int { return w / 4096 }
	permOf := func(w int) int { return w / 2 % 4 }
	isEntry := func(w int) bool {
		return w == 0 || permOf(w) > 0 && w == word(frameOf(w), permOf(w)) && frameOf(w) < api.MaxFrames
	}
	const frames = 5
	words := []int{0, 0, 1, 8, word(0, 3), word(1, 3), word(2, 3), word(3, 3), word(4, 3), word(4, 1), word(1, 2), word(5, 3), word(5, 1), word(63, 2), word(64, 3), 1 << 31}
	row := 1
	next := func(n int) int {
		row = (row*1103515245 + 12345) % (1 << 31)
		return row >> 12 % n
	}
	for range 50 {
		m := made(t, frames)
		var table [frames][api.Entries]int
		for frame := range frames {
			for k := range api.Entries {
				table[frame][k] = words[next(len(words))]
				put(t, m, frame, k, table[frame][k])
			}
		}
		before := bytes(t, m)
		for root := range frames {
			for page := range api.Pages {
				want, f := api.Entry{}, api.OK
				if w := table[root][page/16]; !isEntry(w) || w != 0 && permOf(w) != 3 || frameOf(w) >= frames {
					f = api.ErrWalkBad
				} else if w == 0 {
					f = api.ErrWalkNone
				} else if w = table[frameOf(w)][page%16]; !isEntry(w) || frameOf(w) >= frames {
					f = api.ErrWalkBad
				} else if w == 0 {
					f = api.ErrWalkNone
				} else {
					want = api.Entry{Frame: frameOf(w), Perm: permOf(w)}
				}
				hold(t, "any words", m, root, page, want, f)
			}
		}
		if bytes(t, m) != before {
			t.Fatalf("R4: a walk changed the memory")
		}
	}
}

func TestWhatIsKept(t *testing.T) {
	m := made(t, 3)
	hold(t, "nothing there", m, 0, 18, api.Entry{}, api.ErrWalkNone)
	put(t, m, 0, 1, word(1, api.PermBoth))
	put(t, m, 1, 2, word(2, api.PermRead))
	hold(t, "an entry put", m, 0, 18, api.Entry{Frame: 2, Perm: api.PermRead}, api.OK)
	put(t, m, 1, 2, word(2, api.PermWrite))
	hold(t, "an entry changed", m, 0, 18, api.Entry{Frame: 2, Perm: api.PermWrite}, api.OK)
	if e := m.Zero(1); e != api.OK {
		t.Fatalf("P3.2: Zero(1) = %d", e)
	}
	hold(t, "a table cleared", m, 0, 18, api.Entry{}, api.ErrWalkNone)
}

func TestFromSeveralGoroutines(t *testing.T) {
	var group sync.WaitGroup
	for i := range 8 {
		m := made(t, 8)
		put(t, m, 1, 1, word(2, api.PermBoth))
		put(t, m, 2, 1, word(i, api.PermRead))
		group.Go(func() {
			for range 500 {
				if got, e := walk.Walk(m, 1, 17); got != (api.Entry{Frame: i, Perm: api.PermRead}) || e != api.OK {
					t.Errorf("R5: %d: %v, %d", i, got, e)
				}
			}
		})
	}
	group.Wait()
}
