package iommu_test

import (
	"math"
	"slices"
	"strings"
	"sync"
	"testing"

	"caisson/api"
	"caisson/iommu"
	"caisson/phys"
)

// far are numbers that are no device, no page, no frame, no Perm, and nothing of a run.
var far = []int{
	math.MinInt, math.MinInt + 1, math.MinInt / 2, -1 << 58, -1 << 32, -api.Pages, -api.MaxFrames, -api.MaxDevices, -1,
	1 << 16, 1 << 32, 1<<32 + 1, 1 << 58, 1<<58 + 1, math.MaxInt / 2, math.MaxInt - 1, math.MaxInt,
}

// plain is what an Iommu is to answer, by a memory's words alone.
type plain struct {
	frames int
	words  [api.MaxFrames][api.Entries]int
	pools  [][]int
}

// entry is a word's, by the numbers of P4.1, if its frame is there; false: it is none.
func (p *plain) entry(w int) (api.Entry, bool) {
	e := api.Entry{Frame: w / 4096, Perm: w / 2 % 4}
	if w == 0 {
		return api.Entry{}, true
	}
	if e.Perm == 0 || w != word(e.Frame, e.Perm) || e.Frame >= p.frames {
		return api.Entry{}, false
	}
	return e, true
}

// leaf is the frame that a root's word leads to, or -1.
func (p *plain) leaf(w int) int {
	if e, is := p.entry(w); is && e.Perm == 3 {
		return e.Frame
	}
	return -1
}

// walk is a page's entry, its leaf and the error.
func (p *plain) walk(device int, page int) (api.Entry, int, api.Errno) {
	w := p.words[p.pools[device][0]][page/16]
	leaf := p.leaf(w)
	if w == 0 {
		return api.Entry{}, 0, api.ErrIommuNone
	}
	if leaf < 0 {
		return api.Entry{}, 0, api.ErrIommuBad
	}
	e, is := p.entry(p.words[leaf][page%16])
	if !is {
		return api.Entry{}, 0, api.ErrIommuBad
	}
	if e.Perm == 0 {
		return api.Entry{}, 0, api.ErrIommuNone
	}
	return e, leaf, api.OK
}

func (p *plain) mapOne(device int, page int, e api.Entry) api.Errno {
	root := &p.words[p.pools[device][0]]
	leaf := p.leaf(root[page/16])
	for _, frame := range p.pools[device][1:] {
		if leaf < 0 && !slices.ContainsFunc(root[:], func(w int) bool { return p.leaf(w) == frame }) {
			leaf = frame
			root[page/16] = word(leaf, 3)
		}
	}
	if leaf < 0 {
		return api.ErrIommuFull
	}
	p.words[leaf][page%16] = word(e.Frame, e.Perm)
	return api.OK
}

func (p *plain) unmap(device int, page int) api.Errno {
	_, leaf, e := p.walk(device, page)
	if e == api.OK {
		p.words[leaf][page%16] = 0
	}
	return e
}

func (p *plain) translate(device int, iova int, n int, write bool) ([]api.Piece, api.Errno) {
	var pieces []api.Piece
	for at := iova; at < iova+n; {
		e, _, f := p.walk(device, at/64)
		if f != api.OK {
			return nil, f
		}
		if write && e.Perm < 2 || !write && e.Perm%2 == 0 {
			return nil, api.ErrIommuPerm
		}
		k := min(64-at%64, iova+n-at)
		pieces = append(pieces, api.Piece{Frame: e.Frame, Off: at % 64, Len: k})
		at += k
	}
	return pieces, api.OK
}

func (p *plain) clear(device int) {
	for _, frame := range p.pools[device] {
		p.words[frame] = [api.Entries]int{}
	}
}

// word is an entry's, by the numbers of P4.1.
func word(frame int, perm int) int {
	return 1 + perm*2 + frame*4096
}

// memory is one of so many frames.
func memory(t *testing.T, frames int) *phys.Mem {
	t.Helper()
	m, e := phys.New(frames)
	if m == nil || e != api.OK {
		t.Fatalf("P3.1: New(%d) = %v, %d", frames, m, e)
	}
	return m
}

// made is an Iommu of some pools.
func made(t *testing.T, m *phys.Mem, pools ...[]int) *iommu.Iommu {
	t.Helper()
	x, e := iommu.New(m, pools...)
	if x == nil || e != api.OK {
		t.Fatalf("P7.1: New(%v) = %v, %d", pools, x, e)
	}
	return x
}

// put makes entry k of a frame's table a word, as others may.
func put(t *testing.T, m *phys.Mem, frame int, k int, w int) {
	t.Helper()
	if e := m.PutWord(frame*64+k*4, w); e != api.OK {
		t.Fatalf("P3.2: PutWord of frame %d, entry %d: %d", frame, k, e)
	}
}

// has holds entry k of a frame's table against a word.
func has(t *testing.T, name string, m *phys.Mem, frame int, k int, want int) {
	t.Helper()
	if got, e := m.Word(frame*64 + k*4); got != want || e != api.OK {
		t.Fatalf("P7.1: %s: frame %d, entry %d: %d, %d, want %d", name, frame, k, got, e, want)
	}
}

// bytes are all of a memory's.
func bytes(t *testing.T, m *phys.Mem) string {
	t.Helper()
	s, e := m.Read(0, m.Size())
	if e != api.OK {
		t.Fatalf("P3.1: Read = %d", e)
	}
	return s
}

// mapOne maps a page, and holds what is answered.
func mapOne(t *testing.T, name string, x *iommu.Iommu, device int, page int, entry api.Entry, want api.Errno) {
	t.Helper()
	if e := x.Map(device, page, entry); e != want {
		t.Fatalf("P7.1: %s: Map(%d, %d, %v) = %d, want %d", name, device, page, entry, e, want)
	}
}

// unmap unmaps a page, and holds what is answered.
func unmap(t *testing.T, name string, x *iommu.Iommu, device int, page int, want api.Errno) {
	t.Helper()
	if e := x.Unmap(device, page); e != want {
		t.Fatalf("P7.2: %s: Unmap(%d, %d) = %d, want %d", name, device, page, e, want)
	}
}

// hold holds a translation against what it is to answer.
func hold(t *testing.T, name string, x *iommu.Iommu, device int, iova int, n int, write bool, want []api.Piece, f api.Errno) {
	t.Helper()
	got, e := x.Translate(device, iova, n, write)
	if !slices.Equal(got, want) || e != f {
		t.Fatalf("P7.3: %s: Translate(%d, %d, %d, %v) = %v, %d, want %v, %d", name, device, iova, n, write, got, e, want, f)
	}
}

// byte1 holds the translation of a page's first byte, to read, against a frame.
func byte1(t *testing.T, name string, x *iommu.Iommu, device int, page int, frame int) {
	t.Helper()
	hold(t, name, x, device, page*64, 1, false, []api.Piece{{Frame: frame, Len: 1}}, api.OK)
}

// refused holds the translation of a page's first byte, to read, against an error.
func refused(t *testing.T, name string, x *iommu.Iommu, device int, page int, f api.Errno) {
	t.Helper()
	hold(t, name, x, device, page*64, 1, false, nil, f)
}

// to is an entry of a frame.
func to(frame int, perm int) api.Entry {
	return api.Entry{Frame: frame, Perm: perm}
}

func TestNewZeroesItsPoolsAlone(t *testing.T) {
	for _, pools := range [][][]int{
		{{0, 1}},
		{{15, 0}},
		{{3, 9, 1, 14, 6}},
		{{1, 2}, {3, 4}, {5, 6}, {7, 8}},
		{{0, 4, 8, 12, 1}, {5, 9}, {13, 2, 6}, {10, 14, 3, 7}},
	} {
		m := memory(t, 16)
		if e := m.Write(0, strings.Repeat("\xee", m.Size())); e != api.OK {
			t.Fatalf("P3.1: Write = %d", e)
		}
		x := made(t, m, pools...)
		all := slices.Concat(pools...)
		for frame := range 16 {
			want := strings.Repeat("\xee", 64)
			if slices.Contains(all, frame) {
				want = strings.Repeat("\x00", 64)
			}
			if got, _ := m.Read(frame*64, 64); got != want {
				t.Errorf("P7.1: New(%v): frame %d: %x", pools, frame, got)
			}
		}
		for device := range pools {
			for page := range api.Pages {
				refused(t, "a new one", x, device, page, api.ErrIommuNone)
			}
		}
		refused(t, "a device behind the last", x, len(pools), 0, api.ErrIommuForm)
	}
}

func TestNewOfAllFrames(t *testing.T) {
	for frames := 2; frames <= api.MaxFrames; frames++ {
		m := memory(t, frames)
		x := made(t, m, []int{frames - 1, 0})
		mapOne(t, "the last frame", x, 0, 0, to(frames-1, 1), api.OK)
		byte1(t, "the last frame", x, 0, 0, frames-1)
		if x, e := iommu.New(m, []int{0, frames}); x != nil || e != api.ErrIommuForm {
			t.Errorf("P7.1: %d frames: a frame that is not there: %v, %d", frames, x, e)
		}
	}
}

func TestNewRefuses(t *testing.T) {
	m := memory(t, 32)
	if e := m.Write(0, strings.Repeat("\x77", m.Size())); e != api.OK {
		t.Fatalf("P3.1: Write = %d", e)
	}
	before := bytes(t, m)
	refuse := func(name string, pools ...[]int) {
		t.Helper()
		if x, e := iommu.New(m, pools...); x != nil || e != api.ErrIommuForm {
			t.Errorf("P7.1: %s: New(%v) = %v, %d", name, pools, x, e)
		}
		if bytes(t, m) != before {
			t.Fatalf("R5: %s: New(%v) changed the memory", name, pools)
		}
	}
	refuse("no pool")
	refuse("no pool, a list", [][]int{}...)
	refuse("one pool too many", []int{0, 1}, []int{2, 3}, []int{4, 5}, []int{6, 7}, []int{8, 9})
	refuse("many pools", make([][]int, 300)...)
	refuse("a pool of none", nil)
	refuse("a pool of none behind a good one", []int{0, 1}, []int{})
	refuse("a pool of a root alone", []int{0})
	refuse("a pool of a root alone behind a good one", []int{0, 1}, []int{2})
	refuse("one frame too many", []int{0, 1, 2, 3, 4, 5})
	refuse("one frame too many behind a good one", []int{0, 1}, []int{2, 3, 4, 5, 6, 7})
	refuse("a long pool", make([]int, 1000))
	refuse("a root that is a leaf", []int{3, 3})
	refuse("a leaf twice", []int{0, 1, 2, 3, 1})
	refuse("a root of two", []int{0, 1}, []int{0, 2})
	refuse("a leaf of two", []int{0, 1, 2, 3, 4}, []int{5, 6}, []int{7, 8}, []int{9, 4})
	refuse("a root that is another's leaf", []int{0, 1}, []int{2, 0})
	for _, n := range append([]int{32, 33, api.MaxFrames - 1, api.MaxFrames, api.MaxFrames + 1, 1 << 8, 1 << 20}, far...) {
		refuse("a root that is not there", []int{n, 1})
		refuse("a leaf that is not there", []int{0, n})
		refuse("a leaf that is not there, the last", []int{0, 1}, []int{2, 3, 4, 5, n})
		refuse("no frame that is there", []int{n, n})
	}
}

func TestNewOfNoMemory(t *testing.T) {
	for _, pools := range [][][]int{nil, {}, {{1}}, {{1, 2}}, {{-1, 2}}, make([][]int, 9)} {
		if x, e := iommu.New(nil, pools...); x != nil || e != api.ErrNil {
			t.Errorf("P7.1: New(nil, %v) = %v, %d", pools, x, e)
		}
		// A memory that New did not make has no frame.
		if x, e := iommu.New(&phys.Mem{}, pools...); x != nil || e != api.ErrIommuForm {
			t.Errorf("P7.1: New of a memory of nothing, %v = %v, %d", pools, x, e)
		}
	}
}

func TestMapPutsWords(t *testing.T) {
	m := memory(t, 12)
	x := made(t, m, []int{4, 9, 2})
	mapOne(t, "the first", x, 0, 0x35, to(7, 1), api.OK)
	has(t, "the first", m, 4, 3, word(9, 3))
	has(t, "the first", m, 9, 5, word(7, 1))
	mapOne(t, "a table that is there", x, 0, 0x3f, to(11, 2), api.OK)
	has(t, "a table that is there", m, 9, 15, word(11, 2))
	mapOne(t, "another table", x, 0, 0xf5, to(0, 3), api.OK)
	has(t, "another table", m, 4, 15, word(2, 3))
	has(t, "another table", m, 2, 5, word(0, 3))
	mapOne(t, "a page again", x, 0, 0x35, to(8, 2), api.OK)
	has(t, "a page again", m, 9, 5, word(8, 2))
	words := 0
	for at := 0; at < m.Size(); at += 4 {
		if w, _ := m.Word(at); w != 0 {
			words++
		}
	}
	if words != 5 {
		t.Errorf("P7.1: %d words are not 0", words)
	}
}

func TestMapOfAllPages(t *testing.T) {
	m := memory(t, api.MaxFrames)
	x := made(t, m, []int{0, 1, 2, 3, 4}, []int{5, 6})
	for i := range api.Pages {
		device, page := 0, i
		if i >= 4*api.Entries {
			device, page = 1, i%api.Entries
		}
		entry := to(i*5%api.MaxFrames, 1+i%3)
		mapOne(t, "a page", x, device, page, entry, api.OK)
		for _, write := range []bool{false, true} {
			want, f := []api.Piece{{Frame: entry.Frame, Len: 64}}, api.OK
			if write && entry.Perm == 1 || !write && entry.Perm == 2 {
				want, f = nil, api.ErrIommuPerm
			}
			hold(t, "a page", x, device, page*64, 64, write, want, f)
		}
	}
	for page := range 4 * api.Entries {
		if page%3 != 1 {
			byte1(t, "a page, all mapped", x, 0, page, page*5%api.MaxFrames)
		}
	}
}

func TestMapOfAllEntries(t *testing.T) {
	m := memory(t, api.MaxFrames)
	x := made(t, m, []int{0, 1})
	for frame := range api.MaxFrames {
		for perm := api.PermRead; perm <= api.PermBoth; perm++ {
			mapOne(t, "an entry", x, 0, 255, to(frame, perm), api.OK)
			has(t, "an entry", m, 1, 15, word(frame, perm))
		}
	}
}

func TestMapIsFull(t *testing.T) {
	for leaves := 1; leaves < api.MaxPool; leaves++ {
		m := memory(t, 16)
		x := made(t, m, []int{10, 11, 12, 13, 14}[:leaves+1], []int{1, 2})
		for i := range leaves {
			mapOne(t, "a leaf that is left", x, 0, i*32, to(0, 3), api.OK)
			has(t, "a leaf that is left", m, 10, i*2, word(11+i, 3))
		}
		before := bytes(t, m)
		for k := range api.Entries {
			if k%2 == 0 && k/2 < leaves {
				continue
			}
			mapOne(t, "no leaf is left", x, 0, k*16, to(0, 3), api.ErrIommuFull)
			mapOne(t, "no leaf is left, nor a page", x, 0, api.Pages+k, to(0, 3), api.ErrIommuForm)
			mapOne(t, "no leaf is left, nor an entry", x, 0, k*16, to(0, 0), api.ErrIommuForm)
			mapOne(t, "no leaf is left, nor a frame", x, 0, k*16, to(16, 1), api.ErrIommuForm)
			refused(t, "no leaf is left", x, 0, k*16, api.ErrIommuNone)
		}
		if bytes(t, m) != before {
			t.Fatalf("R5: Map changed the memory beside an error")
		}
		mapOne(t, "a table that is there", x, 0, 1, to(5, 3), api.OK)
		mapOne(t, "another device", x, 1, 250, to(5, 3), api.OK)
	}
}

func TestLeavesAreKeptWhenEmpty(t *testing.T) {
	m := memory(t, 8)
	x := made(t, m, []int{1, 2})
	mapOne(t, "the only leaf", x, 0, 0, to(5, 3), api.OK)
	unmap(t, "the only leaf", x, 0, 0, api.OK)
	has(t, "an empty leaf", m, 1, 0, word(2, 3))
	has(t, "an empty leaf", m, 2, 0, 0)
	mapOne(t, "an empty leaf", x, 0, 16, to(5, 3), api.ErrIommuFull)
	mapOne(t, "an empty leaf, its pages", x, 0, 15, to(5, 3), api.OK)
	if e := x.Clear(0); e != api.OK {
		t.Fatalf("P7.3: Clear(0) = %d", e)
	}
	mapOne(t, "a leaf that was cleared", x, 0, 16, to(5, 3), api.OK)
}

func TestRootsWordsOfOthers(t *testing.T) {
	for _, c := range []struct {
		name string
		w    int
		put  bool
	}{
		{"not there", 0, true},
		{"no entry", 77, true},
		{"no entry, a bit alone", 6, true},
		{"no entry, Perm 0", 1 + 4096*3, true},
		{"no entry, bits beside", word(3, 3) + 8, true},
		{"no entry, a frame that may not be", word(64, 3), true},
		{"no entry, all bits", math.MaxUint32, true},
		{"to read", word(3, 1), true},
		{"to write", word(3, 2), true},
		{"of a frame that is not there", word(8, 3), true},
		{"of the last frame that may be", word(63, 3), true},
		{"of the pool's other leaf", word(3, 3), false},
		{"of the last frame", word(7, 3), false},
		{"of the first frame", word(0, 3), false},
		{"of another's pool", word(5, 3), false},
		{"of the root", word(1, 3), false},
	} {
		m := memory(t, 8)
		x := made(t, m, []int{1, 2, 3}, []int{4, 5})
		put(t, m, 1, 9, c.w)
		leaf := c.w / 4096
		if c.put {
			leaf = 2
		}
		mapOne(t, c.name, x, 0, 9*16+4, to(6, 1), api.OK)
		has(t, c.name, m, 1, 9, word(leaf, 3))
		has(t, c.name, m, leaf, 4, word(6, 1))
		byte1(t, c.name, x, 0, 9*16+4, 6)
		unmap(t, c.name, x, 0, 9*16+4, api.OK)
		has(t, c.name, m, 1, 9, word(leaf, 3))
		has(t, c.name, m, leaf, 4, 0)
	}
}

func TestTheFirstLeafThatIsLeft(t *testing.T) {
	for taken := range 1 << 4 {
		m := memory(t, 16)
		pool := []int{6, 12, 3, 15, 8}
		x := made(t, m, pool)
		first := 0
		for i := range 4 {
			if taken>>i&1 == 1 {
				put(t, m, 6, 15-i, word(pool[1+i], 3))
			} else if first == 0 {
				first = pool[1+i]
			}
		}
		// Words of other frames, and words that lead to no leaf, take none.
		put(t, m, 6, 1, word(0, 3))
		put(t, m, 6, 2, word(12, 1))
		put(t, m, 6, 3, word(3, 2))
		put(t, m, 6, 4, word(15, 3)+8)
		put(t, m, 6, 5, word(6, 3))
		put(t, m, 12, 0, word(3, 3))
		if first == 0 {
			mapOne(t, "all are led to", x, 0, 0, to(1, 1), api.ErrIommuFull)
			continue
		}
		mapOne(t, "one is left", x, 0, 0, to(1, 1), api.OK)
		has(t, "one is left", m, 6, 0, word(first, 3))
		byte1(t, "one is left", x, 0, 0, 1)
	}
}

func TestALeafComesAsItStands(t *testing.T) {
	m := memory(t, 8)
	x := made(t, m, []int{1, 2})
	put(t, m, 2, 7, word(6, 1))
	put(t, m, 2, 8, 77)
	mapOne(t, "a leaf with words", x, 0, 0, to(5, 1), api.OK)
	byte1(t, "a word of others", x, 0, 7, 6)
	refused(t, "a bad word of others", x, 0, 8, api.ErrIommuBad)
	mapOne(t, "a bad word of others, turned", x, 0, 8, to(4, 1), api.OK)
	byte1(t, "a bad word of others, turned", x, 0, 8, 4)
}

func TestMapRefuses(t *testing.T) {
	m := memory(t, 8)
	x := made(t, m, []int{1, 2}, []int{3, 4})
	mapOne(t, "a page", x, 0, 3, to(7, 1), api.OK)
	byte1(t, "a page", x, 0, 3, 7)
	before := bytes(t, m)
	refuse := func(name string, device int, page int, entry api.Entry) {
		t.Helper()
		mapOne(t, name, x, device, page, entry, api.ErrIommuForm)
		if bytes(t, m) != before {
			t.Fatalf("R5: %s: Map(%d, %d, %v) changed the memory", name, device, page, entry)
		}
		byte1(t, name, x, 0, 3, 7)
	}
	good := to(6, 3)
	refuse("a device behind the last", 2, 3, good)
	refuse("a page behind the last", 0, api.Pages, good)
	refuse("no entry", 0, 3, api.Entry{})
	refuse("no entry, but a frame", 0, 3, to(5, 0))
	refuse("a Perm behind the last", 0, 3, to(5, api.PermBoth+1))
	for _, n := range []int{8, 9, api.MaxFrames - 1, api.MaxFrames, api.MaxFrames + 1} {
		refuse("a frame that is not there", 0, 3, to(n, 1))
	}
	for _, n := range far {
		refuse("a device", n, 3, good)
		refuse("a page", 0, n, good)
		refuse("a frame", 0, 3, to(n, 3))
		refuse("a frame, Perm 0", 0, 3, to(n, 0))
		refuse("a Perm", 0, 3, to(5, n))
		refuse("nothing that may be", n, n, to(n, n))
	}
}

func TestUnmap(t *testing.T) {
	m := memory(t, 8)
	x := made(t, m, []int{1, 2, 3}, []int{4, 5})
	for _, page := range []int{0, 15, 16, 31} {
		mapOne(t, "a page", x, 0, page, to(6, 3), api.OK)
	}
	mapOne(t, "another device", x, 1, 15, to(7, 1), api.OK)
	unmap(t, "a page of no table", x, 0, 255, api.ErrIommuNone)
	unmap(t, "a page of no entry", x, 0, 1, api.ErrIommuNone)
	unmap(t, "a page", x, 0, 15, api.OK)
	refused(t, "a page", x, 0, 15, api.ErrIommuNone)
	unmap(t, "a page again", x, 0, 15, api.ErrIommuNone)
	for _, page := range []int{0, 16, 31} {
		byte1(t, "beside it", x, 0, page, 6)
	}
	byte1(t, "another device", x, 1, 15, 7)
	put(t, m, 2, 0, 77)
	unmap(t, "a bad word", x, 0, 0, api.ErrIommuBad)
	has(t, "a bad word stays", m, 2, 0, 77)
	put(t, m, 2, 0, word(8, 3))
	unmap(t, "a word of a frame that is not there", x, 0, 0, api.ErrIommuBad)
	put(t, m, 1, 1, word(3, 2))
	unmap(t, "a root's word of less than both", x, 0, 16, api.ErrIommuBad)
	put(t, m, 1, 1, 1)
	unmap(t, "a root's bad word", x, 0, 16, api.ErrIommuBad)
	put(t, m, 1, 1, word(8, 3))
	unmap(t, "a root's word of a frame that is not there", x, 0, 16, api.ErrIommuBad)
	put(t, m, 1, 1, word(3, 3))
	unmap(t, "a root's word that is good again", x, 0, 16, api.OK)
	has(t, "its word", m, 3, 0, 0)
	has(t, "beside it", m, 3, 15, word(6, 3))
}

func TestUnmapRefuses(t *testing.T) {
	m := memory(t, 8)
	x := made(t, m, []int{1, 2}, []int{3, 4})
	mapOne(t, "a page", x, 0, 3, to(7, 1), api.OK)
	before := bytes(t, m)
	for _, c := range [][2]int{{2, 3}, {0, api.Pages}, {1, api.Pages + 1}, {api.MaxDevices, 0}} {
		unmap(t, "behind the last", x, c[0], c[1], api.ErrIommuForm)
	}
	for _, n := range far {
		unmap(t, "a device", x, n, 3, api.ErrIommuForm)
		unmap(t, "a page", x, 0, n, api.ErrIommuForm)
		unmap(t, "neither", x, n, n, api.ErrIommuForm)
	}
	unmap(t, "no entry", x, 1, 3, api.ErrIommuNone)
	if bytes(t, m) != before {
		t.Errorf("R5: Unmap changed the memory beside an error")
	}
	byte1(t, "the page", x, 0, 3, 7)
}

func TestTranslateOfAllRuns(t *testing.T) {
	m := memory(t, 16)
	x := made(t, m, []int{0, 1, 2})
	frames := []int{7, 3, 3, 12, 15, 9}
	for i, frame := range frames {
		mapOne(t, "a page", x, 0, 13+i, to(frame, 3), api.OK)
	}
	for off := range 65 {
		for n := 1; n <= api.MaxDma; n++ {
			var want []api.Piece
			for at := off; at < off+n; at += 64 - at%64 {
				want = append(want, api.Piece{Frame: frames[at/64], Off: at % 64, Len: min(64-at%64, off+n-at)})
			}
			hold(t, "a run", x, 0, 13*64+off, n, n%2 == 0, want, api.OK)
		}
	}
}

func TestTranslateAtTheEnds(t *testing.T) {
	m := memory(t, 4)
	x := made(t, m, []int{0, 1, 2})
	for _, page := range []int{0, 252, 253, 254, 255} {
		mapOne(t, "a page", x, 0, page, to(3, 1), api.OK)
	}
	full := api.Piece{Frame: 3, Len: 64}
	hold(t, "the first byte", x, 0, 0, 1, false, []api.Piece{{Frame: 3, Len: 1}}, api.OK)
	hold(t, "the last byte", x, 0, 16383, 1, false, []api.Piece{{Frame: 3, Off: 63, Len: 1}}, api.OK)
	hold(t, "the last 256", x, 0, 16384-256, 256, false, []api.Piece{full, full, full, full}, api.OK)
	hold(t, "one too far", x, 0, 16384-255, 256, false, nil, api.ErrIommuForm)
	hold(t, "behind the last", x, 0, 16384, 1, false, nil, api.ErrIommuForm)
	hold(t, "a page of none ahead of the last", x, 0, 251*64+63, 2, false, nil, api.ErrIommuNone)
}

func TestTranslatePageByPage(t *testing.T) {
	m := memory(t, 8)
	x := made(t, m, []int{0, 1, 2})
	mapOne(t, "to read", x, 0, 14, to(5, 1), api.OK)
	mapOne(t, "to write", x, 0, 15, to(6, 2), api.OK)
	mapOne(t, "both", x, 0, 16, to(7, 3), api.OK)
	for _, c := range []struct {
		name  string
		iova  int
		n     int
		write bool
		want  []api.Piece
		e     api.Errno
	}{
		{"read what may be read", 14 * 64, 64, false, []api.Piece{{Frame: 5, Len: 64}}, api.OK},
		{"write what may be read", 14 * 64, 64, true, nil, api.ErrIommuPerm},
		{"read what may be written", 15 * 64, 64, false, nil, api.ErrIommuPerm},
		{"write what may be written", 15*64 + 3, 60, true, []api.Piece{{Frame: 6, Off: 3, Len: 60}}, api.OK},
		{"write both", 15*64 + 60, 8, true, []api.Piece{{Frame: 6, Off: 60, Len: 4}, {Frame: 7, Len: 4}}, api.OK},
		{"read, the second may not be", 14 * 64, 65, false, nil, api.ErrIommuPerm},
		{"write, the first may not be", 14*64 + 63, 2, true, nil, api.ErrIommuPerm},
		{"none ahead of Perm", 13*64 + 63, 2, true, nil, api.ErrIommuNone},
		{"Perm ahead of none", 15 * 64, 129, false, nil, api.ErrIommuPerm},
		{"none behind both", 16 * 64, 65, true, nil, api.ErrIommuNone},
	} {
		hold(t, c.name, x, 0, c.iova, c.n, c.write, c.want, c.e)
	}
	put(t, m, 2, 1, 77)
	hold(t, "bad behind both", x, 0, 16*64, 65, true, nil, api.ErrIommuBad)
	hold(t, "bad ahead of none", x, 0, 17*64, 65, true, nil, api.ErrIommuBad)
	put(t, m, 2, 0, 77)
	hold(t, "Perm ahead of bad", x, 0, 15*64, 65, false, nil, api.ErrIommuPerm)
	hold(t, "bad behind one to write", x, 0, 15*64, 65, true, nil, api.ErrIommuBad)
	put(t, m, 0, 0, 77)
	hold(t, "a bad root's word ahead of Perm", x, 0, 14*64, 64, true, nil, api.ErrIommuBad)
}

func TestTranslateRefuses(t *testing.T) {
	m := memory(t, 8)
	x := made(t, m, []int{1, 2}, []int{3, 4})
	before := bytes(t, m)
	refuse := func(name string, device int, iova int, n int) {
		t.Helper()
		for _, write := range []bool{false, true} {
			hold(t, name, x, device, iova, n, write, nil, api.ErrIommuForm)
		}
	}
	refuse("a device behind the last", 2, 0, 1)
	refuse("no bytes", 0, 0, 0)
	refuse("one byte too many", 0, 0, api.MaxDma+1)
	refuse("a page's size of bytes too many", 0, 0, api.MaxDma+64)
	refuse("behind the last page", 0, 16384, 1)
	refuse("behind the last page, no bytes", 0, 16384, 0)
	refuse("over the last page", 0, 16383, 2)
	refuse("ahead of the first", 0, -1, 2)
	for _, n := range far {
		refuse("a device", n, 0, 1)
		refuse("an iova", 0, n, 1)
		refuse("an iova, a long run", 0, n, api.MaxDma)
		refuse("a length", 0, 0, n)
		refuse("a length behind a page", 0, 64, n)
		refuse("a sum that overflows", 0, n, math.MaxInt-n/2)
		refuse("nothing that may be", n, n, n)
	}
	hold(t, "what may be", x, 1, 0, 1, true, nil, api.ErrIommuNone)
	if bytes(t, m) != before {
		t.Errorf("R5: Translate changed the memory")
	}
}

func TestClear(t *testing.T) {
	m := memory(t, 12)
	x := made(t, m, []int{1, 2, 3}, []int{4, 5})
	if e := m.Write(8*64, strings.Repeat("\x55", 256)); e != api.OK {
		t.Fatalf("P3.1: Write = %d", e)
	}
	for _, page := range []int{0, 17} {
		mapOne(t, "a page", x, 0, page, to(9, 3), api.OK)
		byte1(t, "a page", x, 0, page, 9)
	}
	mapOne(t, "another device", x, 1, 17, to(10, 3), api.OK)
	put(t, m, 3, 15, 77)
	if e := x.Clear(0); e != api.OK {
		t.Fatalf("P7.3: Clear(0) = %d", e)
	}
	for page := range api.Pages {
		refused(t, "a device that was cleared", x, 0, page, api.ErrIommuNone)
	}
	if got, _ := m.Read(64, 3*64); got != strings.Repeat("\x00", 3*64) {
		t.Errorf("P7.3: Clear(0): %x", got)
	}
	if got, _ := m.Read(8*64, 256); got != strings.Repeat("\x55", 256) {
		t.Errorf("P7.3: Clear(0) changed other frames: %x", got)
	}
	byte1(t, "another device", x, 1, 17, 10)
	mapOne(t, "a leaf that was cleared", x, 0, 200, to(9, 3), api.OK)
	has(t, "a leaf that was cleared", m, 1, 12, word(2, 3))
	before := bytes(t, m)
	for _, device := range append([]int{2, 3, api.MaxDevices}, far...) {
		if e := x.Clear(device); e != api.ErrIommuForm {
			t.Errorf("P7.3: Clear(%d) = %d", device, e)
		}
	}
	if bytes(t, m) != before {
		t.Errorf("R5: Clear changed the memory beside an error")
	}
}

func TestDevicesAreApart(t *testing.T) {
	m := memory(t, 16)
	x := made(t, m, []int{0, 1}, []int{2, 3}, []int{4, 5}, []int{6, 7})
	for device := range 4 {
		for _, page := range []int{0, 15} {
			mapOne(t, "a page", x, device, page, to(8+device, 1+device%3), api.OK)
		}
	}
	for range 2 {
		for device := range 4 {
			for _, page := range []int{0, 15} {
				hold(t, "a page", x, device, page*64, 1, device == 1, []api.Piece{{Frame: 8 + device, Len: 1}}, api.OK)
			}
		}
	}
	unmap(t, "of one device", x, 2, 15, api.OK)
	refused(t, "of one device", x, 2, 15, api.ErrIommuNone)
	byte1(t, "of another", x, 0, 15, 8)
	byte1(t, "of another", x, 3, 15, 11)
}

func TestTablesAreTakenAsTheyAre(t *testing.T) {
	m := memory(t, 8)
	x := made(t, m, []int{1, 2, 3})
	mapOne(t, "a page", x, 0, 5, to(7, 3), api.OK)
	asked := func(name string, turn func() api.Errno, frame int, f api.Errno) {
		t.Helper()
		// What was found ahead of the turn must not be told behind it.
		x.Translate(0, 5*64, 1, false)
		if e := turn(); e != api.OK {
			t.Fatalf("P7.3: %s: %d", name, e)
		}
		if f == api.OK {
			byte1(t, name, x, 0, 5, frame)
			return
		}
		refused(t, name, x, 0, 5, f)
	}
	word4 := func(frame int, k int, w int) func() api.Errno {
		return func() api.Errno { return m.PutWord(frame*64+k*4, w) }
	}
	asked("a page", func() api.Errno { return api.OK }, 7, api.OK)
	asked("mapped again", func() api.Errno { return x.Map(0, 5, to(6, 1)) }, 6, api.OK)
	asked("mapped to write", func() api.Errno { return x.Map(0, 5, to(6, 2)) }, 0, api.ErrIommuPerm)
	asked("mapped to both", func() api.Errno { return x.Map(0, 5, to(5, 3)) }, 5, api.OK)
	asked("unmapped", func() api.Errno { return x.Unmap(0, 5) }, 0, api.ErrIommuNone)
	asked("mapped", func() api.Errno { return x.Map(0, 5, to(4, 3)) }, 4, api.OK)
	asked("a leaf's word turned", word4(2, 5, word(7, 1)), 7, api.OK)
	asked("a leaf's word bad", word4(2, 5, word(7, 1)+8), 0, api.ErrIommuBad)
	asked("a leaf's word good", word4(2, 5, word(7, 1)), 7, api.OK)
	asked("a leaf's word of no frame", word4(2, 5, word(8, 1)), 0, api.ErrIommuBad)
	asked("a leaf's word good again", word4(2, 5, word(7, 1)), 7, api.OK)
	asked("a leaf's word gone", word4(2, 5, 0), 0, api.ErrIommuNone)
	asked("a leaf's word back", word4(2, 5, word(7, 1)), 7, api.OK)
	asked("another table's word", word4(3, 5, word(6, 1)), 7, api.OK)
	asked("a root's word turned", word4(1, 0, word(3, 3)), 6, api.OK)
	asked("a root's word to read", word4(1, 0, word(3, 1)), 0, api.ErrIommuBad)
	asked("a root's word good", word4(1, 0, word(3, 3)), 6, api.OK)
	asked("a root's word of no frame", word4(1, 0, word(8, 3)), 0, api.ErrIommuBad)
	asked("a root's word good again", word4(1, 0, word(3, 3)), 6, api.OK)
	asked("a root's word gone", word4(1, 0, 0), 0, api.ErrIommuNone)
	asked("a root's word out of the pool", word4(1, 0, word(0, 3)), 0, api.ErrIommuNone)
	asked("a word out of the pool", word4(0, 5, word(2, 1)), 2, api.OK)
	asked("a frame out of the pool cleared", func() api.Errno { return m.Zero(0) }, 0, api.ErrIommuNone)
	asked("a root's word back", word4(1, 0, word(2, 3)), 7, api.OK)
	asked("bytes written", func() api.Errno { return m.Write(2*64+5*4, "\x03\x40\x00\x00") }, 4, api.OK)
	asked("a byte written", func() api.Errno { return m.Write(2*64+5*4, "\x05") }, 0, api.ErrIommuPerm)
	asked("a byte written back", func() api.Errno { return m.Write(2*64+5*4, "\x07") }, 4, api.OK)
	asked("cleared", func() api.Errno { return x.Clear(0) }, 0, api.ErrIommuNone)
	asked("a memory of New's again", func() api.Errno { _, e := iommu.New(m, []int{5, 6}); return e }, 0, api.ErrIommuNone)
}

func TestMemoryTakenBack(t *testing.T) {
	m := memory(t, 8)
	x := made(t, m, []int{1, 2})
	mapOne(t, "ahead", x, 0, 0, to(7, 1), api.OK)
	kept := *m
	mapOne(t, "behind", x, 0, 0, to(6, 1), api.OK)
	byte1(t, "behind", x, 0, 0, 6)
	*m = kept
	byte1(t, "taken back", x, 0, 0, 7)
	*m = *memory(t, 8)
	refused(t, "a new one's bytes", x, 0, 0, api.ErrIommuNone)
	*m = kept
	byte1(t, "taken back again", x, 0, 0, 7)
	// The frames of a smaller one are fewer, so what was found leads nowhere.
	small := memory(t, 4)
	put(t, small, 1, 0, word(2, 3))
	put(t, small, 2, 0, word(7, 1))
	*m = *small
	refused(t, "a smaller one's bytes", x, 0, 0, api.ErrIommuBad)
	mapOne(t, "a smaller one's frames", x, 0, 0, to(7, 1), api.ErrIommuForm)
}

func TestTwoOfOneMemory(t *testing.T) {
	m := memory(t, 8)
	x, y := made(t, m, []int{1, 2}), made(t, m, []int{3, 4})
	mapOne(t, "of one", x, 0, 0, to(7, 1), api.OK)
	mapOne(t, "of the other", y, 0, 0, to(6, 1), api.OK)
	byte1(t, "of one", x, 0, 0, 7)
	byte1(t, "of the other", y, 0, 0, 6)
	put(t, m, 1, 0, word(4, 3))
	byte1(t, "of one, by the other's leaf", x, 0, 0, 6)
	mapOne(t, "of the other, again", y, 0, 0, to(5, 1), api.OK)
	byte1(t, "of one, by the other's leaf", x, 0, 0, 5)
	// Tables of the same frames are the same tables, whoever made them.
	z := made(t, m, []int{1, 2})
	refused(t, "of one, made anew", x, 0, 0, api.ErrIommuNone)
	mapOne(t, "of the new one", z, 0, 0, to(0, 1), api.OK)
	byte1(t, "of one, by the new one", x, 0, 0, 0)
}

func TestMorePagesThanAreKept(t *testing.T) {
	m := memory(t, 16)
	x := made(t, m, []int{0, 1, 2, 3, 4})
	for page := range 3 * api.MaxTlb {
		mapOne(t, "a page", x, 0, page, to(page%16, 3), api.OK)
	}
	for range 3 {
		for page := range 3 * api.MaxTlb {
			byte1(t, "a page", x, 0, page, page%16)
		}
	}
	for page := range 3 * api.MaxTlb {
		unmap(t, "a page", x, 0, page, api.OK)
		refused(t, "a page", x, 0, page, api.ErrIommuNone)
	}
}

func TestPoolsAreNotKept(t *testing.T) {
	m := memory(t, 8)
	all := []int{1, 2, 3, 4, 5}
	pools := [][]int{all[:2], {6, 7}}
	x := made(t, m, pools...)
	if !slices.Equal(all, []int{1, 2, 3, 4, 5}) || !slices.Equal(pools[1], []int{6, 7}) {
		t.Fatalf("R4: New changed %v, %v", all, pools[1])
	}
	all[0], all[1], all[2] = 7, 6, 5
	pools[1][0], pools[1] = 0, nil
	mapOne(t, "a page", x, 0, 0, to(0, 3), api.OK)
	has(t, "the root as it was told", m, 1, 0, word(2, 3))
	mapOne(t, "the other device's", x, 1, 0, to(0, 3), api.OK)
	has(t, "the other's root as it was told", m, 6, 0, word(7, 3))
	mapOne(t, "no leaf but one", x, 0, 16, to(0, 3), api.ErrIommuFull)
	if !slices.Equal(all, []int{7, 6, 5, 4, 5}) {
		t.Errorf("R4: Map changed %v", all)
	}
}

func TestPiecesAreNotKept(t *testing.T) {
	m := memory(t, 8)
	x := made(t, m, []int{1, 2})
	for page := range 5 {
		mapOne(t, "a page", x, 0, page, to(3+page, 3), api.OK)
	}
	a, _ := x.Translate(0, 63, 256, false)
	b, _ := x.Translate(0, 63, 256, false)
	want := slices.Clone(b)
	for i := range a {
		a[i] = api.Piece{Frame: -1, Off: -1, Len: -1}
	}
	_ = append(a[:0], make([]api.Piece, cap(a))...)
	if !slices.Equal(b, want) {
		t.Errorf("R4: two answers share memory: %v", b)
	}
	hold(t, "an answer that was changed", x, 0, 63, 256, false, want, api.OK)
}

// turned makes one word of a frame another, in a memory and in the plain one.
func turned(t *testing.T, m *phys.Mem, p *plain, frame int, k int, w int) {
	t.Helper()
	put(t, m, frame, k, w)
	p.words[frame][k] = w
}

// same holds a memory against the plain one.
func same(t *testing.T, name string, m *phys.Mem, p *plain) {
	t.Helper()
	for frame := range p.frames {
		for k := range api.Entries {
			has(t, name, m, frame, k, p.words[frame][k])
		}
	}
}

func TestByThePlainWords(t *testing.T) {
	row := 1
	next := func(n int) int {
		row = (row*1103515245 + 12345) % (1 << 31)
		return row >> 12 % n
	}
	const frames = 10
	words := []int{0, 0, 1, 77, word(0, 3), word(1, 3), word(2, 3), word(3, 3), word(4, 3), word(5, 3), word(6, 3), word(9, 3), word(9, 1), word(2, 2), word(10, 3), word(63, 1), word(64, 3), word(3, 3) + 8}
	pools := [][]int{{4, 1, 2}, {3, 6, 0, 8, 5}, {7, 9}}
	for round := range 60 {
		m := memory(t, frames)
		x, p := made(t, m, pools...), &plain{frames: frames, pools: pools}
		for range 400 {
			device, page := next(3), next(4)*16+next(4)
			switch next(12) {
			case 0, 1:
				unmap(t, "any words", x, device, page, p.unmap(device, page))
			case 2, 3, 4:
				entry := to(next(frames), 1+next(3))
				mapOne(t, "any words", x, device, page, entry, p.mapOne(device, page, entry))
			case 5:
				// In some rounds, so that there are others with tables as they were put.
				if round%2 == 0 {
					turned(t, m, p, next(frames), next(4), words[next(len(words))])
				}
			case 6:
				if next(8) == 0 {
					p.clear(device)
					if e := x.Clear(device); e != api.OK {
						t.Fatalf("P7.3: Clear(%d) = %d", device, e)
					}
				}
			default:
				iova, n, write := page*64+next(64), 1+next(256)>>next(8), next(2) == 0
				want, f := p.translate(device, iova, n, write)
				hold(t, "any words", x, device, iova, n, write, want, f)
			}
			same(t, "any words", m, p)
		}
	}
}

func TestNilIommu(t *testing.T) {
	var none *iommu.Iommu
	for _, n := range append([]int{0, 1, api.MaxDevices, api.Pages}, far...) {
		for _, entry := range []api.Entry{{}, to(1, 1), to(n, n)} {
			mapOne(t, "R3", none, n, n, entry, api.ErrNil)
		}
		unmap(t, "R3", none, n, n, api.ErrNil)
		hold(t, "R3", none, n, n, n, true, nil, api.ErrNil)
		if e := none.Clear(n); e != api.ErrNil {
			t.Errorf("R3: Clear(%d) = %d", n, e)
		}
	}
}

func TestAnIommuThatIsNotNews(t *testing.T) {
	var zero iommu.Iommu
	for _, n := range append([]int{0, 1, api.MaxDevices}, far...) {
		mapOne(t, "no device", &zero, n, 0, to(1, 1), api.ErrIommuForm)
		unmap(t, "no device", &zero, n, 0, api.ErrIommuForm)
		hold(t, "no device", &zero, n, 0, 1, false, nil, api.ErrIommuForm)
		if e := zero.Clear(n); e != api.ErrIommuForm {
			t.Errorf("R1: no device: Clear(%d) = %d", n, e)
		}
	}
}

func TestFromSeveralGoroutines(t *testing.T) {
	pools := [][]int{{1, 2, 3}, {4, 5}}
	var group sync.WaitGroup
	for i := range 8 {
		group.Go(func() {
			for n := range 300 {
				m, e := phys.New(16)
				if e != api.OK {
					t.Errorf("R5: %d: %d", i, e)
					return
				}
				x, e := iommu.New(m, pools...)
				if e != api.OK || x.Map(1, n%api.Pages, to(i, 1)) != api.OK {
					t.Errorf("R5: %d: %d", i, e)
					return
				}
				want := []api.Piece{{Frame: i, Len: 1}}
				if got, e := x.Translate(1, n%api.Pages*64, 1, false); !slices.Equal(got, want) || e != api.OK {
					t.Errorf("R5: %d: %v, %d", i, got, e)
				}
			}
		})
	}
	group.Wait()
}
