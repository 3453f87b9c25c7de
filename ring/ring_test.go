package ring_test

import (
	"math"
	"slices"
	"strings"
	"sync"
	"testing"

	"caisson/api"
	"caisson/ring"
)

// row is a row of numbers.
type row uint64

// next is a number from 0 below n.
func (r *row) next(n int) int {
	*r = *r*6364136223846793005 + 1442695040888963407
	return int(uint64(*r) >> 33 % uint64(n))
}

// written is a descriptor's bytes.
func written(d api.Desc) string {
	return string([]byte{byte(d.Op), byte(d.Next), byte(d.Lba % 256), byte(d.Lba / 256), byte(d.Buf % 256), byte(d.Buf / 256), byte(d.Len), 0})
}

// ringOf is a ring whose places lead as said; each has an Lba of its own.
func ringOf(nexts ...int) string {
	s := ""
	for i, next := range nexts {
		s += written(api.Desc{Op: api.BlkFlush, Next: next, Lba: 256 + i, Buf: 512 + i, Len: i})
	}
	return s
}

// place is the descriptor that ringOf puts at a place.
func place(i int, next int) api.Desc {
	return api.Desc{Op: api.BlkFlush, Next: next, Lba: 256 + i, Buf: 512 + i, Len: i}
}

// holdChain holds what Chain answers to be some descriptors, or an error beside none.
func holdChain(t *testing.T, name string, s string, head int, want []api.Desc, e api.Errno) {
	t.Helper()
	got, f := ring.Chain(s, head)
	if !slices.Equal(got, want) || f != e {
		t.Errorf("P17.1: %s: Chain(%x, %d) = %v, %d, want %v, %d", name, s, head, got, f, want, e)
	}
	if f != api.OK && got != nil {
		t.Errorf("R2: %s: Chain(%x, %d) = %v beside %d", name, s, head, got, f)
	}
}

func TestChainsInTheirRow(t *testing.T) {
	s := ringOf(3, 255, 1, 7, 255, 4, 0, 5)
	for _, c := range []struct {
		head int
		want []api.Desc
	}{
		{0, []api.Desc{place(0, 3), place(3, 7), place(7, 5), place(5, 4), place(4, 255)}},
		{1, []api.Desc{place(1, 255)}},
		{2, []api.Desc{place(2, 1), place(1, 255)}},
		{4, []api.Desc{place(4, 255)}},
		{6, []api.Desc{place(6, 0), place(0, 3), place(3, 7), place(7, 5), place(5, 4), place(4, 255)}},
		{7, []api.Desc{place(7, 5), place(5, 4), place(4, 255)}},
	} {
		holdChain(t, "a chain", s, c.head, c.want, api.OK)
	}
}

func TestChainThroughAllPlaces(t *testing.T) {
	up := ringOf(1, 2, 3, 4, 5, 6, 7, 255)
	var want []api.Desc
	for i := range 7 {
		want = append(want, place(i, i+1))
	}
	want = append(want, place(7, 255))
	holdChain(t, "up", up, 0, want, api.OK)
	holdChain(t, "up", up, 5, want[5:], api.OK)
	down := ringOf(255, 0, 1, 2, 3, 4, 5, 6)
	want = nil
	for i := 7; i > 0; i-- {
		want = append(want, place(i, i-1))
	}
	want = append(want, place(0, 255))
	holdChain(t, "down", down, 7, want, api.OK)
}

func TestCycles(t *testing.T) {
	holdChain(t, "one that leads to itself", ringOf(0, 1, 2, 3, 4, 5, 6, 7), 3, nil, api.ErrRingCycle)
	holdChain(t, "all of them", ringOf(1, 2, 3, 4, 5, 6, 7, 0), 4, nil, api.ErrRingCycle)
	holdChain(t, "two behind others", ringOf(1, 2, 3, 2, 255, 255, 255, 255), 0, nil, api.ErrRingCycle)
	holdChain(t, "to the first of all at the last", ringOf(1, 2, 3, 4, 5, 6, 7, 0), 0, nil, api.ErrRingCycle)
	holdChain(t, "not on the way", ringOf(1, 255, 3, 2, 255, 255, 255, 255), 0, []api.Desc{place(0, 1), place(1, 255)}, api.OK)
}

// spoilt is a ring with a byte of a place's descriptor set to another.
func spoilt(s string, at int, off int, to byte) string {
	b := []byte(s)
	b[at*api.DescSize+off] = to
	return string(b)
}

func TestBytesOfNoDescriptor(t *testing.T) {
	s := ringOf(1, 2, 255, 0, 0, 0, 0, 0)
	for _, c := range []struct {
		off int
		to  byte
	}{{0, 4}, {0, 255}, {1, 8}, {1, 254}, {7, 1}, {7, 255}} {
		for at := range api.RingSize {
			bad := spoilt(s, at, c.off, c.to)
			want := []api.Desc{place(0, 1), place(1, 2), place(2, 255)}
			e := api.OK
			if at < 3 {
				want, e = nil, api.ErrRingForm
			}
			holdChain(t, "a spoilt one", bad, 0, want, e)
			if at != 2 {
				holdChain(t, "a spoilt one not on the way", bad, 2, []api.Desc{place(2, 255)}, api.OK)
			}
		}
	}
	holdChain(t, "spoilt ahead of a cycle", spoilt(ringOf(1, 2, 1, 0, 0, 0, 0, 0), 2, 7, 1), 0, nil, api.ErrRingForm)
	holdChain(t, "a cycle ahead of a spoilt one", spoilt(ringOf(1, 0, 1, 0, 0, 0, 0, 0), 2, 7, 1), 0, nil, api.ErrRingCycle)
}

func TestRingsOfOtherLengths(t *testing.T) {
	good := ringOf(255, 255, 255, 255, 255, 255, 255, 255)
	for n := range 3 * len(good) {
		if n == len(good) {
			continue
		}
		for _, head := range []int{0, 7, 8, -1} {
			holdChain(t, "another length", strings.Repeat(good, 3)[:n], head, nil, api.ErrRingForm)
		}
	}
	holdChain(t, "many bytes", strings.Repeat("\x00", 1<<20), 0, nil, api.ErrRingForm)
	holdChain(t, "as many runes of more bytes", strings.Repeat("é", 64), 0, nil, api.ErrRingForm)
}

func TestHeads(t *testing.T) {
	good := ringOf(255, 255, 255, 255, 255, 255, 255, 255)
	bad := strings.Repeat("\xff", len(good))
	for i := range api.RingSize {
		holdChain(t, "a head", good, i, []api.Desc{place(i, 255)}, api.OK)
		holdChain(t, "a head of no descriptor", bad, i, nil, api.ErrRingForm)
	}
	for _, head := range []int{math.MinInt, math.MinInt32, -255, -8, -2, -1, 8, 9, 63, 64, 254, 255, 256, 1 << 32, math.MaxInt/8 + 1, math.MaxInt - 7, math.MaxInt} {
		holdChain(t, "no head", good, head, nil, api.ErrRingIndex)
		holdChain(t, "no head of a bad ring", bad, head, nil, api.ErrRingIndex)
	}
}

// chainByWords follows a ring as P17.1 says it, by the bytes alone.
func chainByWords(s string, head int) ([]api.Desc, api.Errno) {
	var want []api.Desc
	seen := map[int]bool{}
	for at := head; ; {
		b := s[at*8 : at*8+8]
		if b[0] > 3 || b[1] > 7 && b[1] != 255 || b[7] != 0 {
			return nil, api.ErrRingForm
		}
		if seen[at] {
			return nil, api.ErrRingCycle
		}
		seen[at] = true
		want = append(want, api.Desc{Op: int(b[0]), Next: int(b[1]), Lba: int(b[2]) + 256*int(b[3]), Buf: int(b[4]) + 256*int(b[5]), Len: int(b[6])})
		if b[1] == 255 {
			return want, api.OK
		}
		at = int(b[1])
	}
}

func TestManyRings(t *testing.T) {
	r := row(17)
	for range 5000 {
		b := make([]byte, 64)
		for i := range b {
			b[i] = byte(r.next(256))
		}
		for i := range 8 {
			b[i*8] = byte(r.next(4))
			b[i*8+1] = []byte{0, 1, 2, 3, 4, 5, 6, 7, 255, 255, 255}[r.next(11)]
			b[i*8+7] = 0
		}
		if r.next(3) == 0 {
			b[r.next(8)*8+[]int{0, 1, 7}[r.next(3)]] = byte(4 + r.next(251))
		}
		for head := range 8 {
			want, e := chainByWords(string(b), head)
			holdChain(t, "a ring", string(b), head, want, e)
		}
	}
}

// holdCheck holds what Check answers to be an error, or none.
func holdCheck(t *testing.T, name string, ds []api.Desc, reads []int, writes []int, want api.Errno) {
	t.Helper()
	if e := ring.Check(ds, reads, writes); e != want {
		t.Errorf("P17.2: %s: Check(%v, %v, %v) = %d, want %d", name, ds, reads, writes, e, want)
	}
}

// frames are all there may be.
func frames() []int {
	var all []int
	for i := range api.MaxFrames {
		all = append(all, i)
	}
	return all
}

func TestWhatMayNotBe(t *testing.T) {
	all := frames()
	for op := range 4 {
		for n := range 300 {
			want := api.OK
			if n < 1 || n > 4 {
				want = api.ErrRingForm
			}
			holdCheck(t, "a Len", []api.Desc{{Op: op, Len: n}}, all, all, want)
		}
		for _, n := range []int{math.MinInt, -1 << 60, -257, -256, -255, -4, -1, 1 << 28, 1<<32 + 1, 1<<60 + 1, math.MaxInt} {
			holdCheck(t, "a Len far off", []api.Desc{{Op: op, Len: n}}, all, all, api.ErrRingForm)
			holdCheck(t, "a Buf far off", []api.Desc{{Op: op, Buf: n, Len: 1}}, all, all, api.ErrRingForm)
			holdCheck(t, "an Lba far off", []api.Desc{{Op: op, Lba: n, Len: 1}}, all, all, api.ErrRingForm)
			holdCheck(t, "a Next far off", []api.Desc{{Op: op, Next: n, Len: 1}}, all, all, api.ErrRingForm)
			holdCheck(t, "an Op far off", []api.Desc{{Op: n, Len: 1}}, all, all, api.ErrRingForm)
		}
		for _, d := range []api.Desc{{Next: 8}, {Next: 254}, {Next: 256}, {Lba: 65536}, {Buf: 65536}, {Op: 4}} {
			d.Len = 1
			d.Op += op
			holdCheck(t, "one behind an edge", []api.Desc{d}, all, all, api.ErrRingForm)
		}
		holdCheck(t, "one at its edges", []api.Desc{{Op: op, Next: 255, Lba: 65535, Len: 4}, {Op: op, Next: 7, Len: 1}}, all, all, api.OK)
	}
	holdCheck(t, "none", nil, nil, nil, api.OK)
	holdCheck(t, "an empty row", []api.Desc{}, all, all, api.OK)
}

// among tells whether all bytes of a buffer lie in the memory's frames of a row.
func among(row []int, buf int, n int) bool {
	for at := buf; at < buf+n*16; at++ {
		if at >= 4096 || !slices.Contains(row, at/64) {
			return false
		}
	}
	return true
}

func TestBuffersOfEachPlace(t *testing.T) {
	all := frames()
	for _, row := range [][]int{nil, all, {0}, {63}, {0, 1}, {62, 63}, {5, 3}, {1, 2, 4, 8}} {
		for buf := range 4200 {
			for n := 1; n <= 4; n++ {
				want := api.OK
				if !among(row, buf, n) {
					want = api.ErrRingBuffer
				}
				holdCheck(t, "a write", []api.Desc{{Op: api.BlkWrite, Buf: buf, Len: n}}, row, nil, want)
				holdCheck(t, "a read", []api.Desc{{Op: api.BlkRead, Buf: buf, Len: n}}, nil, row, want)
			}
		}
	}
}

func TestWhichRowIsAsked(t *testing.T) {
	all := frames()
	for buf := 0; buf <= 4096-64; buf += 16 {
		holdCheck(t, "a write", []api.Desc{{Op: api.BlkWrite, Buf: buf, Len: 4}}, all, nil, api.OK)
		holdCheck(t, "a write", []api.Desc{{Op: api.BlkWrite, Buf: buf, Len: 4}}, nil, all, api.ErrRingBuffer)
		holdCheck(t, "a read", []api.Desc{{Op: api.BlkRead, Buf: buf, Len: 4}}, nil, all, api.OK)
		holdCheck(t, "a read", []api.Desc{{Op: api.BlkRead, Buf: buf, Len: 4}}, all, nil, api.ErrRingBuffer)
	}
	for _, buf := range []int{0, 4095, 4096, 65535} {
		for n := 1; n <= 4; n++ {
			holdCheck(t, "a flush", []api.Desc{{Op: api.BlkFlush, Buf: buf, Len: n}}, nil, nil, api.OK)
			holdCheck(t, "a discard", []api.Desc{{Op: api.BlkDiscard, Buf: buf, Len: n}}, nil, nil, api.OK)
		}
	}
	for _, op := range []int{api.BlkRead, api.BlkWrite} {
		for _, buf := range []int{4033, 4081, 4095, 4096, 4097, 8192, 65471, 65520, 65535} {
			holdCheck(t, "behind the memory", []api.Desc{{Op: op, Buf: buf, Len: 4}}, all, all, api.ErrRingBuffer)
		}
		holdCheck(t, "at the memory's end", []api.Desc{{Op: op, Buf: 4080, Len: 1}, {Op: op, Buf: 4032, Len: 4}}, []int{63}, []int{63}, api.OK)
	}
}

func TestRowsWithWhatIsNoFrame(t *testing.T) {
	odd := []int{math.MinInt, -64, -1, 64, 65, 128, 1 << 32, math.MaxInt}
	for _, op := range []int{api.BlkRead, api.BlkWrite} {
		for buf := 0; buf < 65536; buf += 64 {
			holdCheck(t, "none of them", []api.Desc{{Op: op, Buf: buf, Len: 1}}, odd, odd, api.ErrRingBuffer)
		}
		with := append(slices.Clone(odd), 2, 2, 2)
		holdCheck(t, "one among them", []api.Desc{{Op: op, Buf: 128, Len: 4}}, with, with, api.OK)
		holdCheck(t, "beside it", []api.Desc{{Op: op, Buf: 127, Len: 4}}, with, with, api.ErrRingBuffer)
		holdCheck(t, "behind it", []api.Desc{{Op: op, Buf: 192, Len: 1}}, with, with, api.ErrRingBuffer)
	}
}

func TestTheFirstInTheirRow(t *testing.T) {
	fine := api.Desc{Op: api.BlkWrite, Buf: 64, Len: 1}
	form := api.Desc{Op: api.BlkFlush}
	buffer := api.Desc{Op: api.BlkRead, Buf: 64, Len: 1}
	both := api.Desc{Op: api.BlkWrite, Buf: 65535, Len: 5}
	for _, c := range []struct {
		name string
		ds   []api.Desc
		want api.Errno
	}{
		{"all fine", []api.Desc{fine, fine, fine}, api.OK},
		{"the last has no form", []api.Desc{fine, fine, form}, api.ErrRingForm},
		{"the last has no buffer", []api.Desc{fine, fine, buffer}, api.ErrRingBuffer},
		{"the first has no form", []api.Desc{form, buffer, fine}, api.ErrRingForm},
		{"the first has no buffer", []api.Desc{buffer, form, fine}, api.ErrRingBuffer},
		{"one has neither", []api.Desc{fine, both, buffer}, api.ErrRingForm},
	} {
		holdCheck(t, c.name, c.ds, []int{1}, nil, c.want)
	}
	many := slices.Repeat([]api.Desc{fine}, 100000)
	holdCheck(t, "many", many, []int{1}, nil, api.OK)
	holdCheck(t, "many, and one", append(many, buffer), []int{1}, nil, api.ErrRingBuffer)
	holdCheck(t, "long rows", []api.Desc{fine}, append(slices.Repeat([]int{9}, 1<<20), 1), slices.Repeat([]int{9}, 1<<20), api.OK)
}

func TestWhatIsHandedInStays(t *testing.T) {
	ds := []api.Desc{{Op: api.BlkWrite, Buf: 64, Len: 1}, {Op: api.BlkRead, Buf: 192, Len: 1}, {Op: 9}}[:2]
	reads, writes := []int{5, 1, 1, 7}[:3], []int{3, 2, 9}[:2]
	holdCheck(t, "a row with spare room", ds, reads, writes, api.OK)
	if !slices.Equal(ds[:3], []api.Desc{{Op: api.BlkWrite, Buf: 64, Len: 1}, {Op: api.BlkRead, Buf: 192, Len: 1}, {Op: 9}}) || !slices.Equal(reads[:4], []int{5, 1, 1, 7}) || !slices.Equal(writes[:3], []int{3, 2, 9}) {
		t.Errorf("R4: %v, %v, %v", ds[:3], reads[:4], writes[:3])
	}
}

func TestAnswersShareNothing(t *testing.T) {
	s := ringOf(1, 2, 255, 255, 255, 255, 255, 255)
	first, _ := ring.Chain(s, 0)
	second, _ := ring.Chain(s, 0)
	for i := range first {
		first[i] = api.Desc{}
	}
	_ = append(first[:0], api.Desc{Op: 3}, api.Desc{Op: 3})
	if want := []api.Desc{place(0, 1), place(1, 2), place(2, 255)}; !slices.Equal(second, want) {
		t.Errorf("R4: %v", second)
	}
	holdChain(t, "again", s, 1, []api.Desc{place(1, 2), place(2, 255)}, api.OK)
}

func TestFromSeveralGoroutines(t *testing.T) {
	var w sync.WaitGroup
	s := ringOf(1, 2, 255, 3, 255, 255, 255, 255)
	ds := []api.Desc{{Op: api.BlkWrite, Buf: 64, Len: 4}, {Op: api.BlkRead, Buf: 128, Len: 4}}
	reads, writes := []int{1}, []int{2}
	for range 8 {
		w.Go(func() {
			for range 500 {
				if got, e := ring.Chain(s, 0); len(got) != 3 || e != api.OK {
					t.Errorf("R5: %v, %d", got, e)
				}
				if _, e := ring.Chain(s, 3); e != api.ErrRingCycle {
					t.Errorf("R5: %d", e)
				}
				if e := ring.Check(ds, reads, writes); e != api.OK {
					t.Errorf("R5: %d", e)
				}
				if e := ring.Check(ds, writes, reads); e != api.ErrRingBuffer {
					t.Errorf("R5: %d", e)
				}
			}
		})
	}
	w.Wait()
}
