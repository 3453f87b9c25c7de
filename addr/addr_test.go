package addr_test

import (
	"math"
	"math/big"
	"slices"
	"sync"
	"testing"

	"caisson/addr"
	"caisson/api"
)

const memorySize = api.MaxFrames * api.FrameSize

// fits is P1.1 in numbers that never overflow.
func fits(at, n, size int) bool {
	a, b, s := big.NewInt(int64(at)), big.NewInt(int64(n)), big.NewInt(int64(size))
	if a.Sign() < 0 || b.Sign() < 0 || s.Sign() < 0 || a.Cmp(s) > 0 {
		return false
	}
	return b.Cmp(new(big.Int).Sub(s, a)) <= 0
}

// piecesOf is P1.2, byte by byte.
func piecesOf(at, n int) []api.Piece {
	var pieces []api.Piece
	for i := range n {
		frame, off := (at+i)/api.FrameSize, (at+i)%api.FrameSize
		if i == 0 || off == 0 {
			pieces = append(pieces, api.Piece{Frame: frame, Off: off})
		}
		pieces[len(pieces)-1].Len++
	}
	return pieces
}

func TestMay(t *testing.T) {
	for _, c := range []struct {
		name        string
		at, n, size int
		want        bool
	}{
		{"within", 3, 4, 10, true},
		{"all", 0, 10, 10, true},
		{"no bytes of none", 0, 0, 0, true},
		{"no bytes at the end", 10, 0, 10, true},
		{"up to the end", 3, 7, 10, true},
		{"one too many", 3, 8, 10, false},
		{"one at the end", 10, 1, 10, false},
		{"no bytes behind the end", 11, 0, 10, false},
		{"at below 0", -1, 1, 10, false},
		{"n below 0", 1, -1, 10, false},
		{"n below 0 at the end", 10, -1, 10, false},
		{"size below 0", 0, 0, -1, false},
		{"all below 0", -2, -1, -1, false},
		{"more than the lowest size", -1, 0, math.MinInt, false},
		{"a sum that overflows", 1, math.MaxInt, math.MaxInt, false},
		{"a sum of the greatest", math.MaxInt, math.MaxInt, math.MaxInt, false},
		{"the greatest from 0 on", 0, math.MaxInt, math.MaxInt, true},
		{"nothing at the greatest", math.MaxInt, 0, math.MaxInt, true},
		{"a difference that overflows", math.MinInt, 0, math.MaxInt, false},
		{"a small size, a great sum", math.MaxInt, math.MaxInt, 10, false},
	} {
		if got := addr.May(c.at, c.n, c.size); got != c.want {
			t.Errorf("P1.1: %s: May(%d, %d, %d) = %v", c.name, c.at, c.n, c.size, got)
		}
	}
}

func TestMayOfAllNearTheEdges(t *testing.T) {
	numbers := []int{math.MinInt, math.MinInt + 1, math.MinInt / 2, memorySize - 1, memorySize, memorySize + 1, math.MaxInt / 2, math.MaxInt/2 + 1, math.MaxInt - 1, math.MaxInt}
	for i := range 13 {
		numbers = append(numbers, i-4)
	}
	for _, at := range numbers {
		for _, n := range numbers {
			for _, size := range numbers {
				if got := addr.May(at, n, size); got != fits(at, n, size) {
					t.Errorf("P1.1: May(%d, %d, %d) = %v", at, n, size, got)
				}
			}
		}
	}
}

func TestSplit(t *testing.T) {
	for _, c := range []struct {
		name  string
		at, n int
		want  []api.Piece
	}{
		{"nothing at 0", 0, 0, nil},
		{"nothing within a frame", 70, 0, nil},
		{"nothing at the end", memorySize, 0, nil},
		{"one byte", 0, 1, []api.Piece{{Frame: 0, Off: 0, Len: 1}}},
		{"within a frame", 70, 5, []api.Piece{{Frame: 1, Off: 6, Len: 5}}},
		{"a whole frame", 128, 64, []api.Piece{{Frame: 2, Off: 0, Len: 64}}},
		{"up to a frame's end", 130, 62, []api.Piece{{Frame: 2, Off: 2, Len: 62}}},
		{"over one edge", 63, 2, []api.Piece{{Frame: 0, Off: 63, Len: 1}, {Frame: 1, Off: 0, Len: 1}}},
		{"a frame and a byte", 64, 65, []api.Piece{{Frame: 1, Off: 0, Len: 64}, {Frame: 2, Off: 0, Len: 1}}},
		{"over two edges", 100, 100, []api.Piece{{Frame: 1, Off: 36, Len: 28}, {Frame: 2, Off: 0, Len: 64}, {Frame: 3, Off: 0, Len: 8}}},
		{"the last byte", memorySize - 1, 1, []api.Piece{{Frame: 63, Off: 63, Len: 1}}},
	} {
		got, e := addr.Split(c.at, c.n)
		if e != api.OK || !slices.Equal(got, c.want) {
			t.Errorf("P1.2: %s: Split(%d, %d) = %v, %d", c.name, c.at, c.n, got, e)
		}
	}
}

func TestSplitFromEachByte(t *testing.T) {
	lengths := []int{0, 1, 2, 63, 64, 65, 127, 128, 129, api.MaxDma, 1000}
	for at := range memorySize + 1 {
		for _, n := range append(lengths, memorySize-at) {
			if n > memorySize-at {
				continue
			}
			got, e := addr.Split(at, n)
			if e != api.OK || !slices.Equal(got, piecesOf(at, n)) {
				t.Fatalf("P1.2: Split(%d, %d) = %v, %d", at, n, got, e)
			}
		}
	}
}

func TestSplitRefuses(t *testing.T) {
	for _, c := range []struct {
		name  string
		at, n int
	}{
		{"at below 0", -1, 1},
		{"at below 0, nothing", -1, 0},
		{"n below 0", 1, -1},
		{"one too many", 0, memorySize + 1},
		{"one behind the end", memorySize, 1},
		{"over the end", memorySize - 1, 2},
		{"nothing behind the end", memorySize + 1, 0},
		{"a frame behind the last", memorySize, api.FrameSize},
		{"a sum that overflows", 1, math.MaxInt},
		{"a sum of the greatest", math.MaxInt, math.MaxInt},
		{"the lowest", math.MinInt, math.MinInt},
		{"the lowest, a great n", math.MinInt, math.MaxInt},
	} {
		got, e := addr.Split(c.at, c.n)
		if e != api.ErrAddrForm || len(got) != 0 {
			t.Errorf("P1.2: %s: Split(%d, %d) = %v, %d", c.name, c.at, c.n, got, e)
		}
	}
}

func TestSplitSharesNothing(t *testing.T) {
	first, _ := addr.Split(100, 100)
	for i := range first {
		first[i] = api.Piece{Frame: -1, Off: -1, Len: -1}
	}
	second, e := addr.Split(100, 100)
	if e != api.OK || !slices.Equal(second, piecesOf(100, 100)) {
		t.Errorf("R4: the second answer: %v, %d", second, e)
	}
}

func TestSplitFromSeveralGoroutines(t *testing.T) {
	var all sync.WaitGroup
	for k := range 8 {
		all.Go(func() {
			for at := range 500 {
				if got, e := addr.Split(at, 100+k); e != api.OK || !slices.Equal(got, piecesOf(at, 100+k)) {
					t.Errorf("R5: Split(%d, %d) = %v, %d", at, 100+k, got, e)
				}
			}
		})
	}
	all.Wait()
}
