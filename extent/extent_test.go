package extent_test

import (
	"math"
	"math/big"
	"slices"
	"sync"
	"testing"

	"caisson/api"
	"caisson/extent"
)

// row is a row of numbers.
type row uint64

// next is a number from 0 below n.
func (r *row) next(n int) int {
	*r = *r*6364136223846793005 + 1442695040888963407
	return int(uint64(*r) >> 33 % uint64(n))
}

// edges are numbers round which a sector, or how many of them, is one no more.
var edges = []int{
	math.MinInt, math.MinInt + 1, math.MinInt + 64, math.MinInt / 2, -1 << 32, math.MinInt32, -65, -64, -63, -2, -1,
	0, 1, 2, 31, 32, 33, 62, 63, 64, 65, 127, 128, 255, 256,
	math.MaxInt32, math.MaxUint32, 1 << 32, 1<<32 + 1, 1<<32 + 64, math.MaxInt / 2, math.MaxInt/2 + 1, math.MaxInt - 64, math.MaxInt - 1, math.MaxInt,
}

// share is a partition's share, and nothing else of it.
func share(first, count int) api.Part {
	return api.Part{First: first, Count: count}
}

// shares are those of several, first and count one after the other.
func shares(numbers ...int) []api.Part {
	var parts []api.Part
	for i := 0; i < len(numbers); i += 2 {
		parts = append(parts, share(numbers[i], numbers[i+1]))
	}
	return parts
}

// within tells whether n from at on lie within size, in numbers that never overflow.
func within(at, n, size int) bool {
	sum := new(big.Int).Add(big.NewInt(int64(at)), big.NewInt(int64(n)))
	return at >= 0 && n >= 0 && sum.Cmp(big.NewInt(int64(size))) <= 0
}

// mayBe is what May is to tell, sector by sector.
func mayBe(parts []api.Part, sectors int) bool {
	if len(parts) < 1 || len(parts) > 4 || sectors < 0 || sectors > 64 {
		return false
	}
	for _, p := range parts {
		if !within(p.First, p.Count, sectors) {
			return false
		}
	}
	for s := range sectors {
		owners := 0
		for _, p := range parts {
			if s >= p.First && s < p.First+p.Count {
				owners++
			}
		}
		if owners > 1 {
			return false
		}
	}
	return true
}

// holdMay holds May against what it is to tell.
func holdMay(t *testing.T, name string, parts []api.Part, sectors int, want bool) {
	t.Helper()
	if got := extent.May(parts, sectors); got != want {
		t.Errorf("P18.1: %s: May(%v, %d) = %v", name, parts, sectors, got)
	}
}

// holdTo holds what To answers to be a sector, or an error beside 0.
func holdTo(t *testing.T, name string, parts []api.Part, part, lba, n int, want int, e api.Errno) {
	t.Helper()
	if got, f := extent.To(parts, part, lba, n); got != want || f != e {
		t.Errorf("P18.1: %s: To(%v, %d, %d, %d) = %d, %d, want %d, %d", name, parts, part, lba, n, got, f, want, e)
	}
}

func TestMay(t *testing.T) {
	for _, c := range []struct {
		name    string
		parts   []api.Part
		sectors int
		want    bool
	}{
		{"one of some", shares(2, 3), 10, true},
		{"one up to the end", shares(2, 3), 5, true},
		{"one over the end", shares(2, 3), 4, false},
		{"one of all", shares(0, 64), 64, true},
		{"one of one too many", shares(0, 65), 64, false},
		{"one of all, one behind the first", shares(1, 64), 64, false},
		{"the last sector", shares(63, 1), 64, true},
		{"one behind the last sector", shares(64, 1), 64, false},
		{"none of none", shares(0, 0), 0, true},
		{"one of none", shares(0, 1), 0, false},
		{"none at the end", shares(5, 0), 5, true},
		{"none behind the end", shares(6, 0), 5, false},
		{"none behind the end of none", shares(1, 0), 0, false},
		{"nobody", nil, 10, false},
		{"nobody, not nil", []api.Part{}, 10, false},
		{"nobody of none", nil, 0, false},
		{"four", shares(0, 16, 16, 16, 32, 16, 48, 16), 64, true},
		{"four in another row", shares(48, 16, 16, 16, 0, 16, 32, 16), 64, true},
		{"four with room between", shares(50, 3, 1, 4, 30, 5, 20, 2), 60, true},
		{"four of none", shares(0, 0, 0, 0, 0, 0, 0, 0), 0, true},
		{"five", shares(0, 1, 1, 1, 2, 1, 3, 1, 4, 1), 64, false},
		{"five of none", shares(0, 0, 0, 0, 0, 0, 0, 0, 0, 0), 0, false},
		{"sectors below 0", shares(0, 0), -1, false},
		{"the most sectors", shares(0, 1), 64, true},
		{"one sector too many", shares(0, 1), 65, false},
		{"two beside each other", shares(0, 3, 3, 4), 7, true},
		{"two beside each other, the higher first", shares(3, 4, 0, 3), 7, true},
		{"two with one in common", shares(0, 4, 3, 4), 7, false},
		{"two with one in common, the higher first", shares(3, 4, 0, 4), 7, false},
		{"two alike", shares(2, 3, 2, 3), 7, false},
		{"two of none alike", shares(2, 0, 2, 0), 7, true},
		{"one within the other", shares(0, 7, 3, 1), 7, false},
		{"the other within the one", shares(3, 1, 0, 7), 7, false},
		{"none within the other", shares(0, 7, 3, 0), 7, true},
		{"the other round none", shares(3, 0, 0, 7), 7, true},
		{"the first and the last in common", shares(0, 2, 2, 2, 4, 2, 1, 1), 7, false},
		{"the second and the last in common", shares(0, 2, 2, 2, 4, 2, 3, 1), 7, false},
		{"First below 0", shares(-1, 1), 5, false},
		{"First below 0, up to a sector", shares(-1, 3), 5, false},
		{"First below 0, none", shares(-1, 0), 5, false},
		{"Count below 0", shares(1, -1), 5, false},
		{"Count below 0 at the end", shares(5, -1), 5, false},
		{"Count below 0 from behind the end", shares(6, -1), 5, false},
		{"the last one wrong", shares(0, 1, 1, 1, 2, 1, 3, -1), 5, false},
		{"a sum that overflows", shares(1, math.MaxInt), 64, false},
		{"a sum of the greatest", shares(math.MaxInt, math.MaxInt), 64, false},
		{"a sum of the lowest", shares(math.MinInt, math.MinInt), 64, false},
		{"the lowest and the greatest", shares(math.MinInt, math.MaxInt), 64, false},
	} {
		holdMay(t, c.name, c.parts, c.sectors, c.want)
	}
}

func TestAllOfOne(t *testing.T) {
	for sectors := -2; sectors <= 66; sectors++ {
		for first := -2; first <= 66; first++ {
			for count := -2; count <= 66; count++ {
				parts := shares(first, count)
				holdMay(t, "one", parts, sectors, mayBe(parts, sectors))
			}
		}
	}
}

func TestAllOfTwo(t *testing.T) {
	for a := range 1 << 12 {
		parts := shares(a%8, a>>3%8, a>>6%8, a>>9)
		for sectors := range 16 {
			holdMay(t, "two", parts, sectors, mayBe(parts, sectors))
		}
	}
}

func TestNumbersNearTheEdges(t *testing.T) {
	for _, first := range edges {
		for _, count := range edges {
			for _, sectors := range edges {
				for _, parts := range [][]api.Part{shares(first, count), shares(0, 0, first, count), shares(first, count, 40, 2)} {
					holdMay(t, "near the edges", parts, sectors, mayBe(parts, sectors))
				}
			}
		}
	}
}

func TestManyShares(t *testing.T) {
	r := row(18)
	came := [2]int{}
	for range 20000 {
		parts := make([]api.Part, r.next(6))
		for i := range parts {
			parts[i] = share(r.next(66), r.next(20))
		}
		sectors := 50 + r.next(16)
		want := mayBe(parts, sectors)
		if want {
			came[1]++
		} else {
			came[0]++
		}
		holdMay(t, "many", parts, sectors, want)
	}
	if came[0] < 1000 || came[1] < 1000 {
		t.Errorf("P18.1: %v came", came)
	}
}

func TestLongLists(t *testing.T) {
	for _, n := range []int{5, 6, 64, 1 << 20} {
		parts := make([]api.Part, n)
		holdMay(t, "a long list", parts, 64, false)
		holdTo(t, "a long list", parts, 0, 0, 0, 0, api.ErrExtentForm)
	}
}

func TestTo(t *testing.T) {
	three := shares(40, 24, 2, 3, 10, 0)
	for _, c := range []struct {
		name         string
		part, lba, n int
		want         int
		e            api.Errno
	}{
		{"the first sector", 1, 0, 1, 2, api.OK},
		{"all", 1, 0, 3, 2, api.OK},
		{"the last sector", 1, 2, 1, 4, api.OK},
		{"none at the first", 1, 0, 0, 2, api.OK},
		{"none at the end", 1, 3, 0, 5, api.OK},
		{"none behind the end", 1, 4, 0, 0, api.ErrExtentRange},
		{"one too many", 1, 0, 4, 0, api.ErrExtentRange},
		{"over the end", 1, 2, 2, 0, api.ErrExtentRange},
		{"one at the end", 1, 3, 1, 0, api.ErrExtentRange},
		{"lba below 0, on the disk", 1, -1, 1, 0, api.ErrExtentRange},
		{"n below 0", 1, 1, -1, 0, api.ErrExtentRange},
		{"n below 0 at the end", 1, 3, -1, 0, api.ErrExtentRange},
		{"a great lba", 1, math.MaxInt, 1, 0, api.ErrExtentRange},
		{"a great n", 1, 1, math.MaxInt, 0, api.ErrExtentRange},
		{"both great", 1, math.MaxInt, math.MaxInt, 0, api.ErrExtentRange},
		{"the lowest lba", 1, math.MinInt, 1, 0, api.ErrExtentRange},
		{"the lowest n", 1, 1, math.MinInt, 0, api.ErrExtentRange},
		{"the last sector of all", 0, 23, 1, 63, api.OK},
		{"all up to the last", 0, 0, 24, 40, api.OK},
		{"none at the end of all", 0, 24, 0, 64, api.OK},
		{"one at the end of all", 0, 24, 1, 0, api.ErrExtentRange},
		{"none of none", 2, 0, 0, 10, api.OK},
		{"one of none", 2, 0, 1, 0, api.ErrExtentRange},
		{"none behind none", 2, 1, 0, 0, api.ErrExtentRange},
		{"one behind the last partition", 3, 0, 1, 0, api.ErrExtentForm},
		{"a partition below 0", -1, 0, 1, 0, api.ErrExtentForm},
	} {
		holdTo(t, c.name, three, c.part, c.lba, c.n, c.want, c.e)
	}
}

func TestToOfAllNumbers(t *testing.T) {
	parts := shares(32, 32, 0, 16, 20, 1, 31, 0)
	for i, p := range parts {
		for _, lba := range edges {
			for _, n := range edges {
				want, e := 0, api.ErrExtentRange
				if within(lba, n, p.Count) {
					want, e = p.First+lba, api.OK
				}
				holdTo(t, "near the edges", parts, i, lba, n, want, e)
			}
		}
		for lba := -2; lba < 40; lba++ {
			for n := -2; n < 40; n++ {
				want, e := 0, api.ErrExtentRange
				if lba >= 0 && n >= 0 && lba+n <= p.Count {
					want, e = p.First+lba, api.OK
				}
				holdTo(t, "each", parts, i, lba, n, want, e)
			}
		}
	}
}

func TestToOfManyShares(t *testing.T) {
	r := row(19)
	came := map[api.Errno]int{}
	for range 30000 {
		parts := make([]api.Part, r.next(6))
		for i := range parts {
			parts[i] = share(r.next(66), r.next(20))
		}
		part, lba, n := r.next(6)-1, r.next(22)-1, r.next(10)-1
		want, e := 0, api.ErrExtentForm
		if mayBe(parts, 64) && part >= 0 && part < len(parts) {
			e = api.ErrExtentRange
			if within(lba, n, parts[part].Count) {
				want, e = parts[part].First+lba, api.OK
			}
		}
		came[e]++
		holdTo(t, "many", parts, part, lba, n, want, e)
	}
	for _, e := range []api.Errno{api.OK, api.ErrExtentForm, api.ErrExtentRange} {
		if came[e] < 300 {
			t.Errorf("P18.1: %d came %d times", e, came[e])
		}
	}
}

func TestToHangsOnMaxSectors(t *testing.T) {
	holdTo(t, "up to the last", shares(0, 1, 60, 4), 0, 0, 1, 0, api.OK)
	holdTo(t, "over the last", shares(0, 1, 60, 5), 0, 0, 1, 0, api.ErrExtentForm)
	holdTo(t, "none at the end", shares(0, 1, 64, 0), 1, 0, 0, 64, api.OK)
	holdTo(t, "none behind the end", shares(0, 1, 65, 0), 0, 0, 1, 0, api.ErrExtentForm)
}

func TestSharesThatMayNotBeComeFirst(t *testing.T) {
	for _, parts := range [][]api.Part{
		nil, {}, shares(0, 2, 1, 2), shares(0, 2, -1, 0), shares(0, 2, 3, -1), shares(0, 65), shares(65, 0), shares(math.MaxInt, math.MaxInt),
		shares(0, 2, 2, 2, 4, 2, 6, 2, 8, 2),
	} {
		for _, part := range []int{math.MinInt, -1, 0, 1, 4, math.MaxInt} {
			for _, lba := range []int{math.MinInt, -1, 0, 1, 2, math.MaxInt} {
				holdTo(t, "shares that may not be", parts, part, lba, 1, 0, api.ErrExtentForm)
				holdTo(t, "shares that may not be", parts, part, 0, lba, 0, api.ErrExtentForm)
			}
		}
	}
}

func TestNoSuchPartitionComesFirst(t *testing.T) {
	parts := shares(4, 4, 0, 4)
	for _, part := range edges {
		if part == 0 || part == 1 {
			continue
		}
		for _, lba := range edges {
			holdTo(t, "no such partition", parts, part, lba, 1, 0, api.ErrExtentForm)
			holdTo(t, "no such partition", parts, part, 0, lba, 0, api.ErrExtentForm)
		}
	}
}

func TestOtherFieldsTellNothing(t *testing.T) {
	parts := shares(4, 4, 0, 4)
	for i := range parts {
		parts[i].Label = api.Label{Level: -7, Cats: math.MaxInt}
		parts[i].Frames = []int{3, 3, -1, math.MaxInt}
	}
	holdMay(t, "labels and frames that may not be", parts, 8, true)
	holdTo(t, "labels and frames that may not be", parts, 0, 1, 3, 5, api.OK)
}

func TestNothingIsChanged(t *testing.T) {
	room := shares(4, 4, 0, 4, 2, 4, -1, -1)
	for i := range room {
		room[i].Label = api.Label{Level: 1, Cats: i}
		room[i].Frames = []int{i, i + 1}
	}
	for n := range len(room) + 1 {
		extent.May(room[:n], 8)
		extent.To(room[:n], 0, 1, 2)
		extent.To(room[:n], 1, 1, 9)
	}
	for i, p := range shares(4, 4, 0, 4, 2, 4, -1, -1) {
		got := room[i]
		if got.First != p.First || got.Count != p.Count || got.Label != (api.Label{Level: 1, Cats: i}) || !slices.Equal(got.Frames, []int{i, i + 1}) {
			t.Errorf("R4: share %d is %v now", i, got)
		}
	}
}

func TestNothingIsKept(t *testing.T) {
	parts := shares(4, 4, 0, 4)
	holdTo(t, "ahead of the change", parts, 0, 3, 1, 7, api.OK)
	parts[0].Count = 3
	holdTo(t, "a lesser share", parts, 0, 3, 1, 0, api.ErrExtentRange)
	parts[1].Count = 5
	holdTo(t, "one in common", parts, 0, 0, 1, 0, api.ErrExtentForm)
	parts[0].First, parts[1].Count = 9, 4
	holdTo(t, "elsewhere", parts, 0, 2, 1, 11, api.OK)
}

func TestFromSeveralGoroutines(t *testing.T) {
	parts := shares(32, 32, 0, 16, 20, 1, 31, 0)
	var group sync.WaitGroup
	for i := range 8 {
		group.Go(func() {
			for range 2000 {
				p := i % len(parts)
				got, e := extent.To(parts, p, parts[p].Count, 0)
				if got != parts[p].First+parts[p].Count || e != api.OK || !extent.May(parts, 64) || extent.May(parts, 63) {
					t.Errorf("R5: To(%v, %d) = %d, %d", parts, p, got, e)
				}
			}
		})
	}
	group.Wait()
}
