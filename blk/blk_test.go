package blk_test

import (
	"math"
	"slices"
	"strings"
	"sync"
	"testing"

	"caisson/api"
	"caisson/blk"
)

const (
	// size is how many bytes a sector has.
	size = api.SectorSize
	// least is the lowest number there is, and most the greatest.
	least, most = math.MinInt, math.MaxInt
)

// far are numbers that are no partition, no sector of a share, no count of some, and no quota.
var far = []int{
	least, least + 1, least + 64, least / 2, -1 << 32, math.MinInt32, -1024, -65, -64, -16, -4, -3, -2, -1,
	65, 66, 128, 255, 256, 1024, math.MaxInt32, math.MaxUint32, 1 << 32, 1<<32 + 1, 1<<32 + 3, 1 << 58, 1 << 59, 1 << 60, most/2 + 1, most - 15, most - 1, most,
}

// row is a row of numbers.
type row uint64

// next is a number from 0 below n.
func (r *row) next(n int) int {
	*r = *r*6364136223846793005 + 1442695040888963407
	return int(uint64(*r) >> 33 % uint64(n))
}

// text is so many bytes, which hang on what goes ahead in the row.
func (r *row) text(n int) string {
	b := make([]byte, n)
	for i := range b {
		b[i] = byte(r.next(256))
	}
	return string(b)
}

// shares are several partitions' shares, first and count one after the other.
func shares(numbers ...int) []api.Part {
	var parts []api.Part
	for i := 0; i < len(numbers); i += 2 {
		parts = append(parts, api.Part{First: numbers[i], Count: numbers[i+1]})
	}
	return parts
}

// pair is a Disk, and what it is held against: bytes of each share by itself, and what each partition has left.
type pair struct {
	t     *testing.T
	disk  *blk.Disk
	quota int
	bytes [][]byte
	left  []int
}

// made is a pair of such a disk, which has nothing but zeros and all of quota left.
func made(t *testing.T, parts []api.Part, sectors int, quota int) *pair {
	t.Helper()
	disk, e := blk.New(parts, sectors, quota)
	if disk == nil || e != api.OK {
		t.Fatalf("P19.1: New(%v, %d, %d) = %v, %d", parts, sectors, quota, disk, e)
	}
	x := &pair{t: t, disk: disk, quota: quota}
	for _, p := range parts {
		x.bytes, x.left = append(x.bytes, make([]byte, p.Count*size)), append(x.left, quota)
	}
	x.check()
	return x
}

// filled is a pair no two of whose sectors are alike, and each of whose partitions has something else left.
func filled(t *testing.T, parts []api.Part, sectors int) *pair {
	t.Helper()
	x := made(t, parts, sectors, 40)
	r := row(sectors)
	for part, p := range parts {
		x.write(part, 0, r.text(p.Count*size))
		x.spend(part, 3+2*part)
	}
	return x
}

// has tells whether there is such a partition.
func (x *pair) has(part int) bool {
	return part >= 0 && part < len(x.left)
}

// sectors is how many sectors a partition's share has.
func (x *pair) sectors(part int) int {
	return len(x.bytes[part]) / size
}

// refusal is layer 18's error of n sectors of a partition's share from lba on, or OK.
func (x *pair) refusal(part, lba, n int) api.Errno {
	switch {
	case !x.has(part):
		return api.ErrExtentForm
	case lba < 0 || n < 0 || lba > x.sectors(part) || n > x.sectors(part)-lba:
		return api.ErrExtentRange
	}
	return api.OK
}

// check holds what all have, and what a partition that is not there has, against the plain rows.
func (x *pair) check() {
	x.t.Helper()
	for part := -1; part <= api.MaxParts; part++ {
		left, want, n, e := 0, "", 0, api.ErrExtentForm
		if x.has(part) {
			left, want, n, e = x.left[part], string(x.bytes[part]), x.sectors(part), api.OK
		}
		if got := x.disk.Left(part); got != left {
			x.t.Fatalf("P19.1: Left(%d) = %d, want %d", part, got, left)
		}
		if got, f := x.disk.Read(part, 0, n); got != want || f != e {
			x.t.Fatalf("P19.2: Read(%d, 0, %d) = %x, %d, want %x, %d", part, n, got, f, want, e)
		}
	}
}

// read reads from both.
func (x *pair) read(part, lba, n int) {
	x.t.Helper()
	want, e := "", x.refusal(part, lba, n)
	if e == api.OK {
		want = string(x.bytes[part][lba*size : (lba+n)*size])
	}
	if got, f := x.disk.Read(part, lba, n); got != want || f != e {
		x.t.Fatalf("P19.2: Read(%d, %d, %d) = %x, %d, want %x, %d", part, lba, n, got, f, want, e)
	}
}

// write writes to both.
func (x *pair) write(part, lba int, s string) {
	x.t.Helper()
	e := x.refusal(part, lba, len(s)/size)
	switch {
	case e == api.OK && len(s)%size != 0:
		e = api.ErrBlkForm
	case e == api.OK:
		copy(x.bytes[part][lba*size:], s)
	}
	if f := x.disk.Write(part, lba, s); f != e {
		x.t.Fatalf("P19.2: Write(%d, %d, %d bytes) = %d, want %d", part, lba, len(s), f, e)
	}
	x.check()
}

// open opens a partition's quota in both.
func (x *pair) open(part int) {
	x.t.Helper()
	e := api.ErrBlkForm
	if x.has(part) {
		x.left[part], e = x.quota, api.OK
	}
	if f := x.disk.Open(part); f != e {
		x.t.Fatalf("P19.1: Open(%d) = %d, want %d", part, f, e)
	}
	x.check()
}

// spend spends in both.
func (x *pair) spend(part, n int) {
	x.t.Helper()
	e := api.OK
	switch {
	case !x.has(part) || n < 0:
		e = api.ErrBlkForm
	case n > x.left[part]:
		e = api.ErrBlkQuota
	default:
		x.left[part] -= n
	}
	if f := x.disk.Spend(part, n); f != e {
		x.t.Fatalf("P19.1: Spend(%d, %d) = %d, want %d", part, n, f, e)
	}
	x.check()
}

func TestNewOfEach(t *testing.T) {
	for sectors := range api.MaxSectors + 1 {
		quarter := sectors / 4
		for _, parts := range [][]api.Part{
			shares(0, sectors), shares(sectors, 0), shares(sectors/2, sectors-sectors/2, 0, sectors/2),
			shares(0, quarter, quarter, quarter, 2*quarter, quarter, 3*quarter, quarter),
		} {
			made(t, parts, sectors, sectors%5)
		}
	}
	for quota := range api.MaxQuota + 1 {
		for count := range api.MaxParts {
			made(t, shares(0, 2, 2, 3, 6, 0, 5, 1)[:count+1], 6, quota)
		}
	}
}

// refused holds such a New to be refused.
func refused(t *testing.T, parts []api.Part, sectors int, quota int) {
	t.Helper()
	if disk, e := blk.New(parts, sectors, quota); disk != nil || e != api.ErrBlkForm {
		t.Errorf("P19.1: New(%v, %d, %d) = %v, %d", parts, sectors, quota, disk, e)
	}
}

func TestNewRefusesNumbers(t *testing.T) {
	for _, n := range far {
		refused(t, shares(0, 2), 4, n)
		refused(t, shares(0, 0), 0, n)
		refused(t, shares(0, 2), n, 4)
		refused(t, shares(0, 2), n, n)
		refused(t, shares(n, 2), 64, 4)
		refused(t, shares(0, n), 64, 4)
		refused(t, shares(n, n), 64, 4)
	}
}

func TestNewRefusesShares(t *testing.T) {
	for _, c := range []struct {
		parts   []api.Part
		sectors int
	}{
		{nil, 4},
		{[]api.Part{}, 4},
		{shares(0, 1, 1, 1, 2, 1, 3, 1, 4, 1), 64},
		{make([]api.Part, 100000), 64},
		{shares(0, 5), 4},
		{shares(2, 3), 4},
		{shares(4, 1), 4},
		{shares(5, 0), 4},
		{shares(0, 1), 0},
		{shares(0, 3, 2, 2), 4},
		{shares(2, 2, 0, 3), 4},
		{shares(1, 2, 1, 2), 4},
		{shares(0, 1, 1, 1, 2, 2, 3, 1), 4},
	} {
		refused(t, c.parts, c.sectors, 4)
		refused(t, c.parts, c.sectors, -1)
	}
}

func TestSpendOfEach(t *testing.T) {
	for quota := range api.MaxQuota + 1 {
		for n := -2; n <= quota+2; n++ {
			x := made(t, shares(0, 1, 1, 1), 2, quota)
			x.spend(1, n)
			// What it has then is spent to the last one, and no further.
			x.spend(1, quota-n+1)
			x.spend(1, x.left[1])
			x.spend(1, 0)
			x.spend(1, 1)
			x.open(1)
			x.spend(1, quota)
		}
	}
}

func TestSpendOneByOne(t *testing.T) {
	x := made(t, shares(0, 1, 1, 1, 2, 1, 3, 1), 4, api.MaxQuota)
	for range api.MaxQuota + 2 {
		for part := range api.MaxParts {
			x.spend(part, 1)
		}
	}
}

func TestEachHasAQuotaOfItsOwn(t *testing.T) {
	for count := range api.MaxParts {
		for part := range count + 1 {
			x := filled(t, shares(0, 1, 1, 1, 2, 1, 3, 1)[:count+1], 4)
			x.spend(part, x.left[part])
			x.open(part)
			x.open(part)
			x.spend(part, 39)
		}
	}
}

func TestSpendIsFormAheadOfQuota(t *testing.T) {
	x := made(t, shares(0, 1), 1, 5)
	for _, c := range []struct {
		part, n int
		want    api.Errno
	}{{0, 6, api.ErrBlkQuota}, {0, most, api.ErrBlkQuota}, {0, -1, api.ErrBlkForm}, {0, least, api.ErrBlkForm}, {1, 6, api.ErrBlkForm}, {-1, 6, api.ErrBlkForm}, {1, -1, api.ErrBlkForm}, {1, 0, api.ErrBlkForm}} {
		if e := x.disk.Spend(c.part, c.n); e != c.want {
			t.Errorf("P19.1: Spend(%d, %d) = %d, want %d", c.part, c.n, e, c.want)
		}
	}
	x.check()
}

func TestReadAllRuns(t *testing.T) {
	x := filled(t, shares(9, 7, 0, 4, 5, 0, 20, 1), 21)
	for part := range x.left {
		for lba := -2; lba < 23; lba++ {
			for n := -2; n < 23; n++ {
				x.read(part, lba, n)
			}
		}
	}
}

func TestWriteAllRuns(t *testing.T) {
	x := filled(t, shares(9, 7, 0, 4, 5, 0, 20, 1), 21)
	r := row(2)
	for part := range x.left {
		for lba := -2; lba < 12; lba++ {
			for n := range 12 {
				x.write(part, lba, r.text(n*size))
			}
		}
	}
}

func TestWriteOfEachLength(t *testing.T) {
	for part := range 3 {
		for lba := range 5 {
			x := filled(t, shares(4, 3, 0, 4, 7, 0), 7)
			for n := range 5*size + 2 {
				// None of these bytes stands there: each that is written, or should not be, shows.
				x.write(part, lba, strings.Repeat(string([]byte{byte(200 + n)}), n))
			}
		}
	}
}

func TestWriteTellsTheRestLast(t *testing.T) {
	x := filled(t, shares(3, 3), 6)
	for _, c := range []struct {
		part, lba, n int
		want         api.Errno
	}{
		{0, 0, 1, api.ErrBlkForm}, {0, 0, 15, api.ErrBlkForm}, {0, 0, 17, api.ErrBlkForm}, {0, 2, 31, api.ErrBlkForm},
		{0, 3, 1, api.ErrBlkForm}, {0, 3, 15, api.ErrBlkForm}, {0, 3, 0, api.OK}, {0, 3, 16, api.ErrExtentRange}, {0, 3, 17, api.ErrExtentRange},
		{0, 2, 32, api.ErrExtentRange}, {0, 2, 33, api.ErrExtentRange}, {0, 0, 63, api.ErrBlkForm}, {0, 0, 64, api.ErrExtentRange}, {0, 0, 65, api.ErrExtentRange},
		{0, 4, 0, api.ErrExtentRange}, {0, 4, 1, api.ErrExtentRange}, {0, -1, 0, api.ErrExtentRange}, {0, -1, 1, api.ErrExtentRange}, {0, -1, 17, api.ErrExtentRange},
		{1, 0, 0, api.ErrExtentForm}, {1, 0, 1, api.ErrExtentForm}, {-1, 9, 1, api.ErrExtentForm}, {1, -1, 999, api.ErrExtentForm},
	} {
		if e := x.disk.Write(c.part, c.lba, strings.Repeat("\x00", c.n)); e != c.want {
			t.Errorf("P19.2: Write(%d, %d, %d bytes) = %d, want %d", c.part, c.lba, c.n, e, c.want)
		}
	}
	x.check()
}

func TestRefusals(t *testing.T) {
	great := strings.Repeat("x", 1<<20+1)
	for _, count := range []int{1, 2, 4} {
		x := filled(t, shares(0, 16, 16, 16, 32, 0, 63, 1)[:count], 64)
		for _, n := range append([]int{count, 4, 5, 8}, far...) {
			x.open(n)
			for _, m := range append([]int{0, 1, 40}, far...) {
				x.spend(n, m)
				x.read(n, m, 1)
				x.read(n, 0, m)
				x.write(n, m, great[:size])
				x.write(n, m, great[:1])
			}
		}
		for part := range count {
			for _, n := range far {
				x.spend(part, n)
				x.write(part, n, "")
				x.write(part, n, great[:size])
				for _, m := range append([]int{0, 1, 16}, far...) {
					x.read(part, n, m)
					x.read(part, m, n)
				}
			}
			x.write(part, 0, great)
			x.write(part, 0, great[1:])
		}
	}
}

func TestTheWholeDisk(t *testing.T) {
	x := made(t, shares(0, api.MaxSectors), api.MaxSectors, api.MaxQuota)
	r := row(3)
	x.write(0, 0, r.text(api.MaxSectors*size))
	x.write(0, 63, r.text(size))
	x.write(0, 64, "")
	x.read(0, 64, 0)
	x.read(0, 64, 1)
	for lba := range api.MaxSectors {
		x.read(0, lba, 1)
		x.read(0, lba, api.MaxSectors-lba)
		x.read(0, lba, api.MaxSectors-lba+1)
	}
}

func TestADiskOfNoSectors(t *testing.T) {
	x := made(t, shares(0, 0, 0, 0), 0, 2)
	for part := range 3 {
		for lba := -1; lba < 3; lba++ {
			x.read(part, lba, 0)
			x.read(part, lba, 1)
			x.write(part, lba, "")
			x.write(part, lba, "rest")
			x.write(part, lba, "a whole sector..")
		}
		x.spend(part, 1)
	}
}

func TestAnyBytes(t *testing.T) {
	x := made(t, shares(1, 4), 5, 0)
	all := make([]byte, 256)
	for i := range all {
		all[i] = byte(i)
	}
	for at := 0; at < len(all); at += 4 * size {
		x.write(0, 0, string(all[at:at+4*size]))
	}
	x.write(0, 2, "\xff\xc3\x28\xed\xa0\x80é\r\n\x00\x7f\x80..")
	x.write(0, 1, strings.Repeat("\x00", size))
	x.write(0, 0, strings.Repeat("\xff", 4*size))
}

func TestSectorsAreNoQuota(t *testing.T) {
	// Reading and writing go on when nothing is left: only Spend is counted.
	x := made(t, shares(0, 4), 4, 0)
	x.write(0, 1, strings.Repeat("w", 3*size))
	x.read(0, 0, 4)
	x.spend(0, 0)
	x.spend(0, 1)
}

func TestLongScripts(t *testing.T) {
	r := row(19)
	for script := range 60 {
		parts := shares(20, 9, 4, 8, 30, 0, 0, 3)[:1+script%api.MaxParts]
		x := made(t, parts, 30, r.next(api.MaxQuota+1))
		for range 400 {
			part, lba, n := r.next(len(parts)+2)-1, r.next(13)-1, r.next(7)-1
			switch r.next(8) {
			case 0:
				x.open(part)
			case 1, 2:
				x.spend(part, r.next(30)-2)
			case 3, 4:
				x.read(part, lba, n)
			case 5:
				x.write(part, lba, r.text(r.next(5*size)))
			default:
				x.write(part, lba, r.text((n+1)*size))
			}
		}
	}
}

func TestPartsAreNotTouched(t *testing.T) {
	made4 := func() []api.Part {
		parts := shares(2, 3, 0, 2, 5, 1, 0, 9)
		for i := range parts {
			parts[i].Label, parts[i].Frames = api.Label{Level: i, Cats: 9}, []int{i, 7, -1}
		}
		return parts
	}
	room := made4()
	x := filled(t, room[:3], 6)
	x.open(1)
	for i, want := range made4() {
		got := room[i]
		if got.First != want.First || got.Count != want.Count || got.Label != want.Label || !slices.Equal(got.Frames, want.Frames) {
			t.Fatalf("R4: %v, want %v", got, want)
		}
	}
	// They aren't kept: what becomes of them behind the call is nothing to the disk.
	for i := range room {
		room[i] = api.Part{First: 60, Count: 4}
	}
	x.write(0, 1, strings.Repeat("0", 2*size))
	x.write(1, 0, strings.Repeat("1", 3*size))
	x.write(2, 0, strings.Repeat("2", size))
}

func TestWhatWasReadStays(t *testing.T) {
	x := filled(t, shares(1, 3), 4)
	was := string(x.bytes[0])
	got, e := x.disk.Read(0, 0, 3)
	x.write(0, 0, strings.Repeat("x", 3*size))
	if got != was || e != api.OK {
		t.Errorf("R4: %x, %d, want %x", got, e, was)
	}
}

func TestDisksShareNothing(t *testing.T) {
	a, b := made(t, shares(0, 2, 2, 2), 4, 9), filled(t, shares(0, 2, 2, 2), 4)
	a.check()
	a.write(1, 0, strings.Repeat("a", 2*size))
	a.spend(1, 4)
	b.check()
	b.open(1)
	b.write(0, 1, strings.Repeat("b", size))
	a.check()
}

func TestNilDisk(t *testing.T) {
	var none *blk.Disk
	for _, part := range append([]int{0, 3, 4}, far...) {
		for _, n := range append([]int{0, 1}, far...) {
			if s, e := none.Read(part, n, n); s != "" || e != api.ErrNil {
				t.Errorf("R3: Read(%d, %d, %d) = %x, %d", part, n, n, s, e)
			}
			for _, s := range []string{"", "rest", "a whole sector.."} {
				if e := none.Write(part, n, s); e != api.ErrNil {
					t.Errorf("R3: Write(%d, %d, %q) = %d", part, n, s, e)
				}
			}
			if e := none.Spend(part, n); e != api.ErrNil {
				t.Errorf("R3: Spend(%d, %d) = %d", part, n, e)
			}
		}
		if e, left := none.Open(part), none.Left(part); e != api.ErrNil || left != 0 {
			t.Errorf("R3: Open(%d) = %d, Left: %d", part, e, left)
		}
	}
}

func TestDiskThatIsNotNews(t *testing.T) {
	x := &pair{t: t, disk: &blk.Disk{}}
	for _, n := range append([]int{0, 1, 3, 4}, far...) {
		x.open(n)
		x.spend(n, 0)
		x.read(n, 0, 0)
		x.write(n, 0, "")
	}
}

func TestNewFromSeveralGoroutines(t *testing.T) {
	parts := shares(0, 4, 4, 4)
	var group sync.WaitGroup
	for k := range 8 {
		group.Go(func() {
			s := strings.Repeat(string([]byte{byte('a' + k)}), size)
			for range 200 {
				d, e := blk.New(parts, 8, k+1)
				if e != api.OK || d.Write(1, 3, s) != api.OK || d.Spend(1, k) != api.OK || d.Left(1) != 1 {
					t.Errorf("R5: New(%v, 8, %d): %d", parts, k+1, e)
					continue
				}
				if got, e := d.Read(1, 3, 1); got != s || e != api.OK {
					t.Errorf("R5: Read(1, 3, 1) = %x, %d", got, e)
				}
			}
		})
	}
	group.Wait()
}
