package tlb_test

import (
	"math"
	"sync"
	"testing"

	"caisson/api"
	"caisson/tlb"
)

// far are numbers that are no device, no page, no size, and nothing of an entry.
var far = []int{
	math.MinInt, math.MinInt + 1, math.MinInt / 2, -1 << 32, -api.Pages, -api.MaxDevices, -1,
	1 << 16, 1 << 32, 1<<32 + 1, 1 << 58, 1<<58 + 1, math.MaxInt / 2, math.MaxInt - 1, math.MaxInt,
}

// key is a device's page.
type key struct {
	device int
	page   int
}

// plain is what a Tlb is to keep: the entries, and the keys by when they came.
type plain struct {
	size    int
	came    int
	when    map[key]int
	entries map[key]api.Entry
}

func newPlain(size int) *plain {
	return &plain{size: size, when: map[key]int{}, entries: map[key]api.Entry{}}
}

func (p *plain) put(k key, e api.Entry) {
	if _, is := p.when[k]; !is {
		p.came++
		p.when[k] = p.came
	}
	p.entries[k] = e
	if len(p.when) > p.size {
		p.drop(p.oldest())
	}
}

func (p *plain) oldest() key {
	var first key
	for k, n := range p.when {
		if w := p.when[first]; w == 0 || n < w {
			first = k
		}
	}
	return first
}

func (p *plain) drop(k key) bool {
	_, is := p.when[k]
	delete(p.when, k)
	delete(p.entries, k)
	return is
}

func (p *plain) dropAll(device int) int {
	n := 0
	for k := range p.when {
		if k.device == device {
			n++
			p.drop(k)
		}
	}
	return n
}

// made is an empty one of a size.
func made(t *testing.T, size int) *tlb.Tlb {
	t.Helper()
	x, e := tlb.New(size)
	if x == nil || e != api.OK {
		t.Fatalf("P6.1: New(%d) = %v, %d", size, x, e)
	}
	return x
}

// put puts an entry, which must be allowed.
func put(t *testing.T, x *tlb.Tlb, k key, entry api.Entry) {
	t.Helper()
	if e := x.Put(k.device, k.page, entry); e != api.OK {
		t.Fatalf("P6.1: Put(%v, %v) = %d", k, entry, e)
	}
}

// hold holds what there is for a key against what there is to be; no entry is one of Perm 0.
func hold(t *testing.T, name string, x *tlb.Tlb, k key, want api.Entry) {
	t.Helper()
	if got, is := x.Get(k.device, k.page); got != want || is != (want.Perm != 0) {
		t.Fatalf("P6.1: %s: Get(%v) = %v, %v, want %v", name, k, got, is, want)
	}
}

// count holds how many there are.
func count(t *testing.T, name string, x *tlb.Tlb, want int) {
	t.Helper()
	if got := x.Len(); got != want {
		t.Fatalf("P6.1: %s: Len() = %d, want %d", name, got, want)
	}
}

// check holds one against the plain one, for some keys.
func check(t *testing.T, name string, x *tlb.Tlb, p *plain, keys []key) {
	t.Helper()
	count(t, name, x, len(p.when))
	for _, k := range keys {
		hold(t, name, x, k, p.entries[k])
	}
}

// allKeys are all pages of all devices.
func allKeys() []key {
	var all []key
	for device := range api.MaxDevices {
		for page := range api.Pages {
			all = append(all, key{device, page})
		}
	}
	return all
}

// entryOf is some entry by a number, others of others near it.
func entryOf(i int) api.Entry {
	return api.Entry{Frame: i % api.MaxFrames, Perm: 1 + i%3}
}

func TestNewIsEmpty(t *testing.T) {
	for i := range api.MaxTlb {
		check(t, "a new one", made(t, i+1), newPlain(i+1), allKeys())
	}
}

func TestNewRefuses(t *testing.T) {
	for _, size := range append([]int{0, api.MaxTlb + 1, 2 * api.MaxTlb, 1 << 8, 1<<8 + 1}, far...) {
		if x, e := tlb.New(size); x != nil || e != api.ErrTlbForm {
			t.Errorf("P6.1: New(%d) = %v, %d", size, x, e)
		}
	}
}

func TestPutOfAllKeys(t *testing.T) {
	for _, size := range []int{1, 2, api.MaxTlb} {
		for i, k := range allKeys() {
			x := made(t, size)
			put(t, x, k, entryOf(i))
			hold(t, "the key", x, k, entryOf(i))
			count(t, "the key", x, 1)
			for _, other := range []key{{k.page, k.device}, {k.device, k.page ^ 1}, {k.device ^ 1, k.page}, {k.device + 1, k.page - api.Pages}, {k.device - 1, k.page + api.Pages}} {
				if other != k {
					hold(t, "another key", x, other, api.Entry{})
				}
			}
		}
	}
}

func TestPutOfAllEntries(t *testing.T) {
	x := made(t, 2)
	for frame := range api.MaxFrames {
		for perm := api.PermRead; perm <= api.PermBoth; perm++ {
			put(t, x, key{1, 2}, api.Entry{Frame: frame, Perm: perm})
			hold(t, "an entry", x, key{1, 2}, api.Entry{Frame: frame, Perm: perm})
			count(t, "an entry", x, 1)
		}
	}
}

func TestTheOldestGoes(t *testing.T) {
	all := allKeys()
	for i := range api.MaxTlb {
		size := i + 1
		x := made(t, size)
		for n, k := range all[:3*size+2] {
			put(t, x, k, entryOf(n))
			count(t, "put one by one", x, min(n+1, size))
			for m, other := range all[:3*size+2] {
				want := entryOf(m)
				if m > n || m <= n-size {
					want = api.Entry{}
				}
				hold(t, "put one by one", x, other, want)
			}
		}
	}
}

func TestPutAgainKeepsItsPlace(t *testing.T) {
	x := made(t, 2)
	a, b, c, d := key{0, 0}, key{0, 1}, key{1, 0}, key{1, 1}
	put(t, x, a, entryOf(1))
	put(t, x, b, entryOf(2))
	put(t, x, a, entryOf(3))
	count(t, "put again", x, 2)
	hold(t, "put again", x, a, entryOf(3))
	hold(t, "beside it", x, b, entryOf(2))
	put(t, x, c, entryOf(4))
	hold(t, "put again, the oldest still", x, a, api.Entry{})
	hold(t, "the next", x, b, entryOf(2))
	hold(t, "the newest", x, c, entryOf(4))
	put(t, x, c, entryOf(4))
	count(t, "the same again", x, 2)
	put(t, x, d, entryOf(5))
	hold(t, "the oldest then", x, b, api.Entry{})
	hold(t, "the newer", x, c, entryOf(4))
}

func TestAskingKeepsTheRow(t *testing.T) {
	x := made(t, 2)
	a, b, c := key{0, 0}, key{0, 1}, key{1, 0}
	put(t, x, a, entryOf(1))
	put(t, x, b, entryOf(2))
	for range 5 {
		hold(t, "asked", x, a, entryOf(1))
		count(t, "asked", x, 2)
	}
	put(t, x, c, entryOf(3))
	hold(t, "asked, the oldest still", x, a, api.Entry{})
	hold(t, "never asked", x, b, entryOf(2))
}

func TestDrop(t *testing.T) {
	x, p := made(t, 4), newPlain(4)
	keys := []key{{0, 0}, {1, 0}, {0, 1}, {3, 255}, {2, 9}}
	for round := range 3 {
		for i, k := range keys[:4] {
			put(t, x, k, entryOf(i+round))
			p.put(k, entryOf(i+round))
		}
		for _, k := range []key{keys[1], keys[1], keys[4], keys[3], keys[0], keys[2], keys[2]} {
			if got, want := x.Drop(k.device, k.page), p.drop(k); got != want {
				t.Fatalf("P6.1: Drop(%v) = %v, want %v", k, got, want)
			}
			check(t, "dropped", x, p, keys)
		}
	}
}

func TestPutBehindADropIsTheNewest(t *testing.T) {
	x := made(t, 2)
	a, b, c := key{2, 7}, key{2, 8}, key{2, 9}
	put(t, x, a, entryOf(1))
	put(t, x, b, entryOf(2))
	if !x.Drop(a.device, a.page) {
		t.Fatalf("P6.1: Drop(%v) = false", a)
	}
	put(t, x, a, entryOf(3))
	count(t, "dropped, then put", x, 2)
	put(t, x, c, entryOf(4))
	hold(t, "the oldest", x, b, api.Entry{})
	hold(t, "dropped, then put", x, a, entryOf(3))
	hold(t, "the newest", x, c, entryOf(4))
}

func TestDropAll(t *testing.T) {
	x, p := made(t, api.MaxTlb), newPlain(api.MaxTlb)
	var keys []key
	for i := range api.MaxTlb {
		k := key{i * i % 3, i * 16}
		keys = append(keys, k)
		put(t, x, k, entryOf(i))
		p.put(k, entryOf(i))
	}
	for _, device := range []int{1, 1, 2, 3, 0, 0} {
		if got, want := x.DropAll(device), p.dropAll(device); got != want {
			t.Fatalf("P6.1: DropAll(%d) = %d, want %d", device, got, want)
		}
		check(t, "all of a device dropped", x, p, keys)
	}
	count(t, "all dropped", x, 0)
	put(t, x, keys[5], entryOf(1))
	hold(t, "all dropped, then put", x, keys[5], entryOf(1))
	count(t, "all dropped, then put", x, 1)
}

func TestDropAllKeepsTheRow(t *testing.T) {
	x := made(t, 3)
	a, b, c := key{0, 1}, key{1, 1}, key{0, 2}
	for i, k := range []key{a, b, c} {
		put(t, x, k, entryOf(i))
	}
	if n := x.DropAll(1); n != 1 {
		t.Fatalf("P6.1: DropAll(1) = %d", n)
	}
	put(t, x, b, entryOf(3))
	put(t, x, key{3, 3}, entryOf(4))
	hold(t, "the oldest that was left", x, a, api.Entry{})
	hold(t, "the other", x, c, entryOf(2))
	put(t, x, key{3, 4}, entryOf(5))
	hold(t, "the oldest then", x, c, api.Entry{})
	hold(t, "dropped, then put", x, b, entryOf(3))
}

func TestPutRefuses(t *testing.T) {
	good := entryOf(4)
	x, p := made(t, 2), newPlain(2)
	keys := []key{{0, 0}, {3, 255}}
	for i, k := range keys {
		put(t, x, k, entryOf(i))
		p.put(k, entryOf(i))
	}
	refuse := func(name string, k key, entry api.Entry) {
		t.Helper()
		if e := x.Put(k.device, k.page, entry); e != api.ErrTlbForm {
			t.Errorf("P6.1: %s: Put(%v, %v) = %d", name, k, entry, e)
		}
		check(t, name, x, p, keys)
		if k.device < 0 || k.device >= api.MaxDevices || k.page < 0 || k.page >= api.Pages {
			hold(t, name, x, k, api.Entry{})
		}
	}
	refuse("a device behind the last", key{api.MaxDevices, 0}, good)
	refuse("a page behind the last", key{0, api.Pages}, good)
	refuse("neither", key{api.MaxDevices, api.Pages}, good)
	refuse("no entry", key{0, 0}, api.Entry{})
	refuse("no entry, but a frame", key{0, 0}, api.Entry{Frame: 1})
	refuse("no entry, a key that is not there", key{1, 1}, api.Entry{})
	refuse("a frame behind the last", key{0, 0}, api.Entry{Frame: api.MaxFrames, Perm: api.PermRead})
	refuse("a Perm behind the last", key{0, 0}, api.Entry{Frame: 1, Perm: api.PermBoth + 1})
	for _, n := range far {
		refuse("a device", key{n, 0}, good)
		refuse("a page", key{0, n}, good)
		refuse("a frame", key{0, 0}, api.Entry{Frame: n, Perm: api.PermBoth})
		refuse("a Perm", key{0, 0}, api.Entry{Frame: 1, Perm: n})
		refuse("nothing that may be", key{n, n}, api.Entry{Frame: n, Perm: n})
	}
	put(t, x, key{2, 2}, good)
	hold(t, "the oldest, behind what was refused", x, keys[0], api.Entry{})
	hold(t, "the next, behind what was refused", x, keys[1], entryOf(1))
}

func TestKeysThatAreNone(t *testing.T) {
	x, p := made(t, api.MaxTlb), newPlain(api.MaxTlb)
	keys := []key{{0, 0}, {1, 0}, {3, 255}, {0, 255}}
	for i, k := range keys {
		put(t, x, k, entryOf(i))
		p.put(k, entryOf(i))
	}
	others := []key{{0, 256}, {1, -256}, {2, -256}, {-1, 256}, {4, -1}, {4, 255}, {-1, 511}, {256, 0}}
	for _, n := range far {
		others = append(others, key{n, 0}, key{0, n}, key{n, n}, key{n, 255}, key{3, n})
	}
	for _, k := range others {
		hold(t, "no key", x, k, api.Entry{})
		if x.Drop(k.device, k.page) {
			t.Errorf("P6.1: Drop(%v) = true", k)
		}
		if k.device < 0 || k.device >= api.MaxDevices {
			if n := x.DropAll(k.device); n != 0 {
				t.Errorf("P6.1: DropAll(%d) = %d", k.device, n)
			}
		}
		check(t, "no key", x, p, keys)
	}
}

// stepOn does one of ten things with two devices' two pages, and holds what is answered.
func stepOn(t *testing.T, x *tlb.Tlb, p *plain, what int, entry api.Entry) {
	t.Helper()
	k := key{what / 2 % 2, what % 2}
	switch {
	case what < 4:
		put(t, x, k, entry)
		p.put(k, entry)
	case what < 8:
		if got, want := x.Drop(k.device, k.page), p.drop(k); got != want {
			t.Fatalf("P6.1: Drop(%v) = %v, want %v", k, got, want)
		}
	default:
		if got, want := x.DropAll(what%2), p.dropAll(what%2); got != want {
			t.Fatalf("P6.1: DropAll(%d) = %d, want %d", what%2, got, want)
		}
	}
}

func TestAllShortRows(t *testing.T) {
	keys := []key{{0, 0}, {0, 1}, {1, 0}, {1, 1}}
	for i := range 3 {
		for row := range 10000 {
			x, p := made(t, i+1), newPlain(i+1)
			for n := range keys[:3] {
				put(t, x, keys[n], entryOf(n))
				p.put(keys[n], entryOf(n))
			}
			left := row
			for n := range 4 {
				stepOn(t, x, p, left%10, entryOf(3+n))
				check(t, "a short row", x, p, keys)
				left /= 10
			}
		}
	}
}

func TestLongRows(t *testing.T) {
	row := 1
	next := func(n int) int {
		row = (row*1103515245 + 12345) % (1 << 31)
		return row >> 12 % n
	}
	for i := range api.MaxTlb {
		x, p := made(t, i+1), newPlain(i+1)
		var keys []key
		for range 24 {
			keys = append(keys, key{next(api.MaxDevices), next(api.Pages)})
		}
		for range 600 {
			k := keys[next(len(keys))]
			switch next(12) {
			case 0:
				if got, want := x.DropAll(k.device), p.dropAll(k.device); got != want {
					t.Fatalf("P6.1: DropAll(%d) = %d, want %d", k.device, got, want)
				}
			case 1, 2:
				if got, want := x.Drop(k.device, k.page), p.drop(k); got != want {
					t.Fatalf("P6.1: Drop(%v) = %v, want %v", k, got, want)
				}
			default:
				entry := entryOf(next(192))
				put(t, x, k, entry)
				p.put(k, entry)
			}
			check(t, "a long row", x, p, keys)
		}
	}
}

func TestTlbsShareNothing(t *testing.T) {
	a, b := made(t, 2), made(t, 2)
	put(t, a, key{0, 0}, entryOf(1))
	put(t, b, key{0, 1}, entryOf(2))
	put(t, b, key{0, 0}, entryOf(3))
	hold(t, "one", a, key{0, 0}, entryOf(1))
	hold(t, "one", a, key{0, 1}, api.Entry{})
	if n := b.DropAll(0); n != 2 {
		t.Errorf("P6.1: DropAll(0) = %d", n)
	}
	hold(t, "one, the other emptied", a, key{0, 0}, entryOf(1))
	count(t, "one, the other emptied", a, 1)
	count(t, "the other", b, 0)
}

func TestNilTlb(t *testing.T) {
	var none *tlb.Tlb
	for _, n := range append([]int{0, 1, api.MaxDevices, api.Pages}, far...) {
		if got, is := none.Get(n, n); got != (api.Entry{}) || is {
			t.Errorf("R3: Get(%d, %d) = %v, %v", n, n, got, is)
		}
		for _, entry := range []api.Entry{{}, entryOf(1), {Frame: n, Perm: n}} {
			if e := none.Put(n, n, entry); e != api.ErrNil {
				t.Errorf("R3: Put(%d, %d, %v) = %d", n, n, entry, e)
			}
		}
		if none.Drop(n, n) || none.DropAll(n) != 0 || none.Len() != 0 {
			t.Errorf("R3: Drop(%d, %d), DropAll, Len", n, n)
		}
	}
}

func TestATlbThatIsNotNews(t *testing.T) {
	var zero tlb.Tlb
	for range 3 * api.MaxTlb {
		// One more than none is there, so the first is gone.
		put(t, &zero, key{1, 1}, entryOf(1))
		hold(t, "a size of 0", &zero, key{1, 1}, api.Entry{})
		count(t, "a size of 0", &zero, 0)
	}
	if zero.Drop(1, 1) || zero.DropAll(1) != 0 {
		t.Errorf("R1: a size of 0: Drop, DropAll")
	}
}

func TestFromSeveralGoroutines(t *testing.T) {
	var group sync.WaitGroup
	for i := range 8 {
		group.Go(func() {
			for n := range 500 {
				x, e := tlb.New(i + 1)
				if e != api.OK || x.Put(1, n%api.Pages, entryOf(i)) != api.OK {
					t.Errorf("R5: %d: %d", i, e)
					return
				}
				if got, is := x.Get(1, n%api.Pages); got != entryOf(i) || !is || x.Len() != 1 {
					t.Errorf("R5: %d: %v, %v", i, got, is)
				}
			}
		})
	}
	group.Wait()
}
