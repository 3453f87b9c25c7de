package desc_test

import (
	"math"
	"strings"
	"sync"
	"testing"

	"caisson/api"
	"caisson/desc"
)

// ops and nexts are all that a descriptor may have, by the words of chapter 16.
var (
	ops   = []int{0, 1, 2, 3}
	nexts = []int{0, 1, 2, 3, 4, 5, 6, 7, 255}
)

// far are numbers that no field may have, those among them whose lowest bits are a number that one may have.
var far = []int{
	math.MinInt, math.MinInt + 1, math.MinInt + 255, math.MinInt / 2, -1 << 32, math.MinInt32, -65536, -65535, -256, -255, -8, -2, -1,
	65536, 65537, 65536 + 255, 1 << 17, 1 << 24, math.MaxInt32, math.MaxUint32, 1 << 32, 1<<32 + 1, 1<<32 + 255, math.MaxInt / 2, math.MaxInt - 1, math.MaxInt,
}

// row is a row of numbers.
type row uint64

// next is a number from 0 below n.
func (r *row) next(n int) int {
	*r = *r*6364136223846793005 + 1442695040888963407
	return int(uint64(*r) >> 33 % uint64(n))
}

// desc is a descriptor that may be.
func (r *row) desc() api.Desc {
	return api.Desc{Op: ops[r.next(len(ops))], Next: nexts[r.next(len(nexts))], Lba: r.next(65536), Buf: r.next(65536), Len: r.next(256)}
}

// written is a descriptor's bytes, by the words of P16.1.
func written(d api.Desc) string {
	return string([]byte{byte(d.Op), byte(d.Next), byte(d.Lba % 256), byte(d.Lba / 256), byte(d.Buf % 256), byte(d.Buf / 256), byte(d.Len), 0})
}

// thereAndBack holds a descriptor that may be against its bytes.
func thereAndBack(t *testing.T, d api.Desc, want string) {
	t.Helper()
	if !desc.May(d) {
		t.Errorf("P16.1: May(%v) = false", d)
	}
	if got, e := desc.Put(d); got != want || e != api.OK {
		t.Errorf("P16.1: Put(%v) = %x, %d, want %x", d, got, e, want)
	}
	if got, e := desc.Get(want); got != d || e != api.OK {
		t.Errorf("P16.1: Get(%x) = %v, %d, want %v", want, got, e, d)
	}
}

// refuse holds a descriptor to be one that may not be.
func refuse(t *testing.T, d api.Desc) {
	t.Helper()
	if desc.May(d) {
		t.Errorf("P16.1: May(%v) = true", d)
	}
	if got, e := desc.Put(d); got != "" || e != api.ErrDescForm {
		t.Errorf("P16.1: Put(%v) = %x, %d", d, got, e)
	}
}

// refuseBytes holds some bytes to be no descriptor's.
func refuseBytes(t *testing.T, name string, s string) {
	t.Helper()
	if got, e := desc.Get(s); got != (api.Desc{}) || e != api.ErrDescForm {
		t.Errorf("P16.1: %s: Get(%x) = %v, %d", name, s, got, e)
	}
}

func TestBytesOfDescriptors(t *testing.T) {
	for _, c := range []struct {
		d    api.Desc
		want string
	}{
		{api.Desc{}, "\x00\x00\x00\x00\x00\x00\x00\x00"},
		{api.Desc{Op: api.BlkRead, Next: api.RingEnd, Len: 1}, "\x00\xff\x00\x00\x00\x00\x01\x00"},
		{api.Desc{Op: api.BlkWrite, Next: 2, Lba: 3, Buf: 4, Len: 5}, "\x01\x02\x03\x00\x04\x00\x05\x00"},
		{api.Desc{Op: api.BlkFlush, Next: 7, Lba: 0x1234, Buf: 0xabcd, Len: 128}, "\x02\x07\x34\x12\xcd\xab\x80\x00"},
		{api.Desc{Op: api.BlkDiscard, Lba: 255, Buf: 256}, "\x03\x00\xff\x00\x00\x01\x00\x00"},
		{api.Desc{Op: api.BlkDiscard, Next: api.RingEnd, Lba: api.MaxValue, Buf: api.MaxValue, Len: 255}, "\x03\xff\xff\xff\xff\xff\xff\x00"},
	} {
		thereAndBack(t, c.d, c.want)
	}
}

func TestAllOfEachField(t *testing.T) {
	for _, op := range ops {
		for _, next := range nexts {
			for n := range 256 {
				d := api.Desc{Op: op, Next: next, Lba: 0x0102, Buf: 0x0304, Len: n}
				thereAndBack(t, d, written(d))
			}
		}
	}
	for n := range 65536 {
		lba := api.Desc{Op: api.BlkWrite, Next: 1, Lba: n, Buf: 0x0203, Len: 4}
		thereAndBack(t, lba, written(lba))
		buf := api.Desc{Op: api.BlkDiscard, Next: api.RingEnd, Lba: 0x0506, Buf: n, Len: 7}
		thereAndBack(t, buf, written(buf))
	}
}

func TestManyDescriptors(t *testing.T) {
	r := row(16)
	for range 20000 {
		d := r.desc()
		thereAndBack(t, d, written(d))
	}
}

func TestNumbersThatNoFieldMayHave(t *testing.T) {
	r := row(17)
	for _, n := range far {
		for range 50 {
			d := r.desc()
			for _, wrong := range []api.Desc{
				{Op: n, Next: d.Next, Lba: d.Lba, Buf: d.Buf, Len: d.Len},
				{Op: d.Op, Next: n, Lba: d.Lba, Buf: d.Buf, Len: d.Len},
				{Op: d.Op, Next: d.Next, Lba: n, Buf: d.Buf, Len: d.Len},
				{Op: d.Op, Next: d.Next, Lba: d.Lba, Buf: n, Len: d.Len},
				{Op: d.Op, Next: d.Next, Lba: d.Lba, Buf: d.Buf, Len: n},
			} {
				refuse(t, wrong)
			}
		}
		refuse(t, api.Desc{Op: n, Next: n, Lba: n, Buf: n, Len: n})
	}
}

func TestEdgesOfOpNextAndLen(t *testing.T) {
	for n := range 1 << 12 {
		if n >= 4 {
			refuse(t, api.Desc{Op: n})
		}
		if n >= 8 && n != 255 {
			refuse(t, api.Desc{Next: n})
		}
		if n >= 256 {
			refuse(t, api.Desc{Len: n})
		}
	}
}

func TestOneByteOther(t *testing.T) {
	r := row(18)
	for range 300 {
		d := r.desc()
		for at := range api.DescSize {
			b := []byte(written(d))
			for n := range 256 {
				b[at] = byte(n)
				s := string(b)
				fine := (b[0] <= 3) && (b[1] <= 7 || b[1] == 255) && b[7] == 0
				if !fine {
					refuseBytes(t, "another byte", s)
					continue
				}
				want := api.Desc{Op: int(b[0]), Next: int(b[1]), Lba: int(b[2]) + 256*int(b[3]), Buf: int(b[4]) + 256*int(b[5]), Len: int(b[6])}
				thereAndBack(t, want, s)
			}
		}
	}
}

func TestBytesOfNoDescriptor(t *testing.T) {
	good := written(api.Desc{Op: api.BlkWrite, Next: 2, Lba: 3, Buf: 4, Len: 5})
	for _, c := range []struct {
		name string
		s    string
	}{
		{"none", ""},
		{"one too few", good[:api.DescSize-1]},
		{"without the first", good[1:]},
		{"one too many, 0", good + "\x00"},
		{"one too many", good + "a"},
		{"a 0 ahead", "\x00" + good},
		{"two descriptors", good + good},
		{"a ring of them", strings.Repeat(good, api.RingSize)},
		{"many", strings.Repeat("\x00", 1<<20)},
		{"an Op behind the last", "\x04\x00\x00\x00\x00\x00\x00\x00"},
		{"the greatest Op", "\xff\x00\x00\x00\x00\x00\x00\x00"},
		{"a Next behind the ring", "\x00\x08\x00\x00\x00\x00\x00\x00"},
		{"a Next ahead of RingEnd", "\x00\xfe\x00\x00\x00\x00\x00\x00"},
		{"a last byte", "\x00\x00\x00\x00\x00\x00\x00\x01"},
		{"a last byte of the highest bit", "\x00\x00\x00\x00\x00\x00\x00\x80"},
		{"eight of the greatest", strings.Repeat("\xff", api.DescSize)},
		{"eight runes of more bytes", strings.Repeat("é", api.DescSize)},
	} {
		refuseBytes(t, c.name, c.s)
	}
	for n := range 8 * api.DescSize {
		if n != api.DescSize {
			refuseBytes(t, "a length", strings.Repeat("\x00", n))
		}
	}
}

func TestFromSeveralGoroutines(t *testing.T) {
	var group sync.WaitGroup
	for i := range 8 {
		group.Go(func() {
			r := row(i)
			for range 2000 {
				d := r.desc()
				thereAndBack(t, d, written(d))
			}
		})
	}
	group.Wait()
}
