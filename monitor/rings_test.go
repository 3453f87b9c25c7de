package monitor_test

import (
	"strings"
	"testing"

	"caisson/api"
)

// ring writes a ring for a partition and runs it.
func (x *pair) ring(part, at int, want api.Answer, ds ...api.Desc) {
	x.t.Helper()
	x.code(api.Step{Kind: api.StepWrite, Part: part, A: at, Data: ringOf(ds...)}, api.OK)
	x.want(api.Step{Kind: api.StepRing, Part: part, A: at}, want)
}

// refused is a ring that does nothing.
func (x *pair) refused(part, at int, e api.Errno, ds ...api.Desc) {
	x.t.Helper()
	x.ring(part, at, api.Answer{Code: int(e)}, ds...)
}

// left holds what a partition has left.
func (x *pair) left(part, want int) {
	x.t.Helper()
	if v, _ := x.m.View(part); v.Left != want {
		x.t.Fatalf("P22.1: %d has %d left, want %d", part, v.Left, want)
	}
}

// put writes to memory.
func (x *pair) put(part, at int, data string) {
	x.t.Helper()
	x.code(api.Step{Kind: api.StepWrite, Part: part, A: at, Data: data}, api.OK)
}

// bytes holds what is in memory.
func (x *pair) bytes(part, at int, want string) {
	x.t.Helper()
	x.want(api.Step{Kind: api.StepRead, Part: part, A: at, B: len(want)}, api.Answer{Data: want})
}

const text = "0123456789abcdefghijklmnopqrstuvwxyzABCDEFGHIJKLMNOPQRSTUVWXYZ.,"

func TestRingInItsRow(t *testing.T) {
	x := start(t, sample())
	x.put(0, 448, text)
	// Sectors 1 and 2 are the text's first ones, then 0 is what memory had at first, then what is read back is written once more.
	x.ring(0, 0, api.Answer{Num: 4},
		api.Desc{Op: api.BlkWrite, Next: 1, Lba: 1, Buf: 448, Len: 2},
		api.Desc{Op: api.BlkWrite, Next: 2, Lba: 0, Buf: 128, Len: 1},
		api.Desc{Op: api.BlkRead, Next: 3, Lba: 1, Buf: 144, Len: 2},
		api.Desc{Op: api.BlkWrite, Next: 255, Lba: 4, Buf: 128, Len: 2})
	x.left(0, 2)
	x.bytes(0, 128, strings.Repeat("\x00", 16)+text[:32]+strings.Repeat("\x00", 16))
	x.ticks(12)
	x.ring(0, 0, api.Answer{Num: 3},
		api.Desc{Op: api.BlkDiscard, Next: 1, Lba: 2, Len: 1},
		api.Desc{Op: api.BlkRead, Next: 2, Lba: 1, Buf: 448, Len: 2},
		api.Desc{Op: api.BlkRead, Next: 255, Lba: 4, Buf: 480, Len: 2})
	x.bytes(0, 448, text[:16]+strings.Repeat("\x00", 32)+text[:16])
	x.rest()
}

func TestEachOfTheOps(t *testing.T) {
	x := start(t, sample())
	x.put(2, 320, text)
	one := func(d api.Desc) {
		t.Helper()
		d.Next = 255
		x.ticks(12)
		x.left(2, 9)
		x.ring(2, 320, api.Answer{Num: 1}, d)
		x.left(2, 9-d.Len)
	}
	for lba := range 8 {
		one(api.Desc{Op: api.BlkWrite, Lba: lba, Buf: 320 + 48, Len: 1})
		one(api.Desc{Op: api.BlkRead, Lba: lba, Buf: 320 + 32, Len: 1})
		one(api.Desc{Op: api.BlkFlush, Lba: 65535, Buf: 65535, Len: 4})
		one(api.Desc{Op: api.BlkDiscard, Lba: lba, Buf: 65535, Len: 1})
		one(api.Desc{Op: api.BlkRead, Lba: lba, Buf: 320 + 16, Len: 1})
	}
	for n := 1; n <= 4; n++ {
		one(api.Desc{Op: api.BlkRead, Lba: 8 - n, Buf: 320, Len: n})
		one(api.Desc{Op: api.BlkWrite, Lba: 8 - n, Buf: 384 - 16*n, Len: n})
		one(api.Desc{Op: api.BlkDiscard, Lba: 8 - n, Len: n})
	}
	x.rest()
}

func TestAChainOfEight(t *testing.T) {
	x := start(t, sample())
	var ds []api.Desc
	for i := range 8 {
		ds = append(ds, api.Desc{Op: api.BlkDiscard, Next: (i + 3) % 8, Lba: i % 6, Len: 1})
	}
	// From 0 on by threes all eight come; 5 is the last one.
	ds[5].Next = 255
	x.ring(0, 0, api.Answer{Num: 8}, ds...)
	x.left(0, 1)
	ds[5].Next = 0
	x.refused(0, 0, api.ErrRingCycle, ds...)
	x.left(0, 1)
	ds[5].Next = 255
	x.refused(0, 0, api.ErrBlkQuota, ds...)
	x.left(0, 1)
}

func TestARingWritesOverItself(t *testing.T) {
	x := start(t, sample())
	x.put(0, 448, text)
	x.ring(0, 0, api.Answer{Num: 3},
		api.Desc{Op: api.BlkRead, Next: 1, Lba: 0, Buf: 0, Len: 4},
		api.Desc{Op: api.BlkWrite, Next: 2, Lba: 0, Buf: 448, Len: 1},
		api.Desc{Op: api.BlkRead, Next: 255, Lba: 0, Buf: 32, Len: 2})
	x.bytes(0, 0, strings.Repeat("\x00", 32)+text[:16]+strings.Repeat("\x00", 16))
	x.left(0, 2)
	x.rest()
}

func TestARefusedRingDoesNothing(t *testing.T) {
	x := start(t, sample())
	x.put(0, 448, text)
	fine := api.Desc{Op: api.BlkWrite, Next: 1, Lba: 0, Buf: 448, Len: 1}
	for _, row := range []struct {
		e api.Errno
		d api.Desc
	}{
		{api.ErrRingForm, api.Desc{Op: 4, Next: 255, Len: 1}},
		{api.ErrRingForm, api.Desc{Op: api.BlkFlush, Next: 8, Len: 1}},
		{api.ErrRingForm, api.Desc{Op: api.BlkFlush, Next: 254, Len: 1}},
		{api.ErrRingForm, api.Desc{Op: api.BlkFlush, Next: 255, Len: 0}},
		{api.ErrRingForm, api.Desc{Op: api.BlkFlush, Next: 255, Len: 5}},
		{api.ErrRingForm, api.Desc{Op: api.BlkDiscard, Next: 255, Len: 5}},
		{api.ErrRingForm, api.Desc{Op: api.BlkDiscard, Next: 255, Len: 0}},
		{api.ErrRingCycle, api.Desc{Op: api.BlkFlush, Next: 0, Len: 1}},
		{api.ErrRingCycle, api.Desc{Op: api.BlkFlush, Next: 1, Len: 1}},
		{api.ErrRingBuffer, api.Desc{Op: api.BlkRead, Next: 255, Buf: 447, Len: 1}},
		{api.ErrRingBuffer, api.Desc{Op: api.BlkRead, Next: 255, Buf: 497, Len: 1}},
		{api.ErrRingBuffer, api.Desc{Op: api.BlkRead, Next: 255, Buf: 320, Len: 1}},
		{api.ErrRingBuffer, api.Desc{Op: api.BlkWrite, Next: 255, Buf: 384, Len: 1}},
		{api.ErrRingBuffer, api.Desc{Op: api.BlkWrite, Next: 255, Buf: 4095, Len: 1}},
		{api.ErrRingBuffer, api.Desc{Op: api.BlkWrite, Next: 255, Buf: 65535, Len: 1}},
		{api.ErrExtentRange, api.Desc{Op: api.BlkRead, Next: 255, Lba: 6, Buf: 448, Len: 1}},
		{api.ErrExtentRange, api.Desc{Op: api.BlkWrite, Next: 255, Lba: 5, Buf: 448, Len: 2}},
		{api.ErrExtentRange, api.Desc{Op: api.BlkDiscard, Next: 255, Lba: 3, Buf: 448, Len: 4}},
		{api.ErrExtentRange, api.Desc{Op: api.BlkDiscard, Next: 255, Lba: 65535, Buf: 448, Len: 1}},
	} {
		x.refused(0, 0, row.e, fine, row.d)
		x.left(0, 9)
	}
	x.ring(0, 0, api.Answer{Num: 1}, api.Desc{Op: api.BlkRead, Next: 255, Lba: 0, Buf: 128, Len: 1})
	x.bytes(0, 128, strings.Repeat("\x00", 16))
	x.rest()
}

func TestErrorsOfARingInTheirRow(t *testing.T) {
	x := start(t, sample())
	far := api.Desc{Op: api.BlkRead, Lba: 9, Buf: 448, Len: 4}
	next := func(d api.Desc, n int) api.Desc {
		d.Next = n
		return d
	}
	buffer := api.Desc{Op: api.BlkRead, Buf: 320, Len: 4}
	long := api.Desc{Op: api.BlkRead, Buf: 320, Len: 5}
	fine := api.Desc{Op: api.BlkDiscard, Len: 4}
	// Check asks them all, To asks them all behind it, Spend comes last.
	x.refused(0, 0, api.ErrRingBuffer, next(far, 1), next(fine, 2), next(fine, 3), next(buffer, 255))
	x.refused(0, 0, api.ErrRingBuffer, next(buffer, 1), next(long, 255))
	x.refused(0, 0, api.ErrRingForm, next(far, 1), next(long, 2), next(buffer, 255))
	x.refused(0, 0, api.ErrExtentRange, next(fine, 1), next(fine, 2), next(far, 255))
	x.refused(0, 0, api.ErrBlkQuota, next(fine, 1), next(fine, 2), next(fine, 255))
	x.refused(0, 0, api.ErrRingCycle, next(buffer, 1), next(long, 0))
	x.code(api.Step{Kind: api.StepRing, A: 0, B: 8}, api.ErrRingIndex)
	x.code(api.Step{Kind: api.StepRing, A: 0, B: -1}, api.ErrRingIndex)
	x.code(api.Step{Kind: api.StepRing, A: 1, B: -1}, api.ErrMonitorFrame)
	x.left(0, 9)
}

func TestWhatIsLeft(t *testing.T) {
	x := start(t, sample())
	spend := func(e api.Errno, lens ...int) {
		t.Helper()
		var ds []api.Desc
		for i, n := range lens {
			ds = append(ds, api.Desc{Op: api.BlkFlush, Next: i + 1, Len: n})
		}
		ds[len(ds)-1].Next = 255
		a := api.Answer{Num: len(ds)}
		if e != api.OK {
			a = api.Answer{Code: int(e)}
		}
		x.ring(0, 0, a, ds...)
	}
	spend(api.ErrBlkQuota, 4, 4, 2)
	spend(api.OK, 4, 4, 1)
	x.left(0, 0)
	spend(api.ErrBlkQuota, 1)
	// Its windows open at 0 and at 4; what others spend is their own.
	x.ticks(3)
	x.left(0, 0)
	x.left(1, 9)
	x.ticks(1)
	x.left(0, 9)
	spend(api.OK, 1)
	x.left(0, 8)
	x.ticks(7)
	x.left(0, 8)
	x.ticks(1)
	x.left(0, 9)
	c := sample()
	c.Quota = 0
	x = start(t, c)
	x.left(0, 0)
	spend(api.ErrBlkQuota, 1)
	x.ticks(12)
	spend(api.ErrBlkQuota, 1)
}

func TestRingsInGrantedFrames(t *testing.T) {
	x := start(t, sample())
	x.put(0, 448, text)
	// Part 1 may read frame 7, and write 2; its own ones are 3 and 4.
	x.refused(1, 256, api.ErrRingBuffer, api.Desc{Op: api.BlkRead, Next: 255, Buf: 448, Len: 1})
	x.refused(1, 256, api.ErrRingBuffer, api.Desc{Op: api.BlkWrite, Next: 255, Buf: 0, Len: 1})
	x.ring(1, 256, api.Answer{Num: 2}, api.Desc{Op: api.BlkWrite, Next: 1, Buf: 448, Len: 4}, api.Desc{Op: api.BlkRead, Next: 255, Buf: 160, Len: 4})
	x.bytes(1, 160, text)
	v, _ := x.m.View(0)
	if v.Memory[96:128] != text[:32] {
		t.Errorf("P22.1: %q", v.Memory)
	}
	// A ring in a frame that may only be read, and one that lies in two frames.
	x.ticks(12)
	x.put(0, 448, ringOf(api.Desc{Op: api.BlkFlush, Next: 255, Len: 1}))
	x.want(api.Step{Kind: api.StepRing, Part: 1, A: 448}, api.Answer{Num: 1})
	x.code(api.Step{Kind: api.StepRing, Part: 2, A: 448}, api.ErrMonitorFrame)
	x.ring(1, 152, api.Answer{Num: 1}, api.Desc{Op: api.BlkFlush, Next: 255, Len: 1})
	x.code(api.Step{Kind: api.StepRing, Part: 0, A: 152}, api.ErrMonitorFrame)
	for _, a := range append([]int{1216, 1217, 1279, 1280, 1281}, far...) {
		x.code(api.Step{Kind: api.StepRing, Part: 1, A: a}, api.ErrMonitorFrame)
	}
	x.rest()
}

func TestEachHasItsOwnSectors(t *testing.T) {
	x := start(t, sample())
	for part, at := range []int{0, 256, 320} {
		for i := range x.p.c.Parts[part].Count {
			x.put(part, at+48, strings.Repeat(string(rune('a'+8*part+i)), 16))
			x.ring2(part, at, api.Desc{Op: api.BlkWrite, Next: 255, Lba: i, Buf: at + 48, Len: 1})
		}
		x.refused(part, at, api.ErrExtentRange, api.Desc{Op: api.BlkDiscard, Next: 255, Lba: x.p.c.Parts[part].Count, Len: 1})
	}
	for part, at := range []int{0, 256, 320} {
		for i := range x.p.c.Parts[part].Count {
			x.ring2(part, at, api.Desc{Op: api.BlkRead, Next: 255, Lba: i, Buf: at + 32, Len: 1})
			x.bytes(part, at+32, strings.Repeat(string(rune('a'+8*part+i)), 16))
		}
	}
}

// ring2 runs a ring of one descriptor, whose bytes alone are written, when there is quota again.
func (x *pair) ring2(part, at int, d api.Desc) {
	x.t.Helper()
	x.ticks(12)
	x.put(part, at, string(bytesOf(d)))
	x.want(api.Step{Kind: api.StepRing, Part: part, A: at}, api.Answer{Num: 1})
}
