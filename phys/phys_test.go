package phys_test

import (
	"encoding/binary"
	"math"
	"strings"
	"sync"
	"testing"

	"caisson/api"
	"caisson/phys"
)

// far are numbers that are no place, no length, no frame and no count of any memory.
var far = []int{
	math.MinInt, math.MinInt + 4, math.MinInt / 2, -(1 << 32), -api.FrameSize, -4, -1,
	1 << 32, 1<<32 + 4, 1 << 58, 1<<58 + 1, math.MaxInt / 2, math.MaxInt - 3, math.MaxInt,
}

// made is a memory of so many frames.
func made(t *testing.T, frames int) *phys.Mem {
	t.Helper()
	m, e := phys.New(frames)
	if m == nil || e != api.OK {
		t.Fatalf("P3.1: New(%d) = %v, %d", frames, m, e)
	}
	return m
}

// filled is a memory no two of whose frames are alike, and its bytes.
func filled(t *testing.T, frames int) (*phys.Mem, []byte) {
	t.Helper()
	m := made(t, frames)
	want := make([]byte, frames*api.FrameSize)
	for i := range want {
		want[i] = byte(1 + i%251)
	}
	if e := m.Write(0, string(want)); e != api.OK {
		t.Fatalf("P3.1: Write(0, %d bytes) = %d", len(want), e)
	}
	return m, want
}

// check holds a memory against what its bytes are to be.
func check(t *testing.T, m *phys.Mem, want []byte) {
	t.Helper()
	if got := m.Size(); got != len(want) {
		t.Fatalf("P3.1: Size() = %d, want %d", got, len(want))
	}
	got, e := m.Read(0, len(want))
	if got != string(want) || e != api.OK {
		t.Fatalf("P3.1: Read(0, %d) = %x, %d, want %x", len(want), got, e, want)
	}
}

func TestNewIsZero(t *testing.T) {
	for i := range api.MaxFrames {
		check(t, made(t, i+1), make([]byte, (i+1)*api.FrameSize))
	}
}

func TestNewRefuses(t *testing.T) {
	for _, frames := range append([]int{0, api.MaxFrames + 1, 2 * api.MaxFrames, 1<<32 + 1}, far...) {
		if m, e := phys.New(frames); m != nil || e != api.ErrPhysForm {
			t.Errorf("P3.1: New(%d) = %v, %d", frames, m, e)
		}
	}
}

func TestReadAllRuns(t *testing.T) {
	m, want := filled(t, 2)
	for at := range len(want) + 1 {
		for n := range len(want) - at + 1 {
			if got, e := m.Read(at, n); got != string(want[at:at+n]) || e != api.OK {
				t.Fatalf("P3.1: Read(%d, %d) = %x, %d", at, n, got, e)
			}
		}
	}
}

func TestWriteAllRuns(t *testing.T) {
	m, want := filled(t, 2)
	size := len(want)
	for at := range size + 1 {
		for n := range size - at + 1 {
			s := strings.Repeat(string([]byte{byte(at ^ 5*n)}), n)
			if e := m.Write(at, s); e != api.OK {
				t.Fatalf("P3.1: Write(%d, %d bytes) = %d", at, n, e)
			}
			copy(want[at:], s)
			check(t, m, want)
		}
	}
}

func TestWriteAnyBytes(t *testing.T) {
	m := made(t, api.MaxFrames)
	want := make([]byte, api.MaxFrames*api.FrameSize)
	for at, s := range map[int]string{
		0:                  "\x00\x01\x7f\x80\xfe\xff",
		63:                 "é\xc3\xed\xa0\x80",
		200:                "",
		4096 - 1:           "\xff",
		4096 - 100:         "to no end",
		1000:               strings.Repeat("0123456789", 100),
		31 * api.FrameSize: strings.Repeat("\r\n", 32),
	} {
		if e := m.Write(at, s); e != api.OK {
			t.Fatalf("P3.1: Write(%d, %q) = %d", at, s, e)
		}
		copy(want[at:], s)
		if got, e := m.Read(at, len(s)); got != s || e != api.OK {
			t.Fatalf("P3.1: Read(%d, %d) = %q, %d, want %q", at, len(s), got, e, s)
		}
	}
	check(t, m, want)
}

func TestNothingAtTheEnd(t *testing.T) {
	for _, frames := range []int{1, 3, api.MaxFrames} {
		m, want := filled(t, frames)
		if e := m.Write(len(want), ""); e != api.OK {
			t.Errorf("P3.1: Write(%d, \"\") = %d, with %d bytes", len(want), e, len(want))
		}
		if got, e := m.Read(len(want), 0); got != "" || e != api.OK {
			t.Errorf("P3.1: Read(%d, 0) = %x, %d, with %d bytes", len(want), got, e, len(want))
		}
		check(t, m, want)
	}
}

func TestReadRefuses(t *testing.T) {
	for _, frames := range []int{1, 2, api.MaxFrames} {
		m, want := filled(t, frames)
		size := len(want)
		cases := [][2]int{{-1, 0}, {-1, 1}, {0, -1}, {1, -1}, {size, -1}, {0, size + 1}, {1, size}, {size - 1, 2}, {size, 1}, {size + 1, 0}, {size + 1, -1}, {size + api.FrameSize, 1}}
		for _, x := range far {
			cases = append(cases, [2]int{x, 0}, [2]int{x, 1}, [2]int{0, x}, [2]int{4, x}, [2]int{size, x}, [2]int{x, x}, [2]int{x, -x})
		}
		for _, c := range cases {
			if got, e := m.Read(c[0], c[1]); got != "" || e != api.ErrPhysForm {
				t.Errorf("P3.1: Read(%d, %d) = %x, %d, with %d bytes", c[0], c[1], got, e, size)
			}
		}
		check(t, m, want)
	}
}

func TestWriteRefuses(t *testing.T) {
	for _, frames := range []int{1, 2, api.MaxFrames} {
		m, want := filled(t, frames)
		size := len(want)
		refused := func(at, n int) {
			t.Helper()
			if e := m.Write(at, strings.Repeat("\xee", n)); e != api.ErrPhysForm {
				t.Errorf("P3.1: Write(%d, %d bytes) = %d, with %d bytes", at, n, e, size)
			}
			check(t, m, want)
		}
		for _, c := range [][2]int{{-1, 0}, {-1, 1}, {-1, 2}, {0, size + 1}, {1, size}, {size - 1, 2}, {size, 1}, {size + 1, 0}, {size + api.FrameSize, 1}, {0, 1 << 16}} {
			refused(c[0], c[1])
		}
		for _, at := range far {
			refused(at, 0)
			refused(at, 1)
			refused(at, size)
		}
	}
}

func TestWord(t *testing.T) {
	for _, c := range []struct {
		bytes string
		want  int
	}{
		{"\x00\x00\x00\x00", 0},
		{"\x01\x00\x00\x00", 1},
		{"\x00\x01\x00\x00", 1 << 8},
		{"\x00\x00\x01\x00", 1 << 16},
		{"\x00\x00\x00\x01", 1 << 24},
		{"\xff\x00\x00\x00", 255},
		{"\x80\x00\x00\x80", 1<<31 + 128},
		{"\x78\x56\x34\x12", 0x12345678},
		{"\x12\x34\x56\x78", 0x78563412},
		{"\xff\xff\xff\x7f", math.MaxInt32},
		{"\xff\xff\xff\xff", math.MaxUint32},
	} {
		for _, at := range []int{0, 4, 60, 64, 124} {
			m, want := filled(t, 2)
			copy(want[at:], c.bytes)
			if e := m.PutWord(at, c.want); e != api.OK {
				t.Errorf("P3.2: PutWord(%d, %d) = %d", at, c.want, e)
			}
			check(t, m, want)
			n, _ := filled(t, 2)
			if e := n.Write(at, c.bytes); e != api.OK {
				t.Errorf("P3.1: Write(%d, %x) = %d", at, c.bytes, e)
			}
			if got, e := n.Word(at); got != c.want || e != api.OK {
				t.Errorf("P3.2: Word(%d) of %x = %d, %d, want %d", at, c.bytes, got, e, c.want)
			}
		}
	}
}

func TestAllWords(t *testing.T) {
	for _, frames := range []int{1, 5, api.MaxFrames} {
		m, want := filled(t, frames)
		for at := 0; at < len(want); at += 4 {
			if got, e := m.Word(at); got != int(binary.LittleEndian.Uint32(want[at:])) || e != api.OK {
				t.Fatalf("P3.2: Word(%d) = %d, %d", at, got, e)
			}
			x := at * 2654435761 % (1 << 32)
			if e := m.PutWord(at, x); e != api.OK {
				t.Fatalf("P3.2: PutWord(%d, %d) = %d", at, x, e)
			}
			binary.LittleEndian.PutUint32(want[at:], uint32(x))
			check(t, m, want)
		}
	}
}

// noWordAt are places of no word of so many bytes.
func noWordAt(size int) []int {
	places := []int{size - 3, size - 2, size - 1, size, size + 1, size + 4, size + api.FrameSize}
	for at := range size {
		if at%4 != 0 {
			places = append(places, at)
		}
	}
	return append(places, far...)
}

func TestWordRefuses(t *testing.T) {
	for _, frames := range []int{1, 2, api.MaxFrames} {
		m, want := filled(t, frames)
		for _, at := range noWordAt(len(want)) {
			if got, e := m.Word(at); got != 0 || e != api.ErrPhysForm {
				t.Errorf("P3.2: Word(%d) = %d, %d, with %d bytes", at, got, e, len(want))
			}
		}
		check(t, m, want)
	}
}

func TestPutWordRefuses(t *testing.T) {
	for _, frames := range []int{1, 2, api.MaxFrames} {
		m, want := filled(t, frames)
		for _, at := range noWordAt(len(want)) {
			for _, x := range []int{0, 7, math.MaxUint32, -1, math.MaxUint32 + 1} {
				if e := m.PutWord(at, x); e != api.ErrPhysForm {
					t.Errorf("P3.2: PutWord(%d, %d) = %d, with %d bytes", at, x, e, len(want))
				}
			}
		}
		for _, x := range append([]int{math.MaxUint32 + 1, math.MaxUint32 + 2}, far...) {
			for _, at := range []int{0, 4, len(want) - 4} {
				if e := m.PutWord(at, x); e != api.ErrPhysForm {
					t.Errorf("P3.2: PutWord(%d, %d) = %d, with %d bytes", at, x, e, len(want))
				}
			}
		}
		check(t, m, want)
	}
}

func TestZero(t *testing.T) {
	for _, frames := range []int{1, 2, 7, api.MaxFrames} {
		for frame := range frames {
			m, want := filled(t, frames)
			for range 2 {
				if e := m.Zero(frame); e != api.OK {
					t.Fatalf("P3.2: Zero(%d) = %d, with %d frames", frame, e, frames)
				}
				clear(want[frame*api.FrameSize:][:api.FrameSize])
				check(t, m, want)
			}
		}
	}
}

func TestZeroRefuses(t *testing.T) {
	for _, frames := range []int{1, 2, api.MaxFrames} {
		m, want := filled(t, frames)
		for _, frame := range append([]int{frames, frames + 1, api.MaxFrames, frames * api.FrameSize}, far...) {
			if e := m.Zero(frame); e != api.ErrPhysForm {
				t.Errorf("P3.2: Zero(%d) = %d, with %d frames", frame, e, frames)
			}
		}
		check(t, m, want)
	}
}

func TestReadersAreHandedOn(t *testing.T) {
	m := made(t, 1)
	read, word := m.Read, m.Word
	if e := m.PutWord(8, 0x04030201); e != api.OK {
		t.Fatalf("P3.2: PutWord = %d", e)
	}
	if got, e := read(7, 6); got != "\x00\x01\x02\x03\x04\x00" || e != api.OK {
		t.Errorf("P3.1: read(7, 6) = %x, %d", got, e)
	}
	if got, e := word(8); got != 0x04030201 || e != api.OK {
		t.Errorf("P3.2: word(8) = %x, %d", got, e)
	}
}

func TestWhatWasReadStays(t *testing.T) {
	m, want := filled(t, 1)
	first, _ := m.Read(0, api.FrameSize)
	if e := m.Zero(0); e != api.OK || first != string(want) {
		t.Errorf("R4: %x, %d, want %x", first, e, want)
	}
	if e := m.Write(0, first); e != api.OK {
		t.Errorf("P3.1: Write = %d", e)
	}
	check(t, m, want)
}

func TestMemoriesShareNothing(t *testing.T) {
	a, wantA := filled(t, 2)
	b, wantB := filled(t, 2)
	if a.Write(60, "12345678") != api.OK || b.Zero(0) != api.OK || b.PutWord(64, 0) != api.OK {
		t.Fatal("P3.1, P3.2: refused")
	}
	copy(wantA[60:], "12345678")
	clear(wantB[:68])
	check(t, a, wantA)
	check(t, b, wantB)
}

func TestNilMem(t *testing.T) {
	var none *phys.Mem
	if got := none.Size(); got != 0 {
		t.Errorf("R3: Size() = %d", got)
	}
	for _, at := range append([]int{0, 1, 4, 4096}, far...) {
		for _, n := range append([]int{0, 4}, far...) {
			if got, e := none.Read(at, n); got != "" || e != api.ErrNil {
				t.Errorf("R3: Read(%d, %d) = %x, %d", at, n, got, e)
			}
			if e := none.PutWord(at, n); e != api.ErrNil {
				t.Errorf("R3: PutWord(%d, %d) = %d", at, n, e)
			}
		}
		if got, e := none.Word(at); got != 0 || e != api.ErrNil {
			t.Errorf("R3: Word(%d) = %d, %d", at, got, e)
		}
		for _, s := range []string{"", "some"} {
			if e := none.Write(at, s); e != api.ErrNil {
				t.Errorf("R3: Write(%d, %q) = %d", at, s, e)
			}
		}
		if e := none.Zero(at); e != api.ErrNil {
			t.Errorf("R3: Zero(%d) = %d", at, e)
		}
	}
}

func TestMemThatIsNotNews(t *testing.T) {
	var zero phys.Mem
	check(t, &zero, nil)
	if got, e := zero.Read(0, 1); got != "" || e != api.ErrPhysForm {
		t.Errorf("P3.1: no bytes: Read(0, 1) = %x, %d", got, e)
	}
	if e := zero.Write(0, "1"); e != api.ErrPhysForm {
		t.Errorf("P3.1: no bytes: Write(0, 1) = %d", e)
	}
	if got, e := zero.Word(0); got != 0 || e != api.ErrPhysForm {
		t.Errorf("P3.2: no bytes: Word(0) = %d, %d", got, e)
	}
	if e := zero.PutWord(0, 1); e != api.ErrPhysForm {
		t.Errorf("P3.2: no bytes: PutWord(0, 1) = %d", e)
	}
	if e := zero.Zero(0); e != api.ErrPhysForm {
		t.Errorf("P3.2: no frames: Zero(0) = %d", e)
	}
}

func TestNewFromSeveralGoroutines(t *testing.T) {
	var all sync.WaitGroup
	for k := range 8 {
		all.Go(func() {
			for range 200 {
				m, e := phys.New(k + 1)
				if e != api.OK || m.PutWord(64*k, k) != api.OK || m.Size() != 64*(k+1) {
					t.Errorf("R5: New(%d): %d", k+1, e)
					return
				}
				if x, e := m.Word(64 * k); x != k || e != api.OK {
					t.Errorf("R5: Word(%d) = %d, %d", 64*k, x, e)
				}
			}
		})
	}
	all.Wait()
}
