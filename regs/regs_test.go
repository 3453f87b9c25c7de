package regs_test

import (
	"math"
	"sync"
	"testing"

	"caisson/api"
	"caisson/regs"
)

// far are numbers that are no device and no register.
var far = []int{
	math.MinInt, math.MinInt + 1, math.MinInt + 8, math.MinInt / 2, -1 << 32, math.MinInt32, -256, -8, -4, -2, -1,
	8, 9, 16, 255, 256, 257, 1 << 16, math.MaxInt32, math.MaxUint32, 1 << 32, 1<<32 + 1, 1<<32 + 3, math.MaxInt / 2, math.MaxInt - 1, math.MaxInt,
}

// wrong are numbers that no register may hold.
var wrong = []int{
	math.MinInt, math.MinInt + 1, -1 << 32, math.MinInt32, -65536, -65535, -256, -2, -1,
	65536, 65537, 1 << 17, 1 << 20, math.MaxInt32, math.MaxUint32, 1 << 32, 1<<32 + 1, 1<<32 + 65535, math.MaxInt - 1, math.MaxInt,
}

// right are numbers that a register may hold: each bit, what lies beside it, and the ends.
var right = func() []int {
	row := []int{0}
	for x := 1; x <= api.MaxValue; x = 2 * x {
		row = append(row, x-1, x, x+1)
	}
	return append(row, 12345, 0x5555, 0xaaaa, 65534, 65535)
}()

// plain is what the registers are to hold.
type plain [api.MaxDevices][api.Registers]int

// made is the registers of so many devices.
func made(t *testing.T, devices int) *regs.File {
	t.Helper()
	f, e := regs.New(devices)
	if f == nil || e != api.OK {
		t.Fatalf("P14.1: New(%d) = %v, %d", devices, f, e)
	}
	return f
}

// put makes all registers hold numbers as unlike as may be, none of them 0, and tells which.
func put(t *testing.T, f *regs.File, devices int) plain {
	t.Helper()
	var want plain
	for device := range devices {
		for reg := range api.Registers {
			want[device][reg] = (device*api.Registers+reg)*2047 + 1
			ok(t, "Write", f.Write(device, reg, want[device][reg]))
		}
	}
	check(t, f, devices, want)
	return want
}

// ok holds a call to have been done.
func ok(t *testing.T, name string, e api.Errno) {
	t.Helper()
	if e != api.OK {
		t.Fatalf("P14.1: %s: %d", name, e)
	}
}

// check holds all registers, those of devices that are not there too, against what they are to hold.
func check(t *testing.T, f *regs.File, devices int, want plain) {
	t.Helper()
	for device := range api.MaxDevices {
		e := api.OK
		if device >= devices {
			e = api.ErrRegsForm
		}
		for reg := range api.Registers {
			if x, got := f.Read(device, reg); x != want[device][reg] || got != e {
				t.Fatalf("P14.1: Read(%d, %d) = %d, %d, want %d, %d, of %d devices", device, reg, x, got, want[device][reg], e, devices)
			}
		}
	}
}

// refuse holds reading and writing of a register to be refused.
func refuse(t *testing.T, f *regs.File, device int, reg int, want api.Errno) {
	t.Helper()
	if x, e := f.Read(device, reg); x != 0 || e != want {
		t.Errorf("P14.1: Read(%d, %d) = %d, %d, want %d", device, reg, x, e, want)
	}
	for _, x := range []int{0, 1, 65535, -1, 65536, math.MaxInt} {
		if e := f.Write(device, reg, x); e != want {
			t.Errorf("P14.1: Write(%d, %d, %d) = %d, want %d", device, reg, x, e, want)
		}
	}
}

func TestNewIsAllZero(t *testing.T) {
	for i := range api.MaxDevices {
		check(t, made(t, i+1), i+1, plain{})
	}
}

func TestNewRefuses(t *testing.T) {
	for _, devices := range append([]int{0, 5, 6, 7}, far...) {
		if f, e := regs.New(devices); f != nil || e != api.ErrRegsForm {
			t.Errorf("P14.1: New(%d) = %v, %d", devices, f, e)
		}
	}
}

func TestWriteOfEach(t *testing.T) {
	for i := range api.MaxDevices {
		f := made(t, i+1)
		want := put(t, f, i+1)
		for device := range i + 1 {
			for reg := range api.Registers {
				for _, x := range right {
					ok(t, "Write", f.Write(device, reg, x))
					want[device][reg] = x
					check(t, f, i+1, want)
				}
			}
		}
	}
}

func TestEachNumber(t *testing.T) {
	f := made(t, 1)
	for x := range api.MaxValue + 1 {
		ok(t, "Write", f.Write(0, x%api.Registers, x))
		if got, e := f.Read(0, x%api.Registers); got != x || e != api.OK {
			t.Fatalf("P14.1: Read(0, %d) = %d, %d, want %d", x%api.Registers, got, e, x)
		}
	}
}

func TestWriteRefusesNumbers(t *testing.T) {
	for _, full := range []bool{false, true} {
		f := made(t, 2)
		var want plain
		if full {
			want = put(t, f, 2)
		}
		for _, x := range wrong {
			for device := range 2 {
				for reg := range api.Registers {
					if e := f.Write(device, reg, x); e != api.ErrRegsForm {
						t.Errorf("P14.1: Write(%d, %d, %d) = %d", device, reg, x, e)
					}
				}
			}
			check(t, f, 2, want)
		}
	}
}

func TestResetOfEach(t *testing.T) {
	for i := range api.MaxDevices {
		for device := range i + 1 {
			f := made(t, i+1)
			want := put(t, f, i+1)
			want[device] = [api.Registers]int{}
			for range 2 {
				ok(t, "Reset", f.Reset(device))
				check(t, f, i+1, want)
			}
			ok(t, "Write", f.Write(device, 7, 9))
			want[device][7] = 9
			check(t, f, i+1, want)
		}
	}
}

func TestRefusals(t *testing.T) {
	for i := range api.MaxDevices {
		devices := i + 1
		f := made(t, devices)
		want := put(t, f, devices)
		for _, device := range append([]int{devices, devices + 1, api.MaxDevices, api.MaxDevices + 1}, far...) {
			for _, reg := range append([]int{0, 3, 7}, far...) {
				refuse(t, f, device, reg, api.ErrRegsForm)
			}
			if e := f.Reset(device); e != api.ErrRegsForm {
				t.Errorf("P14.1: Reset(%d) = %d", device, e)
			}
		}
		for _, reg := range far {
			for device := range devices {
				refuse(t, f, device, reg, api.ErrRegsForm)
			}
		}
		check(t, f, devices, want)
	}
}

func TestFilesShareNothing(t *testing.T) {
	a, b := made(t, 2), made(t, 2)
	want := put(t, b, 2)
	check(t, a, 2, plain{})
	ok(t, "Write", a.Write(1, 3, 5))
	check(t, b, 2, want)
	ok(t, "Reset", b.Reset(1))
	check(t, a, 2, plain{1: {3: 5}})
}

func TestReadingChangesNothing(t *testing.T) {
	f := made(t, 3)
	want := put(t, f, 3)
	for range 3 {
		check(t, f, 3, want)
	}
}

func TestLongScripts(t *testing.T) {
	seed := uint64(1)
	next := func(n int) int {
		seed = seed*6364136223846793005 + 1442695040888963407
		return int(seed >> 33 % uint64(n))
	}
	for i := range api.MaxDevices {
		f := made(t, i+1)
		var want plain
		for range 4000 {
			device, reg, x := next(i+3)-1, next(api.Registers+2)-1, next(api.MaxValue+101)-50
			here := device >= 0 && device <= i
			if next(9) == 0 {
				if e := f.Reset(device); (e == api.OK) != here {
					t.Fatalf("P14.1: Reset(%d) = %d", device, e)
				}
				if here {
					want[device] = [api.Registers]int{}
				}
			} else {
				may := here && reg >= 0 && reg < api.Registers && x >= 0 && x <= api.MaxValue
				if e := f.Write(device, reg, x); (e == api.OK) != may {
					t.Fatalf("P14.1: Write(%d, %d, %d) = %d", device, reg, x, e)
				}
				if may {
					want[device][reg] = x
				}
			}
			check(t, f, i+1, want)
		}
	}
}

func TestNilFile(t *testing.T) {
	var none *regs.File
	for _, device := range append([]int{0, 3, 4}, far...) {
		for _, reg := range append([]int{0, 7}, far...) {
			refuse(t, none, device, reg, api.ErrNil)
		}
		if e := none.Reset(device); e != api.ErrNil {
			t.Errorf("R3: Reset(%d) = %d", device, e)
		}
	}
}

func TestFileThatIsNotNews(t *testing.T) {
	var zero regs.File
	check(t, &zero, 0, plain{})
	refuse(t, &zero, 0, 0, api.ErrRegsForm)
	if e := zero.Reset(0); e != api.ErrRegsForm {
		t.Errorf("P14.1: no devices: Reset(0) = %d", e)
	}
}

func TestFromSeveralGoroutines(t *testing.T) {
	var group sync.WaitGroup
	for k := range 8 {
		group.Go(func() {
			for range 200 {
				f, e := regs.New(k%api.MaxDevices + 1)
				if e != api.OK || f.Write(0, k, k+1) != api.OK {
					t.Errorf("R5: New(%d): %d", k%api.MaxDevices+1, e)
					continue
				}
				if x, e := f.Read(0, k); x != k+1 || e != api.OK {
					t.Errorf("R5: Read(0, %d) = %d, %d", k, x, e)
				}
			}
		})
	}
	group.Wait()
}
