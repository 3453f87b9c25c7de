package config_test

import (
	"math"
	"reflect"
	"slices"
	"sync"
	"testing"

	"caisson/api"
	"caisson/config"
)

// far are numbers that a config may have nowhere.
var far = []int{
	math.MinInt, math.MinInt + 1, math.MinInt + 3, math.MinInt / 2, -1 << 32, math.MinInt32, -256, -64, -16, -5, -4, -3, -2, -1,
	65, 66, 127, 128, 255, 256, 257, 1 << 16, 1<<16 + 1, math.MaxInt32, math.MaxUint32, 1 << 32, 1<<32 + 1, 1<<32 + 3, math.MaxInt / 2, math.MaxInt/2 + 1, math.MaxInt - 64, math.MaxInt - 1, math.MaxInt,
}

// numbers is a row of numbers.
type numbers uint64

// next is a number from 0 below n.
func (r *numbers) next(n int) int {
	*r = *r*6364136223846793005 + 1442695040888963407
	return int(uint64(*r) >> 33 % uint64(n))
}

// sample is a config of three partitions and two devices, in which part 0's frames 2 and 7 are granted: 2 to both others, to part 2 with Write, 7 to part 1 with Write; part 2's frame 5 to part 0.
func sample() api.Config {
	return api.Config{
		Frames: 20,
		Parts: []api.Part{
			{Label: api.Label{Level: 1, Cats: 5}, Frames: []int{7, 2, 0}, First: 4, Count: 6},
			{Label: api.Label{Level: 3, Cats: 15}, Frames: []int{3, 4}, First: 0, Count: 4},
			{Label: api.Label{}, Frames: []int{5}, First: 12, Count: 0},
		},
		Devices: []api.Device{{Part: 2, Pool: []int{19, 9, 12}}, {Part: 0, Pool: []int{10, 11}}},
		Major:   12,
		Windows: []api.Window{{Part: 1, Start: 6, Len: 4, Deliver: 9}, {Part: 0, Start: 0, Len: 4, Deliver: 0}, {Part: 2, Start: 10, Len: 2, Deliver: 11}, {Part: 0, Start: 4, Len: 1, Deliver: 4}},
		Grants:  []api.Grant{{Frame: 2, To: 1}, {Frame: 2, To: 2, Write: true}, {Frame: 7, To: 1, Write: true}, {Frame: 5, To: 0}},
		Sectors: 12,
		Quota:   9,
		Quiet:   2,
	}
}

// least is the least config that there is.
func least() api.Config {
	return api.Config{
		Frames: 3, Parts: []api.Part{{Frames: []int{1}}}, Devices: []api.Device{{Pool: []int{2, 0}}},
		Major: 1, Windows: []api.Window{{Len: 1}}, Quiet: 1,
	}
}

// most is a config that has the most of all: each frame is somebody's, and each of the partitions' is granted to all others.
func most() api.Config {
	c := api.Config{Frames: 64, Major: 64, Sectors: 64, Quota: 64, Quiet: 8}
	for i := range 4 {
		p := api.Part{Label: api.Label{Level: i, Cats: 15}, First: 16 * i, Count: 16}
		for f := range 11 {
			p.Frames = append(p.Frames, i+4*f)
			for to := range 4 {
				if to != i {
					c.Grants = append(c.Grants, api.Grant{Frame: i + 4*f, To: to, Write: f%2 == 0})
				}
			}
		}
		c.Parts = append(c.Parts, p)
		c.Devices = append(c.Devices, api.Device{Part: 3 - i, Pool: []int{44 + i, 48 + i, 52 + i, 56 + i, 60 + i}})
		c.Windows = append(c.Windows, api.Window{Part: i, Start: 16 * i, Len: 8, Deliver: 16*i + 7}, api.Window{Part: i, Start: 16*i + 8, Len: 8, Deliver: 16*i + 8})
	}
	return c
}

// is tells whether n is from low to high.
func is(n, low, high int) bool {
	return low <= n && n <= high
}

// run tells whether n from at on lie within size.
func run(at, n, size int) bool {
	return is(at, 0, size) && is(n, 0, size) && at+n <= size
}

// named is how often each frame is named, by partitions and by pools.
func named(c api.Config) map[int]int {
	times := map[int]int{}
	for _, p := range c.Parts {
		for _, f := range p.Frames {
			times[f]++
		}
	}
	for _, d := range c.Devices {
		for _, f := range d.Pool {
			times[f]++
		}
	}
	return times
}

// owner is whose a frame is, or -1.
func owner(c api.Config, frame int) int {
	for i, p := range c.Parts {
		for _, f := range p.Frames {
			if f == frame {
				return i
			}
		}
	}
	return -1
}

// partsFine and the others are the questions of P21.1, one by one.
func partsFine(c api.Config) bool {
	for _, p := range c.Parts {
		if !is(p.Label.Level, 0, 3) || !is(p.Label.Cats, 0, 15) || len(p.Frames) == 0 {
			return false
		}
	}
	return is(len(c.Parts), 1, 4)
}

func devicesFine(c api.Config) bool {
	for _, d := range c.Devices {
		if !is(d.Part, 0, len(c.Parts)-1) || !is(len(d.Pool), 2, 5) {
			return false
		}
	}
	return is(len(c.Devices), 1, 4)
}

func placesFine(c api.Config) bool {
	for f := range named(c) {
		if !is(f, 0, c.Frames-1) {
			return false
		}
	}
	return true
}

func unlike(c api.Config) bool {
	for _, times := range named(c) {
		if times > 1 {
			return false
		}
	}
	return true
}

func windowsFine(c api.Config) bool {
	if !is(c.Major, 1, 64) || !is(len(c.Parts), 1, 4) || !is(len(c.Windows), 1, 8) {
		return false
	}
	offsets := map[int]int{}
	for _, w := range c.Windows {
		if !is(w.Part, 0, len(c.Parts)-1) || w.Len < 1 || !run(w.Start, w.Len, c.Major) || !is(w.Deliver, w.Start, w.Start+w.Len-1) {
			return false
		}
		for i := range w.Len {
			offsets[w.Start+i]++
			if offsets[w.Start+i] > 1 {
				return false
			}
		}
	}
	return true
}

func eachHasWindow(c api.Config) bool {
	windows := map[int]int{}
	for _, w := range c.Windows {
		windows[w.Part]++
	}
	for i := range c.Parts {
		if windows[i] == 0 {
			return false
		}
	}
	return true
}

func grantsFine(c api.Config) bool {
	for _, g := range c.Grants {
		from := owner(c, g.Frame)
		if from < 0 || from == g.To || !is(g.To, 0, len(c.Parts)-1) {
			return false
		}
	}
	return true
}

func grantsUnlike(c api.Config) bool {
	for i, g := range c.Grants {
		for _, other := range c.Grants[:i] {
			if g.Frame == other.Frame && g.To == other.To {
				return false
			}
		}
	}
	return true
}

func sharesFine(c api.Config) bool {
	if !is(len(c.Parts), 1, 4) || !is(c.Sectors, 0, 64) {
		return false
	}
	sectors := map[int]int{}
	for _, p := range c.Parts {
		if !run(p.First, p.Count, c.Sectors) {
			return false
		}
		for i := range p.Count {
			sectors[p.First+i]++
			if sectors[p.First+i] > 1 {
				return false
			}
		}
	}
	return true
}

// broken are the questions that are answered no.
func broken(c api.Config) []string {
	var names []string
	for _, q := range []struct {
		name string
		fine bool
	}{
		{"frames", is(c.Frames, 1, 64)},
		{"parts", partsFine(c)},
		{"devices", devicesFine(c)},
		{"places", placesFine(c)},
		{"unlike", unlike(c)},
		{"windows", windowsFine(c)},
		{"each has a window", eachHasWindow(c)},
		{"grants", grantsFine(c)},
		{"grants unlike", grantsUnlike(c)},
		{"shares", sharesFine(c)},
		{"quota", is(c.Quota, 0, 64)},
		{"quiet", is(c.Quiet, 1, 8)},
	} {
		if !q.fine {
			names = append(names, q.name)
		}
	}
	return names
}

// reachable tells whether a partition has each of n bytes from at on: of its own frames or of the granted ones, of which those with Write count alone if it writes.
func reachable(c api.Config, part, at, n int, write bool) bool {
	if len(broken(c)) > 0 || !is(part, 0, len(c.Parts)-1) || !run(at, n, c.Frames*64) {
		return false
	}
	for b := at; b < at+n; b++ {
		may := owner(c, b/64) == part
		for _, g := range c.Grants {
			may = may || g.Frame == b/64 && g.To == part && (g.Write || !write)
		}
		if !may {
			return false
		}
	}
	return true
}

// hold holds May against the questions; of a config that may not be, nothing may be reached.
func hold(t *testing.T, name string, c api.Config) {
	t.Helper()
	wrong := broken(c)
	if got := config.May(c); got != (len(wrong) == 0) {
		t.Fatalf("P21.1: %s: May(%+v) = %v, broken: %v", name, c, got, wrong)
	}
	if len(wrong) == 0 {
		return
	}
	for part := range 4 {
		for _, at := range []int{0, 128} {
			if config.Reads(c, part, at, 64-at/2) || config.Writes(c, part, at, 64-at/2) {
				t.Fatalf("P21.2: %s: %d, %d of %+v, broken: %v", name, part, at, c, wrong)
			}
		}
	}
}

// holdBoth holds Reads and Writes against what a partition has.
func holdBoth(t *testing.T, c api.Config, part, at, n int) {
	t.Helper()
	if got, want := config.Reads(c, part, at, n), reachable(c, part, at, n, false); got != want {
		t.Fatalf("P21.2: Reads(%+v, %d, %d, %d) = %v", c, part, at, n, got)
	}
	if got, want := config.Writes(c, part, at, n), reachable(c, part, at, n, true); got != want {
		t.Fatalf("P21.2: Writes(%+v, %d, %d, %d) = %v", c, part, at, n, got)
	}
}

// ways are the changes of a config that are asked for by name.
var ways = []struct {
	name string
	want bool
	turn func(c *api.Config)
}{
	{"as it is", true, func(c *api.Config) {}},
	{"memory up to the last frame named", true, func(c *api.Config) { c.Frames = 20 }},
	{"memory up to the last but one", false, func(c *api.Config) { c.Frames = 19 }},
	{"the most memory", true, func(c *api.Config) { c.Frames = 64 }},
	{"a frame too many", false, func(c *api.Config) { c.Frames = 65 }},
	{"no memory", false, func(c *api.Config) { c.Frames = 0 }},

	{"no partitions", false, func(c *api.Config) { c.Parts = nil }},
	{"no partitions, not nil", false, func(c *api.Config) { c.Parts = []api.Part{} }},
	{"nothing at all", false, func(c *api.Config) { *c = api.Config{} }},
	{"a fourth partition", true, func(c *api.Config) { fourth(c) }},
	{"a fourth partition without a window", false, func(c *api.Config) { fourth(c); c.Windows = c.Windows[:4] }},
	{"a fifth partition", false, func(c *api.Config) {
		fourth(c)
		c.Parts = append(c.Parts, api.Part{Frames: []int{14}})
	}},
	{"a level too high", false, func(c *api.Config) { c.Parts[2].Label.Level = 4 }},
	{"a level below 0", false, func(c *api.Config) { c.Parts[0].Label.Level = -1 }},
	{"a category too many", false, func(c *api.Config) { c.Parts[1].Label.Cats = 16 }},
	{"categories below 0", false, func(c *api.Config) { c.Parts[1].Label.Cats = -1 }},
	{"a partition without frames", false, func(c *api.Config) { c.Parts[1].Frames = nil }},
	{"a partition without frames, not nil", false, func(c *api.Config) { c.Parts[1].Frames = []int{} }},
	{"the last partition without frames", false, func(c *api.Config) { c.Parts[2].Frames, c.Grants = nil, nil }},
	{"all frames that are left", true, func(c *api.Config) { c.Parts[1].Frames = []int{1, 3, 4, 6, 8, 13, 14, 15, 16, 17, 18} }},
	{"a frame below 0", false, func(c *api.Config) { c.Parts[1].Frames[1] = -1 }},
	{"a frame behind the last", false, func(c *api.Config) { c.Parts[1].Frames[1] = 20 }},

	{"no devices", false, func(c *api.Config) { c.Devices = nil }},
	{"no devices, not nil", false, func(c *api.Config) { c.Devices = []api.Device{} }},
	{"one device", true, func(c *api.Config) { c.Devices = c.Devices[1:] }},
	{"four devices", true, func(c *api.Config) {
		c.Devices = append(c.Devices, api.Device{Part: 1, Pool: []int{13, 14}}, api.Device{Part: 1, Pool: []int{15, 16}})
	}},
	{"five devices", false, func(c *api.Config) {
		c.Frames = 30
		for i := range 3 {
			c.Devices = append(c.Devices, api.Device{Pool: []int{22 + 2*i, 23 + 2*i}})
		}
	}},
	{"a device of nobody", false, func(c *api.Config) { c.Devices[1].Part = -1 }},
	{"a device of one behind the last", false, func(c *api.Config) { c.Devices[1].Part = 3 }},
	{"a device of another", true, func(c *api.Config) { c.Devices[1].Part = 2 }},
	{"no pool", false, func(c *api.Config) { c.Devices[1].Pool = nil }},
	{"a pool of one", false, func(c *api.Config) { c.Devices[1].Pool = []int{10} }},
	{"a pool of five", true, func(c *api.Config) { c.Devices[1].Pool = []int{18, 17, 16, 15, 14} }},
	{"a pool of six", false, func(c *api.Config) { c.Devices[1].Pool = []int{18, 17, 16, 15, 14, 13} }},
	{"a pool's frame below 0", false, func(c *api.Config) { c.Devices[0].Pool[0] = -1 }},
	{"a pool's frame behind the last", false, func(c *api.Config) { c.Devices[0].Pool[2] = 20 }},

	{"no windows", false, func(c *api.Config) { c.Windows = nil }},
	{"a partition without a window", false, func(c *api.Config) { c.Windows[2].Part = 0 }},
	{"the first one without a window", false, func(c *api.Config) { c.Windows[1].Part, c.Windows[3].Part = 1, 2 }},
	{"one window each", true, func(c *api.Config) { c.Windows = c.Windows[:3] }},
	{"a window of one behind the last", false, func(c *api.Config) { c.Windows[3].Part = 3 }},
	{"a major frame up to the last window", true, func(c *api.Config) { c.Major = 12 }},
	{"a major frame that is too short", false, func(c *api.Config) { c.Major = 11 }},
	{"the greatest major frame", true, func(c *api.Config) { c.Major = 64 }},
	{"too great a major frame", false, func(c *api.Config) { c.Major = 65 }},
	{"windows with an offset in common", false, func(c *api.Config) { c.Windows[3].Start = 3 }},
	{"windows of one partition with an offset in common", false, func(c *api.Config) { c.Windows[1].Len = 5 }},
	{"a window of no tick", false, func(c *api.Config) { c.Windows[3].Len = 0 }},
	{"a delivery behind its window", false, func(c *api.Config) { c.Windows[3].Deliver = 5 }},

	{"no grants", true, func(c *api.Config) { c.Grants = nil }},
	{"no grants, not nil", true, func(c *api.Config) { c.Grants = []api.Grant{} }},
	{"a grant to its owner", false, func(c *api.Config) { c.Grants[0].To = 0 }},
	{"a grant to its owner, the last one", false, func(c *api.Config) { c.Grants[3].To = 2 }},
	{"a grant to nobody", false, func(c *api.Config) { c.Grants[0].To = -1 }},
	{"a grant to the monitor", false, func(c *api.Config) { c.Grants[0].To = -2 }},
	{"a grant to one behind the last", false, func(c *api.Config) { c.Grants[0].To = 3 }},
	{"a grant of a free frame", false, func(c *api.Config) { c.Grants[0].Frame = 1 }},
	{"a grant of a pool's frame", false, func(c *api.Config) { c.Grants[0].Frame = 10 }},
	{"a grant of a frame below 0", false, func(c *api.Config) { c.Grants[0].Frame = -1 }},
	{"a grant of a frame behind the last", false, func(c *api.Config) { c.Grants[0].Frame = 20 }},
	{"a frame to two", true, func(c *api.Config) { c.Grants = c.Grants[:2] }},
	{"a frame to one, twice", false, func(c *api.Config) { c.Grants[1].To = 1 }},
	{"a frame to one, twice, once with Write", false, func(c *api.Config) { c.Grants[1] = api.Grant{Frame: 2, To: 1, Write: true} }},
	{"a frame to one, twice, with others between", false, func(c *api.Config) { c.Grants[3] = api.Grant{Frame: 2, To: 1} }},
	{"two frames to one", true, func(c *api.Config) { c.Grants = append(c.Grants, api.Grant{Frame: 0, To: 1}) }},
	{"there and back", true, func(c *api.Config) { c.Grants = append(c.Grants, api.Grant{Frame: 3, To: 0, Write: true}) }},
	{"all frames that there are", true, func(c *api.Config) {
		c.Grants = nil
		for _, f := range []int{7, 2, 0, 5} {
			c.Grants = append(c.Grants, api.Grant{Frame: f, To: 1, Write: f > 4})
		}
	}},

	{"sectors up to the last share, of none", true, func(c *api.Config) { c.Sectors = 12 }},
	{"sectors up to the last but one", false, func(c *api.Config) { c.Sectors = 11 }},
	{"the most sectors", true, func(c *api.Config) { c.Sectors = 64 }},
	{"a sector too many", false, func(c *api.Config) { c.Sectors = 65 }},
	{"sectors below 0", false, func(c *api.Config) { c.Sectors = -1 }},
	{"no sectors, no shares", true, func(c *api.Config) {
		c.Sectors = 0
		for i := range c.Parts {
			c.Parts[i].First, c.Parts[i].Count = 0, 0
		}
	}},
	{"a sector in two shares", false, func(c *api.Config) { c.Parts[1].Count = 5 }},
	{"a share of none within another", true, func(c *api.Config) { c.Parts[2].First = 6 }},
	{"a share below 0", false, func(c *api.Config) { c.Parts[1].First = -1 }},
	{"a count below 0", false, func(c *api.Config) { c.Parts[2].Count = -1 }},

	{"no quota", true, func(c *api.Config) { c.Quota = 0 }},
	{"a quota below 0", false, func(c *api.Config) { c.Quota = -1 }},
	{"the greatest quota", true, func(c *api.Config) { c.Quota = 64 }},
	{"too great a quota", false, func(c *api.Config) { c.Quota = 65 }},
	{"a move of no tick", false, func(c *api.Config) { c.Quiet = 0 }},
	{"the shortest move", true, func(c *api.Config) { c.Quiet = 1 }},
	{"the longest move", true, func(c *api.Config) { c.Quiet = 8 }},
	{"too long a move", false, func(c *api.Config) { c.Quiet = 9 }},
}

// fourth gives a config a fourth partition.
func fourth(c *api.Config) {
	c.Parts = append(c.Parts, api.Part{Label: api.Label{Level: 2}, Frames: []int{1}})
	c.Windows = append(c.Windows, api.Window{Part: 3, Start: 5, Len: 1, Deliver: 5})
}

func TestMay(t *testing.T) {
	for _, way := range ways {
		c := sample()
		way.turn(&c)
		if got := config.May(c); got != way.want {
			t.Errorf("P21.1: %s: May = %v", way.name, got)
		}
		hold(t, way.name, c)
	}
}

func TestTwoWays(t *testing.T) {
	for _, first := range ways {
		for _, second := range ways {
			c := sample()
			func() {
				// A way may ask for what the first one took away.
				defer func() { _ = recover() }()
				first.turn(&c)
				second.turn(&c)
			}()
			hold(t, first.name+", "+second.name, c)
		}
	}
}

func TestLeastAndMost(t *testing.T) {
	for _, c := range []api.Config{sample(), least(), most()} {
		if !config.May(c) {
			t.Errorf("P21.1: May(%+v) = false", c)
		}
	}
	c := most()
	c.Grants = append(c.Grants, c.Grants[0])
	hold(t, "one grant too many", c)
	c = most()
	c.Windows = append(c.Windows, c.Windows[0])
	hold(t, "one window too many", c)
}

// fields are all numbers of a config but its lists' lengths.
func fields(c *api.Config) []*int {
	all := []*int{&c.Frames, &c.Major, &c.Sectors, &c.Quota, &c.Quiet}
	for i := range c.Parts {
		p := &c.Parts[i]
		all = append(all, &p.Label.Level, &p.Label.Cats, &p.First, &p.Count)
	}
	for i := range c.Devices {
		all = append(all, &c.Devices[i].Part)
	}
	for i := range c.Windows {
		w := &c.Windows[i]
		all = append(all, &w.Part, &w.Start, &w.Len, &w.Deliver)
	}
	for i := range c.Grants {
		all = append(all, &c.Grants[i].Frame, &c.Grants[i].To)
	}
	return append(all, places(c)...)
}

// places are where frames are named by partitions and by pools.
func places(c *api.Config) []*int {
	var all []*int
	for i := range c.Parts {
		for k := range c.Parts[i].Frames {
			all = append(all, &c.Parts[i].Frames[k])
		}
	}
	for i := range c.Devices {
		for k := range c.Devices[i].Pool {
			all = append(all, &c.Devices[i].Pool[k])
		}
	}
	return all
}

func TestEachFieldOfEachNumber(t *testing.T) {
	for _, made := range []func() api.Config{sample, least, most} {
		first := made()
		for i := range fields(&first) {
			c := made()
			field := fields(&c)[i]
			for n := -3; n < 70; n++ {
				*field = n
				hold(t, "a number near", c)
			}
			for _, n := range far {
				*field = n
				if config.May(c) || config.Reads(c, 0, 0, 0) || config.Writes(c, 0, 0, 0) {
					t.Errorf("P21.1: field %d is %d: May = true", i, n)
				}
			}
		}
	}
}

func TestNoFrameIsNamedTwice(t *testing.T) {
	for _, made := range []func() api.Config{sample, least, most} {
		first := made()
		for i := range places(&first) {
			for k := range i {
				c := made()
				c.Grants = nil
				all := places(&c)
				*all[i] = *all[k]
				if config.May(c) {
					t.Errorf("P21.1: frame %d in places %d and %d: May = true", *all[i], i, k)
				}
				hold(t, "a frame named twice", c)
			}
		}
	}
}

func TestGrantsOfEach(t *testing.T) {
	for frame := -2; frame < 22; frame++ {
		for to := -2; to < 6; to++ {
			for _, write := range []bool{false, true} {
				c := sample()
				c.Grants = append(c.Grants, api.Grant{Frame: frame, To: to, Write: write})
				hold(t, "behind the others", c)
				c.Grants = c.Grants[4:]
				hold(t, "alone", c)
			}
		}
	}
}

// made is a config that may be, or almost.
func made(r *numbers) api.Config {
	c := api.Config{Frames: 12 + r.next(10), Major: 16 + r.next(49), Sectors: 40 + r.next(25), Quota: r.next(65), Quiet: 1 + r.next(8)}
	free := 0
	take := func(n int) []int {
		var row []int
		for range n {
			row = append(row, free)
			free++
		}
		return row
	}
	parts := 1 + r.next(4)
	for i := range parts {
		c.Parts = append(c.Parts, api.Part{Label: api.Label{Level: r.next(4), Cats: r.next(16)}, Frames: take(1 + r.next(3)), First: 10 * i, Count: r.next(11)})
		w := api.Window{Part: i, Start: 4 * i, Len: 1 + r.next(4)}
		w.Deliver = w.Start + r.next(w.Len)
		c.Windows = append(c.Windows, w)
	}
	for range 1 + r.next(2) {
		c.Devices = append(c.Devices, api.Device{Part: r.next(parts), Pool: take(2 + r.next(2))})
	}
	for range r.next(4) {
		c.Grants = append(c.Grants, api.Grant{Frame: r.next(10), To: r.next(parts), Write: r.next(2) == 0})
	}
	return c
}

func TestManyConfigs(t *testing.T) {
	r := numbers(21)
	alone := map[string]int{}
	may := 0
	for range 80000 {
		c := made(&r)
		for range r.next(3) {
			all := fields(&c)
			// The first ones are the numbers that stand in no list.
			if r.next(3) == 0 {
				all = all[:5]
			}
			*all[r.next(len(all))] = r.next(73) - 3
		}
		hold(t, "many", c)
		switch wrong := broken(c); len(wrong) {
		case 0:
			may++
		case 1:
			alone[wrong[0]]++
		}
	}
	if may < 5000 {
		t.Errorf("P21.1: %d that may be came", may)
	}
	for _, name := range []string{"frames", "parts", "devices", "places", "unlike", "windows", "grants", "grants unlike", "shares", "quota", "quiet"} {
		if alone[name] < 30 {
			t.Errorf("P21.1: broken by %s alone came %d times", name, alone[name])
		}
	}
}

func TestReachOfEachFrame(t *testing.T) {
	for _, want := range []struct {
		part          int
		reads, writes []int
	}{
		{0, []int{0, 2, 5, 7}, []int{0, 2, 7}},
		{1, []int{2, 3, 4, 7}, []int{3, 4, 7}},
		{2, []int{2, 5}, []int{2, 5}},
	} {
		for frame := range 20 {
			if got := config.Reads(sample(), want.part, frame*64, 64); got != slices.Contains(want.reads, frame) {
				t.Errorf("P21.2: Reads of frame %d by %d = %v", frame, want.part, got)
			}
			if got := config.Writes(sample(), want.part, frame*64, 64); got != slices.Contains(want.writes, frame) {
				t.Errorf("P21.2: Writes of frame %d by %d = %v", frame, want.part, got)
			}
		}
	}
}

func TestReachOfEachRun(t *testing.T) {
	for _, c := range []api.Config{sample(), least()} {
		size := c.Frames * 64
		for part := -1; part <= len(c.Parts); part++ {
			for at := -2; at < size+67; at++ {
				for _, n := range []int{-65, -1, 0, 1, 2, 63, 64, 65, 128, 129, size - at, size - at + 1} {
					holdBoth(t, c, part, at, n)
				}
			}
		}
	}
}

func TestReachOfTheMost(t *testing.T) {
	c := most()
	for part := range 4 {
		for at := 0; at <= 4096; at += 32 {
			for _, n := range []int{0, 1, 32, 33, 64, 500, 2816, 4096} {
				holdBoth(t, c, part, at, n)
			}
		}
		if !config.Reads(c, part, 0, 44*64) || config.Reads(c, part, 0, 44*64+1) || config.Writes(c, part, 0, 44*64) {
			t.Errorf("P21.2: of all frames, by %d", part)
		}
	}
}

func TestReachOfManyConfigs(t *testing.T) {
	r := numbers(22)
	came := map[[2]bool]int{}
	for range 60000 {
		c := made(&r)
		part, at, n := r.next(len(c.Parts)), r.next(8*64), r.next(100)
		holdBoth(t, c, part, at, n)
		if n > 0 && config.May(c) {
			came[[2]bool{config.Reads(c, part, at, n), config.Writes(c, part, at, n)}]++
		}
	}
	for _, both := range [][2]bool{{false, false}, {true, false}, {true, true}} {
		if came[both] < 100 {
			t.Errorf("P21.2: %v came %d times", both, came[both])
		}
	}
}

func TestReachOfNumbersFarAway(t *testing.T) {
	c := sample()
	for _, a := range append([]int{0, 1, 128, 1279, 1280, 1281}, far...) {
		for _, b := range append([]int{0, 1, 64, 1280}, far...) {
			holdBoth(t, c, 0, a, b)
			holdBoth(t, c, a, b, 1)
			holdBoth(t, c, a, 128, b)
		}
	}
	for _, part := range append([]int{3, 4, 5}, far...) {
		if config.Reads(c, part, 0, 0) || config.Writes(c, part, 0, 0) {
			t.Errorf("P21.2: partition %d reaches nothing", part)
		}
	}
}

func TestNothingIsReachedByAll(t *testing.T) {
	c := sample()
	for part := range 3 {
		for at := range 1281 {
			if !config.Reads(c, part, at, 0) || !config.Writes(c, part, at, 0) {
				t.Errorf("P21.2: no bytes at %d, by %d", at, part)
			}
		}
	}
}

func TestLongLists(t *testing.T) {
	const long = 1 << 20
	for _, turn := range []func(c *api.Config){
		func(c *api.Config) { c.Parts = make([]api.Part, long) },
		func(c *api.Config) { c.Parts = slices.Repeat(c.Parts, long/4) },
		func(c *api.Config) { c.Parts[1].Frames = make([]int, long) },
		func(c *api.Config) { c.Devices = slices.Repeat(c.Devices, long/4) },
		func(c *api.Config) { c.Devices[0].Pool = make([]int, long) },
		func(c *api.Config) { c.Windows = slices.Repeat(c.Windows, long/4) },
		func(c *api.Config) { c.Grants = slices.Repeat(c.Grants, long/4) },
		func(c *api.Config) { c.Grants = make([]api.Grant, long) },
	} {
		c := sample()
		turn(&c)
		if config.May(c) || config.Reads(c, 0, 0, 1) || config.Writes(c, 0, 0, 0) {
			t.Errorf("P21.1: May of a long list = true")
		}
	}
}

// whole is a copy of a list and of the spare room behind it.
func whole[T any](row []T) []T {
	return slices.Clone(row[:cap(row)])
}

// opened is a copy of all that a config holds, spare room included.
func opened(c api.Config) api.Config {
	c.Parts, c.Devices, c.Windows, c.Grants = whole(c.Parts), whole(c.Devices), whole(c.Windows), whole(c.Grants)
	for i := range c.Parts {
		c.Parts[i].Frames = whole(c.Parts[i].Frames)
	}
	for i := range c.Devices {
		c.Devices[i].Pool = whole(c.Devices[i].Pool)
	}
	return c
}

func TestNothingIsChanged(t *testing.T) {
	for _, way := range ways {
		c := sample()
		// Lists with room behind them.
		fourth(&c)
		c.Parts, c.Windows, c.Devices, c.Grants = c.Parts[:3], c.Windows[:4], slices.Grow(c.Devices, 3), slices.Grow(c.Grants, 5)
		c.Parts[0].Frames, c.Devices[0].Pool = slices.Grow(c.Parts[0].Frames, 4), slices.Grow(c.Devices[0].Pool, 4)
		way.turn(&c)
		was := opened(c)
		config.May(c)
		for part := range 3 {
			config.Reads(c, part, 128, 64)
			config.Writes(c, part, 128, 64)
		}
		if is := opened(c); !reflect.DeepEqual(is, was) {
			t.Errorf("R4: %s: %+v is %+v now", way.name, was, is)
		}
	}
}

func TestNothingIsKept(t *testing.T) {
	c := sample()
	for _, turn := range []func(){
		func() {},
		func() { c.Parts[1].Frames[0] = 6 },
		func() { c.Grants[0].Write = true },
		func() { c.Grants[2].Write = false },
		func() { c.Quiet = 9 },
		func() { c.Quiet = 8 },
		func() { c.Grants = c.Grants[2:] },
		func() { c.Parts[2].Frames[0] = 3 },
		func() { c.Grants = nil },
	} {
		turn()
		hold(t, "turned", c)
		for part := range 3 {
			for frame := range 20 {
				holdBoth(t, c, part, frame*64, 64)
			}
		}
	}
}

func TestFromSeveralGoroutines(t *testing.T) {
	c, wrong := sample(), sample()
	wrong.Grants[0].To = 0
	var group sync.WaitGroup
	for range 8 {
		group.Go(func() {
			for range 500 {
				if !config.May(c) || config.May(wrong) || !config.Reads(c, 1, 128, 64) || config.Writes(c, 1, 128, 64) {
					t.Errorf("R5: another answer")
				}
			}
		})
	}
	group.Wait()
}
