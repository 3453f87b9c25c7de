package view_test

import (
	"math"
	"slices"

	"caisson/api"
)

// far are numbers that are no partition, no device and no kind of step.
var far = []int{
	math.MinInt, math.MinInt + 1, math.MinInt / 2, -1 << 32, math.MinInt32, -4096, -256, -64, -5, -4, -3, -2, -1,
	17, 18, 63, 64, 65, 255, 256, 257, 4095, 4096, 1 << 16, math.MaxInt32, math.MaxUint32, 1 << 32, 1<<32 + 1, 1<<32 + 2, math.MaxInt / 2, math.MaxInt/2 + 1, math.MaxInt - 1, math.MaxInt,
}

// numbers is a row of numbers.
type numbers uint64

// next is a number from 0 below n.
func (r *numbers) next(n int) int {
	*r = *r*6364136223846793005 + 1442695040888963407
	return int(uint64(*r) >> 33 % uint64(n))
}

// one is one of some numbers.
func (r *numbers) one(of ...int) int {
	return of[r.next(len(of))]
}

// is tells whether n is from low to high.
func is(n, low, high int) bool {
	return low <= n && n <= high
}

// system is a config of as many partitions as labels; partition i has the frames 3 i, 3 i + 1, 3 i + 2, and device i is its own.
func system(grants []api.Grant, labels ...api.Label) api.Config {
	c := api.Config{Frames: 64, Major: 8, Sectors: 32, Quota: 16, Quiet: 2, Grants: grants}
	for i, l := range labels {
		c.Parts = append(c.Parts, api.Part{Label: l, Frames: []int{3 * i, 3*i + 2, 3*i + 1}, First: 8 * i, Count: 8})
		c.Devices = append(c.Devices, api.Device{Part: i, Pool: []int{12 + 3*i, 13 + 3*i, 14 + 3*i}})
		c.Windows = append(c.Windows, api.Window{Part: i, Start: 2 * i, Len: 2, Deliver: 2 * i})
	}
	return c
}

// apart are labels of which none dominates another.
func apart() []api.Label {
	return []api.Label{{Level: 3, Cats: 1}, {Level: 2, Cats: 2}, {Level: 1, Cats: 4}, {Level: 0, Cats: 8}}
}

// made is a config that may be, of a few grants; where it has none, and one label in two categories, little flows.
func made(r *numbers) api.Config {
	c := api.Config{Frames: 40 + r.next(25), Major: 20 + r.next(45), Sectors: 64, Quota: 4 + r.next(61), Quiet: 1 + r.next(8)}
	free := make([]int, c.Frames)
	for i := range free {
		k := r.next(i + 1)
		free[i], free[k] = free[k], i
	}
	take := func(n int) []int {
		row := free[:n:n]
		free = free[n:]
		return row
	}
	parts := 1 + r.next(4)
	for i := range parts {
		c.Parts = append(c.Parts, api.Part{Label: api.Label{Level: r.one(3-i, 3-i, r.next(4)), Cats: r.one(1<<i, 1<<i, r.next(16))}, Frames: take(1 + r.next(4)), First: 48 - 16*i, Count: r.next(17)})
	}
	for range 1 + r.next(4) {
		c.Devices = append(c.Devices, api.Device{Part: r.next(parts), Pool: take(2 + r.next(4))})
	}
	for i := range parts {
		w := api.Window{Part: i, Start: 5 * i, Len: 1 + r.next(5)}
		w.Deliver = w.Start + r.next(w.Len)
		c.Windows = append(c.Windows, w)
	}
	often := r.one(2, 5, 20)
	for i, p := range c.Parts {
		for _, f := range p.Frames {
			if to := r.next(often * parts); to < parts && to != i {
				c.Grants = append(c.Grants, api.Grant{Frame: f, To: to, Write: r.next(2) == 0})
			}
		}
	}
	return c
}

// over tells whether a label dominates another.
func over(a, b api.Label) bool {
	return a.Level >= b.Level && a.Cats|b.Cats == a.Cats
}

// hears tells of which partitions one may hear: of those below it, and of those that may write a frame that it may read; and of those of which these may hear.
func hears(c api.Config, to int) []bool {
	seen := make([]bool, 4)
	seen[to] = true
	for range 8 {
		for next, p := range c.Parts {
			for from, q := range c.Parts {
				if seen[next] && (over(p.Label, q.Label) || meet(c, from, next)) {
					seen[from] = true
				}
			}
		}
	}
	return seen
}

// meet tells whether there is a frame that one partition may write and another may read.
func meet(c api.Config, writer, reader int) bool {
	for f := range c.Frames {
		if reaches(c, writer, f, true) && reaches(c, reader, f, false) {
			return true
		}
	}
	return false
}

// reaches tells whether a partition may read a frame, or write it.
func reaches(c api.Config, part, frame int, write bool) bool {
	return slices.Contains(c.Parts[part].Frames, frame) || slices.ContainsFunc(c.Grants, func(g api.Grant) bool {
		return g.Frame == frame && g.To == part && (g.Write || !write)
	})
}

// wrongs are configs that may not be.
func wrongs() []api.Config {
	rows := []api.Config{{}}
	for _, turn := range []func(c *api.Config){
		func(c *api.Config) { c.Frames = 20 },
		func(c *api.Config) { c.Frames = 65 },
		func(c *api.Config) { c.Parts = nil },
		func(c *api.Config) { c.Parts = append(c.Parts, c.Parts[0]) },
		func(c *api.Config) { c.Parts[2].Label.Cats = 16 },
		func(c *api.Config) { c.Parts[2].Label.Level = -1 },
		func(c *api.Config) { c.Parts[1].Frames = nil },
		func(c *api.Config) { c.Parts[1].Frames[1] = 0 },
		func(c *api.Config) { c.Parts[1].Frames[1] = math.MinInt },
		func(c *api.Config) { c.Devices = nil },
		func(c *api.Config) { c.Devices[1].Part = 4 },
		func(c *api.Config) { c.Devices[1].Pool = []int{15} },
		func(c *api.Config) { c.Major = 7 },
		func(c *api.Config) { c.Windows[2].Part = 0 },
		func(c *api.Config) { c.Windows[3].Start = 5 },
		func(c *api.Config) { c.Grants = []api.Grant{{Frame: 0, To: 0}} },
		func(c *api.Config) { c.Grants = []api.Grant{{Frame: 0, To: 4}} },
		func(c *api.Config) { c.Grants = []api.Grant{{Frame: 12, To: 1}} },
		func(c *api.Config) { c.Grants = []api.Grant{{Frame: math.MaxInt, To: 1}} },
		func(c *api.Config) { c.Grants = []api.Grant{{Frame: 0, To: 1}, {Frame: 0, To: 1, Write: true}} },
		func(c *api.Config) { c.Sectors = 31 },
		func(c *api.Config) { c.Quota = 65 },
		func(c *api.Config) { c.Quiet = 0 },
		func(c *api.Config) { c.Quiet = 9 },
	} {
		c := system(nil, apart()...)
		turn(&c)
		rows = append(rows, c)
	}
	return rows
}
