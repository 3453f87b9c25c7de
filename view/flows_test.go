package view_test

import (
	"reflect"
	"sync"
	"testing"

	"caisson/api"
	"caisson/view"
)

// table is the answers of Flows of each two partitions, a row for each from: x is yes.
func table(c api.Config) []string {
	var rows []string
	for from := range c.Parts {
		row := ""
		for to := range c.Parts {
			if view.Flows(c, from, to) {
				row += "x"
			} else {
				row += "-"
			}
		}
		rows = append(rows, row)
	}
	return rows
}

// flows holds the answers of a config against those that are wanted.
func flows(t *testing.T, what string, c api.Config, want ...string) {
	t.Helper()
	if got := table(c); !reflect.DeepEqual(got, want) {
		t.Errorf("P23.1: %s: %v, want %v", what, got, want)
	}
}

func TestFlowsByLabels(t *testing.T) {
	flows(t, "alone", system(nil, api.Label{}), "x")
	flows(t, "one label", system(nil, api.Label{Level: 2, Cats: 5}, api.Label{Level: 2, Cats: 5}), "xx", "xx")
	flows(t, "levels", system(nil, api.Label{Level: 1}, api.Label{Level: 0}, api.Label{Level: 3}), "x-x", "xxx", "--x")
	flows(t, "categories", system(nil, api.Label{Cats: 3}, api.Label{Cats: 1}, api.Label{Cats: 15}, api.Label{Cats: 4}), "x-x-", "xxx-", "--x-", "--xx")
	flows(t, "neither", system(nil, apart()...), "x---", "-x--", "--x-", "---x")
	flows(t, "a level without the categories", system(nil, api.Label{Level: 3, Cats: 7}, api.Label{Level: 0, Cats: 8}), "x-", "-x")
	flows(t, "categories without the level", system(nil, api.Label{Level: 2, Cats: 15}, api.Label{Level: 3, Cats: 1}), "x-", "-x")
}

func TestFlowsByGrants(t *testing.T) {
	grants := func(g ...api.Grant) api.Config { return system(g, apart()...) }
	flows(t, "0 lends to 2", grants(api.Grant{Frame: 0, To: 2}), "x-x-", "-x--", "--x-", "---x")
	flows(t, "0 lends its last frame to 2", grants(api.Grant{Frame: 1, To: 2}), "x-x-", "-x--", "--x-", "---x")
	flows(t, "0 lends to 2 with Write", grants(api.Grant{Frame: 0, To: 2, Write: true}), "x-x-", "-x--", "x-x-", "---x")
	flows(t, "3 lends to 1 with Write", grants(api.Grant{Frame: 10, To: 1, Write: true}), "x---", "-x-x", "--x-", "-x-x")
	flows(t, "both lend", grants(api.Grant{Frame: 3, To: 2}, api.Grant{Frame: 6, To: 1}), "x---", "-xx-", "-xx-", "---x")
	flows(t, "the second grant alone is with Write", grants(api.Grant{Frame: 0, To: 1}, api.Grant{Frame: 2, To: 1, Write: true}), "xx--", "xx--", "--x-", "---x")
	flows(t, "one frame to all", grants(api.Grant{Frame: 4, To: 0}, api.Grant{Frame: 4, To: 2}, api.Grant{Frame: 4, To: 3}), "x---", "xxxx", "--x-", "---x")
}

func TestFlowsByARow(t *testing.T) {
	grants := func(g ...api.Grant) api.Config { return system(g, apart()...) }
	flows(t, "3 to 2 to 1 to 0", grants(api.Grant{Frame: 9, To: 2}, api.Grant{Frame: 6, To: 1}, api.Grant{Frame: 3, To: 0}), "x---", "xx--", "xxx-", "xxxx")
	flows(t, "0 to 1 to 2 to 3", grants(api.Grant{Frame: 0, To: 1}, api.Grant{Frame: 3, To: 2}, api.Grant{Frame: 6, To: 3}), "xxxx", "-xxx", "--xx", "---x")
	flows(t, "0 to 2 to 1 to 3", grants(api.Grant{Frame: 0, To: 2}, api.Grant{Frame: 6, To: 1}, api.Grant{Frame: 3, To: 3}), "xxxx", "-x-x", "-xxx", "---x")
	flows(t, "a ring of four", grants(api.Grant{Frame: 0, To: 1}, api.Grant{Frame: 3, To: 2}, api.Grant{Frame: 6, To: 3}, api.Grant{Frame: 9, To: 0}), "xxxx", "xxxx", "xxxx", "xxxx")
	flows(t, "two rings", grants(api.Grant{Frame: 0, To: 3, Write: true}, api.Grant{Frame: 3, To: 2}, api.Grant{Frame: 6, To: 1}), "x--x", "-xx-", "-xx-", "x--x")
	flows(t, "1 and 2 at a frame of 0's", grants(api.Grant{Frame: 0, To: 1, Write: true}, api.Grant{Frame: 0, To: 2}), "xxx-", "xxx-", "--x-", "---x")
	// 1 to 0 by what 0 lends with Write, 0 to 2 by labels, 2 to 3 by a grant.
	c := grants(api.Grant{Frame: 2, To: 1, Write: true}, api.Grant{Frame: 7, To: 3})
	c.Parts[0].Label, c.Parts[2].Label = api.Label{Level: 1, Cats: 4}, api.Label{Level: 2, Cats: 4}
	flows(t, "all three ways", c, "xxxx", "xxxx", "--xx", "---x")
}

func TestFlowsOfManyConfigs(t *testing.T) {
	r := numbers(231)
	came := map[bool]int{}
	for range 3000 {
		c := made(&r)
		for to := range c.Parts {
			want := hears(c, to)
			for from := range c.Parts {
				if got := view.Flows(c, from, to); got != want[from] {
					t.Fatalf("P23.1: Flows(%#v, %d, %d) = %t", c, from, to, got)
				}
				came[want[from]]++
			}
		}
	}
	if came[true] < 3000 || came[false] < 3000 {
		t.Errorf("P23.1: %v", came)
	}
}

func TestFlowsOfNoPartition(t *testing.T) {
	for parts := 1; parts <= 4; parts++ {
		c := system(nil, make([]api.Label, parts)...)
		for from := range parts {
			for to := range parts {
				if !view.Flows(c, from, to) {
					t.Errorf("P23.1: %d to %d of %d", from, to, parts)
				}
			}
		}
		for _, n := range append([]int{parts, parts + 1, 4, 5}, far...) {
			for _, k := range []int{0, parts - 1, n} {
				if view.Flows(c, n, k) || view.Flows(c, k, n) {
					t.Errorf("P23.1: %d and %d of %d", n, k, parts)
				}
			}
		}
	}
}

func TestFlowsOfNoConfig(t *testing.T) {
	for i, c := range wrongs() {
		for from := -1; from < 5; from++ {
			for to := -1; to < 5; to++ {
				if view.Flows(c, from, to) {
					t.Errorf("P23.1: row %d: %d to %d", i, from, to)
				}
			}
		}
	}
}

func TestFlowsFromSeveralGoroutines(t *testing.T) {
	c := system([]api.Grant{{Frame: 0, To: 1, Write: true}, {Frame: 3, To: 2}}, apart()...)
	steps := []api.Step{{Kind: api.StepDma, Device: 3}, {Kind: api.StepMove, Device: 3, A: 1}, {Kind: api.StepTick}, {Kind: api.StepTick}, {Kind: api.StepDma, Device: 3}}
	want := table(c)
	var group sync.WaitGroup
	for range 8 {
		group.Go(func() {
			for range 200 {
				left, e := view.Purge(c, steps, 0)
				if got := table(c); !reflect.DeepEqual(got, want) || e != api.OK || left[0] != (api.Step{}) || left[4] != steps[4] {
					t.Errorf("R5: %v, %v, %d", got, left, e)
				}
			}
		})
	}
	group.Wait()
}
