package view_test

import (
	"reflect"
	"slices"
	"strings"
	"testing"

	"caisson/api"
	"caisson/view"
)

// left tells of a script which of its steps stay for a partition, one letter a step: x stays, - does nothing; it fails where a step is neither.
func left(t *testing.T, c api.Config, steps []api.Step, part int) string {
	t.Helper()
	got, e := view.Purge(c, steps, part)
	if e != api.OK || len(got) != len(steps) {
		t.Fatalf("P23.2: part %d: %d steps of %d, %d", part, len(got), len(steps), e)
	}
	var b strings.Builder
	for i, s := range got {
		switch {
		case s == steps[i] && s != (api.Step{}):
			b.WriteByte('x')
		case s == (api.Step{}):
			b.WriteByte('-')
		default:
			t.Fatalf("P23.2: part %d: step %d of %#v is %#v", part, i, steps, s)
		}
	}
	return b.String()
}

// purges holds what is left of a script, for each partition, against what is wanted.
func purges(t *testing.T, what string, c api.Config, steps []api.Step, want ...string) {
	t.Helper()
	for part, row := range want {
		if got := left(t, c, steps, part); got != row {
			t.Errorf("P23.2: %s: part %d: %s, want %s", what, part, got, row)
		}
	}
}

// dmas are a request of each of so many devices.
func dmas(n int) []api.Step {
	var row []api.Step
	for device := range n {
		row = append(row, api.Step{Kind: api.StepDma, Device: device, A: 5, B: 6})
	}
	return row
}

// move is a move of a device.
func move(device, to int) api.Step {
	return api.Step{Kind: api.StepMove, Device: device, A: to}
}

// tick is a tick, with numbers that say nothing.
func tick() api.Step {
	return api.Step{Kind: api.StepTick, Part: 9, Device: 9, Data: "tick"}
}

func TestPurgeOfEachKind(t *testing.T) {
	// 0 flows to 1, 1 to 2; 3 is alone.
	c := system([]api.Grant{{Frame: 0, To: 1}, {Frame: 3, To: 2}}, apart()...)
	of := func(kind int) []api.Step {
		var row []api.Step
		for part := range 4 {
			for device := range 4 {
				row = append(row, api.Step{Kind: kind, Part: part, Device: device, A: 1, B: 2, C: 3, Data: "d"})
			}
		}
		return row
	}
	for kind := -3; kind < 20; kind++ {
		all := strings.Repeat("x", 16)
		want := []string{all, all, all, all}
		switch {
		case kind == api.StepMove:
			// All stay here too, but the devices are nobody's behind them, which other tests look at.
		case kind == api.StepDma || kind == api.StepRaise:
			want = []string{strings.Repeat("x---", 4), strings.Repeat("xx--", 4), strings.Repeat("xxx-", 4), strings.Repeat("---x", 4)}
		case is(kind, api.StepMap, api.StepRing):
			want = []string{"xxxx------------", "xxxxxxxx--------", "xxxxxxxxxxxx----", "------------xxxx"}
		}
		purges(t, "kind "+string(rune('a'+kind+3)), c, of(kind), want...)
	}
}

func TestPurgeOfNoKind(t *testing.T) {
	c := system(nil, apart()...)
	for _, n := range append([]int{-1, 17, 18}, far...) {
		if is(n, 0, 16) {
			continue
		}
		steps := []api.Step{{Kind: n}, {Kind: n, Part: 1, Device: 2, A: 3, B: 4, C: 5, Data: "x"}, {Kind: n, Part: n, Device: n, A: n, B: n, C: n}}
		purges(t, "no kind", c, steps, "xxx", "xxx", "xxx", "xxx")
	}
	nothings := []api.Step{{Part: 1}, {Part: -4, Device: 17}, {Data: "x"}, {A: 1, B: 2, C: 3}, {Device: 1}}
	purges(t, "StepNone", c, nothings, "xxxxx", "xxxxx", "xxxxx", "xxxxx")
}

func TestPurgeOfNoPartitionAndNoDevice(t *testing.T) {
	// Each flows to each, so that what is nobody's alone does nothing.
	for parts := 1; parts <= 4; parts++ {
		c := system(nil, make([]api.Label, parts)...)
		for _, n := range append([]int{parts, parts + 1, 4, 5}, far...) {
			for kind := range api.StepRing + 1 {
				ofPart := api.Step{Kind: kind, Part: n, Data: "x"}
				ofDevice := api.Step{Kind: kind, Device: n, Data: "x"}
				want := []byte("xx")
				if kind >= api.StepMap {
					want[0] = '-'
				}
				if kind == api.StepDma || kind == api.StepRaise {
					want[1] = '-'
				}
				if kind != api.StepMove {
					purges(t, "none such", c, []api.Step{ofPart, ofDevice}, string(want))
				}
			}
			purges(t, "a move of no device", c, []api.Step{move(n, 0), {Kind: api.StepDma, Device: 0}}, "xx")
			purges(t, "a move to no partition", c, []api.Step{move(0, n), {Kind: api.StepDma, Device: 0}}, "xx")
		}
	}
}

func TestPurgeGoesByTheOwnerOfThatStep(t *testing.T) {
	c := system([]api.Grant{{Frame: 3, To: 2}}, apart()...)
	c.Quiet = 3
	ask := []api.Step{{Kind: api.StepDma, A: 1, B: 1}, {Kind: api.StepRaise, A: 2}}
	purges(t, "a move, and a refused one", c, slices.Concat(ask, []api.Step{move(0, 1)}, ask, []api.Step{tick(), move(0, 3), tick()}, ask, []api.Step{tick()}, ask),
		"xx"+"x"+"--"+"xxx"+"--"+"x"+"--",
		"--"+"x"+"--"+"xxx"+"--"+"x"+"xx",
		"--"+"x"+"--"+"xxx"+"--"+"x"+"xx",
		"--"+"x"+"--"+"xxx"+"--"+"x"+"--")
	purges(t, "there and back", c, slices.Concat([]api.Step{move(0, 3), tick(), tick(), tick()}, ask, []api.Step{move(0, 0), tick(), tick()}, ask, []api.Step{tick()}, ask),
		"xxxx"+"--"+"xxx"+"--"+"x"+"xx",
		"xxxx"+"--"+"xxx"+"--"+"x"+"--",
		"xxxx"+"--"+"xxx"+"--"+"x"+"--",
		"xxxx"+"xx"+"xxx"+"--"+"x"+"--")
	purges(t, "to its own", c, slices.Concat([]api.Step{move(0, 0)}, ask, []api.Step{tick(), tick()}, ask, []api.Step{tick()}, ask), "x"+"--"+"xx"+"--"+"x"+"xx")
	purges(t, "two at two times", c, slices.Concat([]api.Step{move(0, 1), tick(), move(1, 0)}, dmas(4), []api.Step{tick(), tick()}, dmas(4), []api.Step{tick()}, dmas(4)),
		"xxx"+"----"+"xx"+"----"+"x"+"-x--",
		"xxx"+"----"+"xx"+"x---"+"x"+"x---",
		"xxx"+"--x-"+"xx"+"x-x-"+"x"+"x-x-",
		"xxx"+"---x"+"xx"+"---x"+"x"+"---x")
	purges(t, "refused moves", c, slices.Concat([]api.Step{move(0, 4), move(0, -1), move(4, 1), move(-1, 1)}, dmas(4), []api.Step{tick(), tick(), tick()}, dmas(4)),
		"xxxx"+"x---"+"xxx"+"x---",
		"xxxx"+"-x--"+"xxx"+"-x--",
		"xxxx"+"-xx-"+"xxx"+"-xx-")
}

func TestPurgeOfEachQuiet(t *testing.T) {
	for quiet := 1; quiet <= 8; quiet++ {
		c := system(nil, apart()...)
		c.Quiet = quiet
		steps := []api.Step{move(2, 3)}
		for range quiet + 1 {
			steps = append(steps, api.Step{Kind: api.StepRaise, Device: 2}, tick())
		}
		steps = append(steps, api.Step{Kind: api.StepRaise, Device: 2})
		quietOnes := "x" + strings.Repeat("-x", quiet)
		purges(t, "quiet", c, steps, quietOnes+"-x-", quietOnes+"-x-", quietOnes+"-x-", quietOnes+"xxx")
	}
}

// TestPurgeOfOtherPartsOfAStep: the Part of a device's request says nothing, nor does the Device of a call.
func TestPurgeOfOtherPartsOfAStep(t *testing.T) {
	c := system(nil, apart()...)
	steps := []api.Step{
		{Kind: api.StepDma, Part: 1, Device: 0}, {Kind: api.StepRaise, Part: 1, Device: 0},
		{Kind: api.StepDma, Part: -1, Device: 0}, {Kind: api.StepRaise, Part: 7, Device: 0},
		{Kind: api.StepReg, Part: 0, Device: 1}, {Kind: api.StepMap, Part: 0, Device: 9}, {Kind: api.StepUnmap, Part: 0, Device: -1},
		{Kind: api.StepMove, Part: 1, Device: 0, A: 1}, {Kind: api.StepReg, Part: 0, Device: 0},
	}
	purges(t, "others", c, steps, "xxxxxxxxx", "-------x-")
}

// plainly is what Purge is to answer, by numbers of its own.
func plainly(c api.Config, steps []api.Step, part int) []api.Step {
	heard := hears(c, part)
	var owners, moving []int
	for _, d := range c.Devices {
		owners, moving = append(owners, d.Part), append(moving, 0)
	}
	kept := slices.Clone(steps)
	ticks := 0
	for i, s := range steps {
		device := is(s.Device, 0, len(owners)-1)
		switch s.Kind {
		case -1, 0, 17:
		case 1:
			ticks++
			for d := range moving {
				if ticks <= api.MaxTick && moving[d] > 0 {
					moving[d]--
				}
			}
		case 2:
			if device && moving[s.Device] == 0 && is(s.A, 0, len(c.Parts)-1) {
				owners[s.Device], moving[s.Device] = s.A, c.Quiet
			}
		case 3, 4:
			if !device || moving[s.Device] > 0 || !heard[owners[s.Device]] {
				kept[i] = api.Step{}
			}
		default:
			if !is(s.Part, 0, len(c.Parts)-1) || !heard[s.Part] {
				kept[i] = api.Step{}
			}
		}
	}
	return kept
}

func TestPurgeOfManyScripts(t *testing.T) {
	r := numbers(232)
	came := map[[2]int]int{}
	for range 300 {
		c := made(&r)
		steps := scriptOf(&r, c, 300)
		for part := range c.Parts {
			got, e := view.Purge(c, steps, part)
			if want := plainly(c, steps, part); e != api.OK || !slices.Equal(got, want) {
				t.Fatalf("P23.2: Purge(%#v, %#v, %d) = %#v, %d", c, steps, part, got, e)
			}
			for i, s := range steps {
				if got[i] == s {
					came[[2]int{s.Kind, 1}]++
				} else {
					came[[2]int{s.Kind, 0}]++
				}
			}
			// Of a beginning it is a beginning; of what is left all is left.
			n := r.next(len(steps) + 1)
			begun, _ := view.Purge(c, steps[:n], part)
			again, _ := view.Purge(c, got, part)
			if !slices.Equal(begun, got[:n]) || !slices.Equal(again, got) {
				t.Fatalf("P23.2: Purge(%#v, %#v, %d)", c, steps, part)
			}
		}
	}
	for kind := -1; kind <= 17; kind++ {
		stays := kind < api.StepDma || kind > api.StepRing
		if came[[2]int{kind, 1}] < 100 || came[[2]int{kind, 0}] < 100 != stays {
			t.Errorf("P23.2: kind %d: %d and %d", kind, came[[2]int{kind, 1}], came[[2]int{kind, 0}])
		}
	}
}

func TestPurgeOfNothing(t *testing.T) {
	c := system(nil, apart()...)
	for _, steps := range [][]api.Step{nil, {}} {
		if got, e := view.Purge(c, steps, 3); len(got) != 0 || e != api.OK {
			t.Errorf("P23.2: %v, %d", got, e)
		}
	}
}

func TestPurgeRefuses(t *testing.T) {
	steps := []api.Step{{Kind: api.StepTick}, {Kind: api.StepRead, B: 1}}
	for parts := 1; parts <= 4; parts++ {
		c := system(nil, apart()[:parts]...)
		for _, n := range append([]int{parts, parts + 1, 4, 5}, far...) {
			for _, row := range [][]api.Step{nil, steps} {
				if got, e := view.Purge(c, row, n); got != nil || e != api.ErrViewForm {
					t.Errorf("P23.2: part %d of %d: %v, %d", n, parts, got, e)
				}
			}
		}
	}
	for i, c := range wrongs() {
		for part := -1; part < 5; part++ {
			if got, e := view.Purge(c, steps, part); got != nil || e != api.ErrViewForm {
				t.Errorf("P23.2: row %d, part %d: %v, %d", i, part, got, e)
			}
		}
	}
}

// TestPurgeBehindTheLastTick: a tick behind the last one of all is none, so that a move ends no more.
func TestPurgeBehindTheLastTick(t *testing.T) {
	c := system(nil, apart()...)
	c.Quiet = 1
	ask := []api.Step{{Kind: api.StepDma}, {Kind: api.StepDma, Device: 1}}
	steps := slices.Concat(slices.Repeat([]api.Step{tick()}, api.MaxTick-2), []api.Step{move(0, 1), tick()}, ask, []api.Step{move(0, 2), tick()}, ask, []api.Step{move(1, 2)}, slices.Repeat([]api.Step{tick()}, 9), ask)
	before := strings.Repeat("x", api.MaxTick-2)
	purges(t, "the last tick", c, steps,
		before+"xx"+"--"+"xx"+"--"+"x"+"xxxxxxxxx"+"--",
		before+"xx"+"xx"+"xx"+"-x"+"x"+"xxxxxxxxx"+"--",
		before+"xx"+"--"+"xx"+"x-"+"x"+"xxxxxxxxx"+"x-",
		before+"xx"+"--"+"xx"+"--"+"x"+"xxxxxxxxx"+"--")
}

// roomy is a config whose lists have room behind them, in which stand things that may not be.
func roomy() api.Config {
	c := system([]api.Grant{{Frame: 0, To: 1}, {Frame: 5, To: 2, Write: true}}, apart()...)
	c.Parts = spare(c.Parts, api.Part{First: -1})
	c.Devices = spare(c.Devices, api.Device{Part: 77})
	c.Windows = spare(c.Windows, api.Window{Len: -1})
	c.Grants = spare(c.Grants, api.Grant{Frame: 9, To: 2})
	for i := range c.Parts {
		c.Parts[i].Frames = spare(c.Parts[i].Frames, 60)
		c.Devices[i].Pool = spare(c.Devices[i].Pool, 61)
	}
	return c
}

// spare is a copy of a list with room behind it, and what stands there.
func spare[T any](row []T, with T) []T {
	n := len(row)
	return append(slices.Clone(row), with, with, with)[:n]
}

// whole is a copy of a list and of the spare room behind it.
func whole[T any](row []T) []T {
	return slices.Clone(row[:cap(row)])
}

// opened is a copy of all that a config holds, spare room included.
func opened(c api.Config) api.Config {
	c.Parts, c.Devices, c.Windows, c.Grants = whole(c.Parts), whole(c.Devices), whole(c.Windows), whole(c.Grants)
	for i := range c.Parts {
		c.Parts[i].Frames = whole(c.Parts[i].Frames)
	}
	for i := range c.Devices {
		c.Devices[i].Pool = whole(c.Devices[i].Pool)
	}
	return c
}

func TestNothingIsChangedAndNothingShared(t *testing.T) {
	r := numbers(233)
	c := roomy()
	steps := spare(scriptOf(&r, c, 200), api.Step{Kind: api.StepRead, Data: "spare"})
	wasConfig, wasSteps := opened(c), whole(steps)
	for part := range 4 {
		want := plainly(c, steps, part)
		one, _ := view.Purge(c, steps, part)
		other, _ := view.Purge(c, steps, part)
		table(c)
		all := one[:cap(one)]
		for i := range all {
			all[i] = api.Step{Kind: -9}
		}
		if !slices.Equal(other, want) {
			t.Errorf("R4: part %d: %#v, want %#v", part, other, want)
		}
		if now := opened(c); !reflect.DeepEqual(now, wasConfig) {
			t.Fatalf("R4: %#v is %#v now", wasConfig, now)
		}
		if now := whole(steps); !slices.Equal(now, wasSteps) {
			t.Fatalf("R4: %#v is %#v now", wasSteps, now)
		}
	}
}

// TestWhatWasAnsweredStays: what a caller turns behind a call turns no answer.
func TestWhatWasAnsweredStays(t *testing.T) {
	r := numbers(234)
	c := roomy()
	steps := scriptOf(&r, c, 200)
	got, _ := view.Purge(c, steps, 1)
	was := slices.Clone(got)
	for i := range steps {
		steps[i] = api.Step{Kind: api.StepRing, Part: 1}
	}
	c.Grants[0].To, c.Devices[1].Part = 3, 0
	if !slices.Equal(got, was) {
		t.Errorf("R4: %#v, was %#v", got, was)
	}
}
