package product_test

import (
	"math"
	"reflect"
	"strings"
	"sync"
	"testing"

	"caisson/api"
	"caisson/product"
)

// far are numbers that are no partition and no kind of step.
var far = []int{
	math.MinInt, math.MinInt + 1, -1 << 32, math.MinInt32, -256, -16, -5, -4, -3, -2, -1,
	17, 18, 64, 255, 256, 257, 1 << 16, math.MaxInt32, math.MaxUint32, 1 << 32, 1<<32 + 1, 1<<32 + 5, math.MaxInt - 1, math.MaxInt,
}

// trio is a config of three partitions: 0 is alone, where there is no grant, and 2's label dominates 1's. Device 0 is 0's, device 1 is 1's.
func trio(grants ...api.Grant) api.Config {
	return api.Config{
		Frames: 16,
		Parts: []api.Part{
			{Label: api.Label{Level: 1, Cats: 1}, Frames: []int{2, 0, 1}, First: 0, Count: 6},
			{Label: api.Label{Cats: 2}, Frames: []int{4, 3}, First: 6, Count: 4},
			{Label: api.Label{Level: 2, Cats: 2}, Frames: []int{5}, First: 10, Count: 6},
		},
		Devices: []api.Device{{Part: 0, Pool: []int{8, 9, 10}}, {Part: 1, Pool: []int{11, 12}}},
		Major:   10,
		Windows: []api.Window{{Part: 0, Start: 0, Len: 4, Deliver: 1}, {Part: 1, Start: 4, Len: 3, Deliver: 6}, {Part: 2, Start: 8, Len: 2, Deliver: 8}},
		Grants:  grants,
		Sectors: 16,
		Quota:   8,
		Quiet:   3,
	}
}

// memory is the bytes of so many frames, 0 but for those that are told from a place on.
func memory(frames int, from map[int]string) string {
	b := make([]byte, frames*api.FrameSize)
	for at, s := range from {
		copy(b[at:], s)
	}
	return string(b)
}

// ticks are so many ticks, with numbers that say nothing.
func ticks(n int) []api.Step {
	var row []api.Step
	for range n {
		row = append(row, api.Step{Kind: api.StepTick, Part: 2, Device: 9, A: 9, B: 9, C: 9, Data: "tick"})
	}
	return row
}

// line is a step with what is to be told of it.
type line struct {
	step api.Step
	want api.Answer
}

// refused is what is told of a step that is.
func refused(e api.Errno) api.Answer {
	return api.Answer{Code: int(e)}
}

// bare is a row, or nil if it is empty: the two are one.
func bare[T any](row []T) []T {
	return append([]T(nil), row...)
}

// bareAnswers are answers with nil for each empty list.
func bareAnswers(row []api.Answer) []api.Answer {
	row = bare(row)
	for i := range row {
		row[i].Irqs, row[i].Faults = bare(row[i].Irqs), bare(row[i].Faults)
	}
	return row
}

// sameAnswers tells whether two rows of answers are the same.
func sameAnswers(a, b []api.Answer) bool {
	return reflect.DeepEqual(bareAnswers(a), bareAnswers(b))
}

// sameViews tells whether two views are the same.
func sameViews(a, b api.View) bool {
	a.Inbox, a.Queue = bare(a.Inbox), bare(a.Queue)
	b.Inbox, b.Queue = bare(b.Inbox), bare(b.Queue)
	return reflect.DeepEqual(a, b)
}

// isNothing tells whether the rows and the view of a refusal are zero.
func isNothing(told []api.Answer, seen api.View) bool {
	return len(told) == 0 && sameViews(seen, api.View{})
}

// tells holds what a partition is told by a script, and sees behind it, against what is wanted.
func tells(t *testing.T, what string, c api.Config, steps []api.Step, part int, want []api.Answer, end api.View) {
	t.Helper()
	told, seen, e := product.Answers(c, steps, part)
	if e != api.OK || !sameAnswers(told, want) {
		t.Errorf("P24.1: %s: part %d is told %#v, %d, want %#v", what, part, told, e, want)
	}
	if !sameViews(seen, end) {
		t.Errorf("P24.1: %s: part %d sees %#v, want %#v", what, part, seen, end)
	}
}

// plays holds a script of lines against what each partition is to be told by it, and to see behind it.
func plays(t *testing.T, what string, c api.Config, lines []line, ends ...api.View) {
	t.Helper()
	var steps []api.Step
	for _, l := range lines {
		steps = append(steps, l.step)
	}
	for part, end := range ends {
		var want []api.Answer
		for _, l := range lines {
			if l.step.Part == part && l.step.Kind >= 5 && l.step.Kind <= 16 {
				want = append(want, l.want)
			}
		}
		tells(t, what, c, steps, part, want, end)
	}
}

func TestAnswersOfEachCall(t *testing.T) {
	chain := "\x01\x01\x00\x00\x00\x00\x01\x00" + "\x00\xff\x05\x00\x20\x00\x01\x00" + strings.Repeat("\x02\xff\x00\x00\x00\x00\x00\x00", 6)
	plays(t, "each call", trio(), []line{
		{api.Step{Kind: api.StepWrite, A: 1, Data: "abcd"}, api.Answer{}},
		{api.Step{Kind: api.StepWrite, Part: 1, A: 4 * 64, Data: "mine"}, api.Answer{}},
		{api.Step{Kind: api.StepWrite, Part: 1, A: 1, Data: "mine"}, refused(api.ErrMonitorFrame)},
		{api.Step{Kind: api.StepRead, A: 0, B: 5}, api.Answer{Data: "\x00abcd"}},
		{api.Step{Kind: api.StepRead, Part: 2, A: 0, B: 5}, refused(api.ErrMonitorFrame)},
		{api.Step{Kind: api.StepMap, A: 3, B: 0, C: 3}, api.Answer{}},
		{api.Step{Kind: api.StepMap, Part: 1, A: 3, B: 4, C: 3}, refused(api.ErrMonitorOwner)},
		{api.Step{Kind: api.StepDma, A: 3*64 + 2, C: 1, Data: "XY"}, api.Answer{}},
		{api.Step{Kind: api.StepDma, A: 3*64 + 2, B: 2}, api.Answer{}},
		{api.Step{Kind: api.StepDma, A: 9, C: 1, Data: "XY"}, api.Answer{}},
		{api.Step{Kind: api.StepRead, A: 0, B: 5}, api.Answer{Data: "\x00aXYd"}},
		{api.Step{Kind: api.StepUnmap, A: 3}, api.Answer{}},
		{api.Step{Kind: api.StepUnmap, A: 3}, refused(api.ErrIommuNone)},
		{api.Step{Kind: api.StepFaults, Part: 1}, api.Answer{}},
		{api.Step{Kind: api.StepFaults}, api.Answer{Faults: []api.Fault{{Iova: 9, Write: true, Code: 702}}}},
		{api.Step{Kind: api.StepFaults}, api.Answer{}},
		{api.Step{Kind: api.StepVector, A: 2, B: 1}, api.Answer{}},
		{api.Step{Kind: api.StepVector, Part: 1, Device: 1, A: 7, B: 1}, api.Answer{}},
		{api.Step{Kind: api.StepRaise, A: 2}, api.Answer{}},
		{api.Step{Kind: api.StepTick}, api.Answer{}},
		{api.Step{Kind: api.StepMask, A: 2, B: 1}, api.Answer{}},
		{api.Step{Kind: api.StepMask, A: 3, B: 1}, refused(api.ErrIrqNone)},
		{api.Step{Kind: api.StepIrqs}, api.Answer{Irqs: []api.Irq{{Tick: 1, Vector: 2}}}},
		{api.Step{Kind: api.StepIrqs}, api.Answer{}},
		{api.Step{Kind: api.StepReg, A: 7, B: 99, C: 1}, api.Answer{}},
		{api.Step{Kind: api.StepReg, A: 7}, api.Answer{Num: 99}},
		{api.Step{Kind: api.StepReg, Part: 1, Device: 1, A: 7}, api.Answer{}},
		{api.Step{Kind: api.StepReg, Device: 5}, refused(api.ErrMonitorForm)},
		{api.Step{Kind: api.StepSend, Part: 1, A: 2, Data: "up"}, api.Answer{}},
		{api.Step{Kind: api.StepSend, Part: 1, A: 2, Data: "too"}, api.Answer{}},
		{api.Step{Kind: api.StepSend, Part: 2, A: 1, Data: "down"}, refused(api.ErrNicLabel)},
		{api.Step{Kind: api.StepReceive, Part: 2}, api.Answer{Num: 1, Data: "up"}},
		{api.Step{Kind: api.StepReceive, Part: 1}, refused(api.ErrNicNone)},
		{api.Step{Kind: api.StepWrite, A: 64, Data: chain}, api.Answer{}},
		{api.Step{Kind: api.StepRing, A: 64}, api.Answer{Num: 2}},
		{api.Step{Kind: api.StepRing, A: 64, B: 8}, refused(api.ErrRingIndex)},
		{api.Step{Kind: api.StepRing, Part: 1, A: 4 * 64}, refused(api.ErrRingForm)},
	},
		api.View{Memory: memory(3, map[int]string{64 + 1: "aXYd", 128: chain}), Left: 6},
		api.View{Memory: memory(2, map[int]string{0: "mine"}), Left: 8},
		api.View{Memory: memory(1, nil), Queue: []api.Message{{From: 1, Data: "too"}}, Left: 8})
}

// TestAnswersToldOfCallsAlone: what only carries a partition's number is not told to it; nor is what stands in the place of what others do.
func TestAnswersToldOfCallsAlone(t *testing.T) {
	var steps []api.Step
	for _, kind := range append([]int{api.StepNone, api.StepTick, api.StepMove, api.StepDma, api.StepRaise}, far...) {
		for part := range 3 {
			steps = append(steps, api.Step{Kind: kind, Part: part, Device: 7, A: 7, B: 7, C: 7})
		}
	}
	for kind := api.StepMap; kind <= api.StepRing; kind++ {
		steps = append(steps, api.Step{Kind: kind, Part: 2, Device: 7}, api.Step{Kind: kind, Part: -1}, api.Step{Kind: kind, Part: 3})
	}
	tells(t, "others'", trio(), steps, 0, nil, api.View{Memory: memory(3, nil), Left: 8})
	tells(t, "others'", trio(), steps, 1, nil, api.View{Memory: memory(2, nil), Left: 8})
	for kind := range 20 {
		told, _, e := product.Answers(trio(), []api.Step{{Kind: kind}, {Kind: kind, Part: 1}, {Kind: kind}}, 0)
		want := 0
		if kind >= 5 && kind <= 16 {
			want = 2
		}
		if len(told) != want || e != api.OK {
			t.Errorf("P24.1: kind %d: told of %d, %d", kind, len(told), e)
		}
	}
}

// TestAnswersViewBehindTheLastStep: a partition sees what comes behind its last call, too, whoever does it.
func TestAnswersViewBehindTheLastStep(t *testing.T) {
	c := trio()
	steps := []api.Step{
		{Kind: api.StepMap, Part: 1, Device: 1, A: 0, B: 3, C: 2},
		{Kind: api.StepVector, Part: 1, Device: 1, A: 5, B: 1},
		{Kind: api.StepWrite, Part: 1, A: 4 * 64, Data: "\x02\xff\x00\x00\x00\x00\x04\x00"},
		{Kind: api.StepRing, Part: 1, A: 4 * 64},
		{Kind: api.StepSend, Part: 1, A: 1, Data: "self"},
	}
	want := []api.Answer{{}, {}, {}, {Num: 1}, {}}
	bytes := map[int]string{0: "\x02\xff\x00\x00\x00\x00\x04\x00"}
	queue := []api.Message{{From: 1, Data: "self"}}
	tells(t, "behind the calls", c, steps, 1, want, api.View{Memory: memory(2, bytes), Queue: queue, Left: 4})
	steps = append(steps, api.Step{Kind: api.StepDma, Device: 1, A: 60, C: 1, Data: "dma!"}, api.Step{Kind: api.StepRaise, Device: 1, A: 5})
	bytes[64+60] = "dma!"
	tells(t, "behind the device", c, steps, 1, want, api.View{Memory: memory(2, bytes), Queue: queue, Left: 4})
	steps = append(steps, ticks(6)...)
	inbox := []api.Irq{{Tick: 6, Device: 1, Vector: 5}}
	tells(t, "behind the ticks", c, steps, 1, want, api.View{Memory: memory(2, bytes), Inbox: inbox, Queue: queue, Left: 8})
	steps = append(steps, api.Step{Kind: api.StepSend, Part: 1, A: 2, Data: "up"}, api.Step{Kind: api.StepNone, Part: 2})
	tells(t, "behind another's call", c, steps, 2, nil, api.View{Memory: memory(1, nil), Queue: []api.Message{{From: 1, Data: "up"}}, Left: 8})
}

func TestAnswersOfAMovedDevice(t *testing.T) {
	// 1 and 2 are told of what 1 did, 0 of nothing of it, but that the device is its own.
	lines := []line{
		{api.Step{Kind: api.StepReg, Part: 1, Device: 1, A: 1, B: 65535, C: 1}, api.Answer{}},
		{api.Step{Kind: api.StepMap, Part: 1, Device: 1, A: 1, B: 3, C: 3}, api.Answer{}},
		{api.Step{Kind: api.StepVector, Part: 1, Device: 1, A: 1, B: 1}, api.Answer{}},
		{api.Step{Kind: api.StepRaise, Device: 1, A: 1}, api.Answer{}},
		{api.Step{Kind: api.StepMove, Device: 1, A: 0}, api.Answer{}},
		{api.Step{Kind: api.StepReg, Part: 1, Device: 1, A: 1}, refused(api.ErrMonitorOwner)},
		{api.Step{Kind: api.StepReg, Device: 1, A: 1}, refused(api.ErrMonitorOwner)},
		{api.Step{Kind: api.StepDma, Device: 1, A: 64, C: 1, Data: "late"}, api.Answer{}},
		{api.Step{Kind: api.StepTick}, api.Answer{}},
		{api.Step{Kind: api.StepTick}, api.Answer{}},
		{api.Step{Kind: api.StepReg, Device: 1, A: 1}, refused(api.ErrMonitorOwner)},
		{api.Step{Kind: api.StepTick}, api.Answer{}},
		{api.Step{Kind: api.StepReg, Device: 1, A: 1}, api.Answer{}},
		{api.Step{Kind: api.StepUnmap, Device: 1, A: 1}, refused(api.ErrIommuNone)},
		{api.Step{Kind: api.StepMask, Device: 1, A: 1, B: 1}, refused(api.ErrIrqNone)},
		{api.Step{Kind: api.StepDma, Device: 1, A: 64, B: 1}, api.Answer{}},
		{api.Step{Kind: api.StepFaults}, api.Answer{Faults: []api.Fault{{Tick: 3, Device: 1, Iova: 64, Code: 702}}}},
		{api.Step{Kind: api.StepFaults, Part: 1}, api.Answer{}},
	}
	for range 10 {
		lines = append(lines, line{step: api.Step{Kind: api.StepTick}})
	}
	plays(t, "a move", trio(), lines,
		api.View{Memory: memory(3, nil), Left: 8},
		api.View{Memory: memory(2, nil), Left: 8},
		api.View{Memory: memory(1, nil), Left: 8})
}

func TestAnswersByGrants(t *testing.T) {
	plays(t, "grants", trio(api.Grant{Frame: 1, To: 1}, api.Grant{Frame: 2, To: 1, Write: true}), []line{
		{api.Step{Kind: api.StepWrite, A: 64, Data: "lent"}, api.Answer{}},
		{api.Step{Kind: api.StepRead, Part: 1, A: 64, B: 4}, api.Answer{Data: "lent"}},
		{api.Step{Kind: api.StepWrite, Part: 1, A: 64, Data: "mine"}, refused(api.ErrMonitorFrame)},
		{api.Step{Kind: api.StepMap, Part: 1, Device: 1, A: 0, B: 1, C: 3}, refused(api.ErrMonitorFrame)},
		{api.Step{Kind: api.StepMap, Part: 1, Device: 1, A: 0, B: 2, C: 3}, api.Answer{}},
		{api.Step{Kind: api.StepDma, Device: 1, C: 1, Data: "by 1's"}, api.Answer{}},
		{api.Step{Kind: api.StepRead, A: 128, B: 6}, api.Answer{Data: "by 1's"}},
	},
		api.View{Memory: memory(3, map[int]string{0: "by 1's", 128: "lent"}), Left: 8},
		api.View{Memory: memory(2, nil), Left: 8},
		api.View{Memory: memory(1, nil), Left: 8})
}

// TestAnswersOfNoRing: what is no ring reaches neither the disk nor memory, nor takes of the quota.
func TestAnswersOfNoRing(t *testing.T) {
	end := strings.Repeat("\x02\xff\x00\x00\x00\x00\x00\x00", 7)
	good := "\x01\xff\x02\x00\x00\x00\x01\x00" + end
	back := "\x00\xff\x02\x00\x10\x00\x01\x00" + end
	for _, bad := range []struct {
		want api.Errno
		at   int
		ring string
	}{
		{api.ErrMonitorFrame, 2*64 + 1, good},
		{api.ErrRingForm, 64, "\x01\x01\x02\x00\x10\x00\x01\x00" + "\x04\xff\x00\x00\x00\x00\x00\x00" + end[8:]},
		{api.ErrRingCycle, 64, "\x01\x01\x02\x00\x10\x00\x01\x00" + "\x01\x00\x02\x00\x10\x00\x01\x00" + end[8:]},
		{api.ErrRingBuffer, 64, "\x01\x01\x02\x00\x10\x00\x01\x00" + "\x00\xff\x02\x00\xc0\x00\x01\x00" + end[8:]},
		{api.ErrExtentRange, 64, "\x01\x01\x02\x00\x10\x00\x01\x00" + "\x00\xff\x06\x00\x10\x00\x01\x00" + end[8:]},
		{api.ErrBlkQuota, 64, "\x01\x01\x02\x00\x10\x00\x04\x00" + "\x01\x02\x02\x00\x10\x00\x03\x00" + "\x02\xff\x01\x00\x00\x00\x01\x00" + end[16:]},
	} {
		steps := []api.Step{
			{Kind: api.StepWrite, A: 0, Data: "kept on the disk"},
			{Kind: api.StepWrite, A: 64, Data: good},
			{Kind: api.StepRing, A: 64},
			{Kind: api.StepWrite, A: 64, Data: bad.ring},
			{Kind: api.StepRing, A: bad.at},
			{Kind: api.StepWrite, A: 64, Data: back},
			{Kind: api.StepRing, A: 64},
		}
		told := []api.Answer{{}, {}, {Num: 1}, {}, refused(bad.want), {}, {Num: 1}}
		tells(t, "no ring", trio(), steps, 0, told, api.View{Memory: memory(3, map[int]string{64: "kept on the disk" + "kept on the disk", 128: back}), Left: 6})
	}
}

func TestAnswersOfNoSteps(t *testing.T) {
	for _, steps := range [][]api.Step{nil, {}, make([]api.Step, 5), ticks(3)} {
		for part, frames := range []int{3, 2, 1} {
			tells(t, "no steps", trio(), steps, part, nil, api.View{Memory: memory(frames, nil), Left: 8})
		}
	}
}

func TestAnswersOfNoPartition(t *testing.T) {
	steps := []api.Step{{Kind: api.StepWrite, Data: "x"}, {Kind: api.StepRead, Part: -1, B: 1}, {Kind: api.StepRead, Part: 3, B: 1}}
	for _, part := range append([]int{3, 4, 5}, far...) {
		if told, seen, e := product.Answers(trio(), steps, part); e != api.ErrProductForm || !isNothing(told, seen) {
			t.Errorf("P24.1: part %d: %#v, %#v, %d", part, told, seen, e)
		}
	}
}

func TestAnswersOfNoConfig(t *testing.T) {
	steps := []api.Step{{Kind: api.StepWrite, Data: "x"}, {Kind: api.StepRead, B: 1}}
	for i, turn := range []func(c *api.Config){
		func(c *api.Config) { *c = api.Config{} },
		func(c *api.Config) { c.Frames = 12 },
		func(c *api.Config) { c.Frames = 65 },
		func(c *api.Config) { c.Frames = math.MinInt },
		func(c *api.Config) { c.Parts = nil },
		func(c *api.Config) { c.Parts[2].Label.Level = 4 },
		func(c *api.Config) { c.Parts[2].Frames = nil },
		func(c *api.Config) { c.Parts[2].Frames[0] = 0 },
		func(c *api.Config) { c.Parts[1].Frames[0] = math.MaxInt },
		func(c *api.Config) { c.Parts[1].First = 5 },
		func(c *api.Config) { c.Devices = nil },
		func(c *api.Config) { c.Devices[1].Part = 3 },
		func(c *api.Config) { c.Devices[1].Pool = []int{11} },
		func(c *api.Config) { c.Major = 9 },
		func(c *api.Config) { c.Windows = c.Windows[:2] },
		func(c *api.Config) { c.Windows[0].Deliver = 4 },
		func(c *api.Config) { c.Grants = []api.Grant{{Frame: 0, To: 0}} },
		func(c *api.Config) { c.Grants = []api.Grant{{Frame: 8, To: 1}} },
		func(c *api.Config) { c.Sectors = 15 },
		func(c *api.Config) { c.Quota = -1 },
		func(c *api.Config) { c.Quota = 65 },
		func(c *api.Config) { c.Quiet = 0 },
		func(c *api.Config) { c.Quiet = 9 },
	} {
		c := trio()
		turn(&c)
		for part := -1; part < 4; part++ {
			if told, seen, e := product.Answers(c, steps, part); e != api.ErrProductForm || !isNothing(told, seen) {
				t.Errorf("P24.1: row %d: part %d: %#v, %#v, %d", i, part, told, seen, e)
			}
		}
	}
}

// TestAnswersBehindTheLastTick: ticks behind MaxTick of them do nothing; a device that moves then is nobody's from then on.
func TestAnswersBehindTheLastTick(t *testing.T) {
	steps := []api.Step{{Kind: api.StepVector, Part: 1, Device: 1, A: 1, B: 1}}
	steps = append(steps, ticks(api.MaxTick-2)...)
	steps = append(steps, api.Step{Kind: api.StepRaise, Device: 1, A: 1}, api.Step{Kind: api.StepMove, A: 1})
	steps = append(steps, ticks(25)...)
	steps = append(steps, api.Step{Kind: api.StepDma, Device: 0, B: 1}, api.Step{Kind: api.StepDma, Device: 1, B: 1},
		api.Step{Kind: api.StepReg, Part: 1, Device: 0}, api.Step{Kind: api.StepFaults, Part: 1})
	want := []api.Answer{{}, refused(api.ErrMonitorOwner), {Faults: []api.Fault{{Tick: api.MaxTick, Device: 1, Code: 702}}}}
	// The last tick is the major frame's offset 5, and 1 is delivered to at offset 6: the vector waits for ever.
	tells(t, "the last tick", trio(), steps, 1, want, api.View{Memory: memory(2, nil), Left: 8})
	tells(t, "the last tick", trio(), steps, 0, nil, api.View{Memory: memory(3, nil), Left: 8})
}

// spare is a row with room behind it that holds something.
func spare[T any](row []T, rest T) []T {
	long := append(append([]T(nil), row...), rest, rest)
	return long[:len(row)]
}

func TestAnswersChangeNothingThatIsHandedIn(t *testing.T) {
	made := func() (api.Config, []api.Step) {
		c := trio(spare([]api.Grant{{Frame: 1, To: 1}, {Frame: 2, To: 1, Write: true}}, api.Grant{Frame: 99, To: 99})...)
		c.Parts, c.Devices, c.Windows = spare(c.Parts, api.Part{First: 99}), spare(c.Devices, api.Device{Part: 99}), spare(c.Windows, api.Window{Part: 99})
		for i := range c.Parts {
			c.Parts[i].Frames = spare(c.Parts[i].Frames, 99)
		}
		for i := range c.Devices {
			c.Devices[i].Pool = spare(c.Devices[i].Pool, 99)
		}
		r := numbers(241)
		return c, spare(scriptOf(&r, c, 400), api.Step{Kind: 99})
	}
	whole := func(c api.Config, steps []api.Step) any {
		row := []any{c.Parts[:cap(c.Parts)], c.Devices[:cap(c.Devices)], c.Windows[:cap(c.Windows)], c.Grants[:cap(c.Grants)], steps[:cap(steps)], c}
		for _, p := range c.Parts {
			row = append(row, p.Frames[:cap(p.Frames)])
		}
		for _, d := range c.Devices {
			row = append(row, d.Pool[:cap(d.Pool)])
		}
		return row
	}
	c, steps := made()
	for part := -1; part < 4; part++ {
		product.Answers(c, steps, part)
	}
	if d, again := made(); !reflect.DeepEqual(whole(c, steps), whole(d, again)) {
		t.Error("R4: what was handed in was changed")
	}
}

// TestAnswersShareNothing: who writes to all that was answered, its spare room, too, changes neither another answer nor what comes later.
func TestAnswersShareNothing(t *testing.T) {
	c := trio()
	var steps []api.Step
	for range 4 {
		steps = append(steps, api.Step{Kind: api.StepVector, A: 0, B: 1}, api.Step{Kind: api.StepVector, A: 1, B: 1},
			api.Step{Kind: api.StepRaise, A: 0}, api.Step{Kind: api.StepRaise, A: 1}, api.Step{Kind: api.StepDma, A: 3, B: 1}, api.Step{Kind: api.StepDma, A: 4, B: 1})
		steps = append(steps, ticks(10)...)
		steps = append(steps, api.Step{Kind: api.StepIrqs}, api.Step{Kind: api.StepFaults}, api.Step{Kind: api.StepSend, Data: "m"})
	}
	steps = append(steps, api.Step{Kind: api.StepRaise, A: 0}, api.Step{Kind: api.StepRaise, A: 1})
	steps = append(steps, ticks(10)...)
	told, seen, _ := product.Answers(c, steps, 0)
	want, end, _ := product.Answers(c, steps, 0)
	if len(told) != 20 || len(seen.Inbox) != 2 || len(seen.Queue) != 4 {
		t.Fatalf("P24.1: %#v, %#v", told, seen)
	}
	for i, a := range told {
		if !sameAnswers(told[i:], want[i:]) || !sameViews(seen, end) {
			t.Fatalf("R4: answer %d shares with one ahead of it", i)
		}
		clear(a.Irqs[:cap(a.Irqs)])
		clear(a.Faults[:cap(a.Faults)])
	}
	clear(told[:cap(told)])
	clear(seen.Inbox[:cap(seen.Inbox)])
	clear(seen.Queue[:cap(seen.Queue)])
	if again, last, e := product.Answers(c, steps, 0); e != api.OK || !sameAnswers(again, want) || !sameViews(last, end) {
		t.Error("R4: a later answer shares with an earlier one")
	}
}

func TestAnswersFromSeveralGoroutines(t *testing.T) {
	c := trio(api.Grant{Frame: 1, To: 1}, api.Grant{Frame: 2, To: 1, Write: true})
	r := numbers(242)
	steps := scriptOf(&r, c, 300)
	var wants [3][]api.Answer
	var ends [3]api.View
	for part := range 3 {
		wants[part], ends[part], _ = product.Answers(c, steps, part)
	}
	var group sync.WaitGroup
	for range 6 {
		group.Go(func() {
			for i := range 30 {
				told, seen, e := product.Answers(c, steps, i%3)
				if e != api.OK || !sameAnswers(told, wants[i%3]) || !sameViews(seen, ends[i%3]) {
					t.Errorf("R5: part %d: %#v, %#v, %d", i%3, told, seen, e)
				}
			}
		})
	}
	group.Wait()
}
