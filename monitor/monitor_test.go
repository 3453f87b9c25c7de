package monitor_test

import (
	"math"
	"reflect"
	"slices"
	"strings"
	"testing"

	"caisson/api"
	"caisson/monitor"
)

// pair is a Monitor, and the plain one that it is held against.
type pair struct {
	t *testing.T
	m *monitor.Monitor
	p *plain
}

// start is a pair that is set up so.
func start(t *testing.T, c api.Config) *pair {
	t.Helper()
	m, e := monitor.New(c)
	if m == nil || e != api.OK {
		t.Fatalf("P22.1: New(%#v) = %v, %d", c, m, e)
	}
	x := &pair{t: t, m: m, p: plainOf(c)}
	x.hold("as it is at first")
	return x
}

// do does a step and holds what came of it.
func (x *pair) do(s api.Step) api.Answer {
	x.t.Helper()
	owner := x.p.owner(s.Device)
	got, want := x.m.Do(s), x.p.do(s)
	if !sameAnswers(got, want) {
		x.t.Fatalf("P22.1: tick %d, device's owner %d: Do(%#v) = %#v, want %#v", x.p.tick, owner, s, got, want)
	}
	return got
}

// hold holds all that may be seen beside the answers.
func (x *pair) hold(name string) {
	x.t.Helper()
	if got := x.m.Tick(); got != x.p.tick {
		x.t.Fatalf("P22.2: %s: Tick = %d, want %d", name, got, x.p.tick)
	}
	for device := -1; device <= 5; device++ {
		if got, want := x.m.Owner(device), x.p.owner(device); got != want {
			x.t.Fatalf("P22.2: %s: Owner(%d) = %d, want %d", name, device, got, want)
		}
	}
	for part := -1; part <= 5; part++ {
		got, e := x.m.View(part)
		want, err := x.p.view(part)
		if !sameViews(got, want) || e != err {
			x.t.Fatalf("P22.2: %s: View(%d) = %#v, %d, want %#v, %d", name, part, got, e, want, err)
		}
	}
}

// want does a step and holds it against an answer that is told here.
func (x *pair) want(s api.Step, want api.Answer) {
	x.t.Helper()
	if got := x.do(s); !sameAnswers(got, want) {
		x.t.Fatalf("P22.1: Do(%#v) = %#v, want %#v", s, got, want)
	}
	x.hold("behind a step")
}

// code does a step that answers a code alone.
func (x *pair) code(s api.Step, e api.Errno) {
	x.t.Helper()
	x.want(s, api.Answer{Code: int(e)})
}

// ticks lets ticks go by.
func (x *pair) ticks(n int) {
	x.t.Helper()
	for range n {
		x.do(api.Step{Kind: api.StepTick})
	}
	x.hold("behind ticks")
}

// rest asks by steps for what can't be seen otherwise: what is mapped, what leads anywhere or waits, the registers, the logs, the sectors.
func (x *pair) rest() {
	x.t.Helper()
	x.ticks(20)
	for device := range x.p.c.Devices {
		owner := x.p.owner(device)
		for page := range api.Pages {
			x.do(api.Step{Kind: api.StepDma, Device: device, A: page * 64, B: 64})
			x.do(api.Step{Kind: api.StepDma, Device: device, A: page * 64, C: 1, Data: "rest"})
		}
		for at := range 8 {
			x.do(api.Step{Kind: api.StepReg, Part: owner, Device: device, A: at})
			x.do(api.Step{Kind: api.StepRaise, Device: device, A: at})
			x.do(api.Step{Kind: api.StepMask, Part: owner, Device: device, A: at})
		}
	}
	for part, p := range x.p.c.Parts {
		x.do(api.Step{Kind: api.StepIrqs, Part: part})
		x.do(api.Step{Kind: api.StepFaults, Part: part})
		for lba := range p.Count {
			x.ticks(x.p.c.Major)
			x.do(api.Step{Kind: api.StepWrite, Part: part, A: p.Frames[0] * 64, Data: ringOf(api.Desc{Op: api.BlkRead, Next: 255, Lba: lba, Buf: p.Frames[0]*64 + 16, Len: 1})})
			x.do(api.Step{Kind: api.StepRing, Part: part, A: p.Frames[0] * 64})
			x.hold("behind a sector")
		}
	}
	x.ticks(x.p.c.Major)
}

// codes are those that each kind of step is to have answered in scripts.
var codes = map[int][]api.Errno{
	-1:              {2200},
	17:              {2200},
	api.StepNone:    {0},
	api.StepTick:    {0},
	api.StepMove:    {0, 2200, 1500, 1501},
	api.StepDma:     {0, 2200, 2202, 700, 702, 703},
	api.StepRaise:   {0, 2200, 2202, 1300, 1301},
	api.StepMap:     {0, 2200, 2201, 2203, 700, 701},
	api.StepUnmap:   {0, 2200, 2201, 700, 702},
	api.StepVector:  {0, 2200, 2201, 1300, 1301},
	api.StepMask:    {0, 2200, 2201, 1300, 1301},
	api.StepReg:     {0, 2200, 2201, 1400},
	api.StepRead:    {0, 2200, 2203},
	api.StepWrite:   {0, 2200, 2203},
	api.StepFaults:  {0, 2200},
	api.StepIrqs:    {0, 2200},
	api.StepSend:    {0, 2200, 2000, 2001},
	api.StepReceive: {0, 2200, 2002},
	api.StepRing:    {0, 2200, 2203, 1700, 1701, 1702, 1703, 1801, 1901},
}

func TestScripts(t *testing.T) {
	r := numbers(22)
	configs := []api.Config{sample(), sample(), sample(), sample(), least(), most(), most(), most()}
	for range 60 {
		configs = append(configs, made(&r))
	}
	came := map[[2]int]int{}
	for i, c := range configs {
		x := start(t, c)
		w := &writer{numbers: numbers(i), p: x.p}
		for range 1500 {
			for _, s := range w.next() {
				came[[2]int{s.Kind, x.do(s).Code}]++
				x.hold("in a script")
			}
		}
		x.rest()
	}
	for kind, row := range codes {
		for _, e := range row {
			if n := came[[2]int{kind, int(e)}]; n < 5 {
				t.Errorf("kind %d answered %d only %d times", kind, e, n)
			}
		}
	}
}

func TestNew(t *testing.T) {
	for _, c := range []api.Config{sample(), least(), most()} {
		start(t, c).rest()
	}
	for i, turn := range []func(c *api.Config){
		func(c *api.Config) { *c = api.Config{} },
		func(c *api.Config) { c.Frames = 19 },
		func(c *api.Config) { c.Frames = 65 },
		func(c *api.Config) { c.Parts = nil },
		func(c *api.Config) { c.Parts[2].Label.Cats = 16 },
		func(c *api.Config) { c.Parts[1].Frames = nil },
		func(c *api.Config) { c.Parts[1].Frames[1] = 19 },
		func(c *api.Config) { c.Devices = nil },
		func(c *api.Config) { c.Devices[1].Part = 3 },
		func(c *api.Config) { c.Devices[1].Pool = []int{10} },
		func(c *api.Config) { c.Major = 11 },
		func(c *api.Config) { c.Windows[2].Part = 0 },
		func(c *api.Config) { c.Windows[3].Start = 3 },
		func(c *api.Config) { c.Grants[0].To = 0 },
		func(c *api.Config) { c.Grants[0].Frame = 1 },
		func(c *api.Config) { c.Sectors = 19 },
		func(c *api.Config) { c.Parts[1].Count = 5 },
		func(c *api.Config) { c.Quota = 65 },
		func(c *api.Config) { c.Quota = -1 },
		func(c *api.Config) { c.Quiet = 0 },
		func(c *api.Config) { c.Quiet = 9 },
	} {
		c := sample()
		turn(&c)
		if m, e := monitor.New(c); m != nil || e != api.ErrConfigForm {
			t.Errorf("P22.1: row %d: New = %v, %d", i, m, e)
		}
	}
}

func TestKindsAndNumbers(t *testing.T) {
	near := []int{0, 1, 2, 3, 4, 5, 7, 8, 15, 16, 17, 63, 64, 65, 127, 128, 255, 256, 448, 511, 65535, 65536}
	x := start(t, sample())
	for kind := -2; kind < 20; kind++ {
		for _, n := range append(near, far...) {
			for _, s := range []api.Step{
				{Kind: kind, Part: n, A: 1, B: 1, C: 1, Data: "x"},
				{Kind: kind, Device: n, A: 1, B: 7, C: 1},
				{Kind: kind, A: n, B: 1, C: 1},
				{Kind: kind, A: n, B: 64, C: 2},
				{Kind: kind, A: n, Data: "y"},
				{Kind: kind, A: 448, B: n, C: 3},
				{Kind: kind, A: 2, B: n},
				{Kind: kind, A: 2, B: 7, C: n},
				{Kind: kind, Part: 2, Device: 1, A: n, B: 5, C: 3, Data: "z"},
				{Kind: kind, Part: n, Device: n, A: n, B: n, C: n},
			} {
				if kind == api.StepMove && s.Device == 0 {
					continue
				}
				x.do(s)
			}
		}
		x.hold("behind a kind")
	}
	for _, n := range far {
		x.code(api.Step{Kind: n}, api.ErrMonitorForm)
		if x.m.Owner(n) != -1 {
			t.Errorf("P22.2: Owner(%d) = %d", n, x.m.Owner(n))
		}
		if v, e := x.m.View(n); e != api.ErrMonitorForm || !reflect.DeepEqual(v, api.View{}) {
			t.Errorf("P22.2: View(%d) = %v, %d", n, v, e)
		}
	}
	x.rest()
}

func TestWhatEachStepNames(t *testing.T) {
	for kind, row := range map[int][2]api.Errno{
		api.StepNone: {0, 0}, api.StepTick: {0, 0},
		api.StepMove: {0, 2200}, api.StepDma: {702, 2200}, api.StepRaise: {1301, 2200},
		api.StepMap: {2200, 2200}, api.StepUnmap: {2200, 2200}, api.StepVector: {2200, 2200}, api.StepMask: {2200, 2200}, api.StepReg: {2200, 2200},
		api.StepRead: {2200, 0}, api.StepWrite: {2200, 0}, api.StepFaults: {2200, 0}, api.StepIrqs: {2200, 0}, api.StepSend: {2200, 2000}, api.StepReceive: {2200, 2002}, api.StepRing: {2200, 1702},
	} {
		for _, n := range append([]int{3, 4}, far...) {
			start(t, sample()).code(api.Step{Kind: kind, Part: n, B: 1}, row[0])
			start(t, sample()).code(api.Step{Kind: kind, Device: n}, row[1])
		}
	}
}

func TestErrorsInTheirRow(t *testing.T) {
	x := start(t, sample())
	x.code(api.Step{Kind: api.StepMap, Part: 1, A: 999, B: 99, C: 9}, api.ErrMonitorOwner)
	x.code(api.Step{Kind: api.StepMap, A: 999, B: 99, C: 9}, api.ErrMonitorFrame)
	x.code(api.Step{Kind: api.StepMap, A: 999, B: 7, C: 3}, api.ErrIommuForm)
	x.code(api.Step{Kind: api.StepReg, Part: 1, A: 9, C: 1}, api.ErrMonitorOwner)
	x.code(api.Step{Kind: api.StepMove, A: 3}, api.ErrAssignForm)
	x.code(api.Step{Kind: api.StepMove, A: 2}, api.OK)
	x.code(api.Step{Kind: api.StepMove, A: 3}, api.ErrAssignForm)
	x.code(api.Step{Kind: api.StepMove, A: 2}, api.ErrAssignBusy)
	x.code(api.Step{Kind: api.StepDma, A: -1}, api.ErrMonitorQuiet)
	x.code(api.Step{Kind: api.StepRaise, A: -1}, api.ErrMonitorQuiet)
	for part := range 3 {
		x.want(api.Step{Kind: api.StepFaults, Part: part}, api.Answer{})
	}
}

func TestMapOfEachFrame(t *testing.T) {
	reads, writes := [][]int{{0, 2, 5, 7}, nil, {5}}, [][]int{{0, 2, 7}, nil, {5}}
	x := start(t, sample())
	for device, part := range []int{0, 2} {
		for frame := -1; frame <= 64; frame++ {
			for perm := -1; perm <= 8; perm++ {
				want := api.OK
				switch {
				case perm == 0 && frame == 0:
					want = api.ErrIommuForm
				case !is(perm, 1, 3) || perm&1 != 0 && !slices.Contains(reads[part], frame) || perm&2 != 0 && !slices.Contains(writes[part], frame):
					want = api.ErrMonitorFrame
				}
				x.code(api.Step{Kind: api.StepMap, Part: part, Device: device, A: 3, B: frame, C: perm}, want)
			}
		}
	}
	x.rest()
}

// secret gives each partition's frames bytes that tell them apart.
func (x *pair) secret() {
	x.t.Helper()
	for part, p := range x.p.c.Parts {
		for i, f := range p.Frames {
			x.code(api.Step{Kind: api.StepWrite, Part: part, A: f * 64, Data: strings.Repeat(string(rune('a'+8*part+i)), 64)}, api.OK)
		}
	}
}

func TestDma(t *testing.T) {
	x := start(t, sample())
	x.secret()
	dma := func(iova, n int, want string, e api.Errno) {
		t.Helper()
		x.want(api.Step{Kind: api.StepDma, A: iova, B: n, Data: "ignored"}, api.Answer{Code: int(e), Data: want})
	}
	for page, frame := range []int{2, 7, 2, 0, 5} {
		x.code(api.Step{Kind: api.StepMap, A: page, B: frame, C: 1 + 2*min(frame%5, 1)}, api.OK)
	}
	dma(60, 8, "bbbbaaaa", 0)
	dma(32, 256, strings.Repeat("b", 32)+strings.Repeat("a", 64)+strings.Repeat("b", 64)+strings.Repeat("c", 64)+strings.Repeat("q", 32), 0)
	dma(32, 257, "", api.ErrIommuForm)
	dma(300, 20, strings.Repeat("q", 20), 0)
	dma(300, 21, "", api.ErrIommuNone)
	dma(300, 0, "", api.ErrIommuForm)
	dma(16383, 1, "", api.ErrIommuNone)
	dma(16383, 2, "", api.ErrIommuForm)
	write := func(iova int, data string, e api.Errno) {
		t.Helper()
		x.code(api.Step{Kind: api.StepDma, A: iova, B: 999, C: 1, Data: data}, e)
	}
	// Pages 0 and 2 are one frame, so that what is written behind stays.
	write(0, strings.Repeat("1", 64)+strings.Repeat("2", 64)+strings.Repeat("3", 63), 0)
	dma(0, 192, strings.Repeat("3", 63)+"1"+strings.Repeat("2", 64)+strings.Repeat("3", 63)+"1", 0)
	// Page 3 may only be read, and page 0 is not written either.
	write(150, strings.Repeat("4", 50), api.ErrIommuPerm)
	write(0, "", api.ErrIommuForm)
	write(0, strings.Repeat("4", 257), api.ErrIommuForm)
	x.code(api.Step{Kind: api.StepMap, A: 1, B: 7, C: 2}, api.OK)
	dma(60, 8, "", api.ErrIommuPerm)
	write(60, "wxyzWXYZ", 0)
	x.want(api.Step{Kind: api.StepRead, Part: 1, A: 448, B: 5}, api.Answer{Data: "WXYZ2"})
	x.code(api.Step{Kind: api.StepUnmap, A: 1}, api.OK)
	x.code(api.Step{Kind: api.StepUnmap, A: 1}, api.ErrIommuNone)
	x.code(api.Step{Kind: api.StepUnmap, A: 256}, api.ErrIommuForm)
	dma(60, 4, "wxyz", 0)
	dma(60, 5, "", api.ErrIommuNone)
	x.rest()
}

func TestAGrantIsForDevicesToo(t *testing.T) {
	x := start(t, sample())
	x.code(api.Step{Kind: api.StepMove, A: 1}, api.OK)
	x.ticks(3)
	x.code(api.Step{Kind: api.StepMap, Part: 1, A: 0, B: 7, C: 3}, api.ErrMonitorFrame)
	x.code(api.Step{Kind: api.StepMap, Part: 1, A: 0, B: 7, C: 2}, api.ErrMonitorFrame)
	x.code(api.Step{Kind: api.StepMap, Part: 1, A: 0, B: 7, C: 1}, api.OK)
	x.code(api.Step{Kind: api.StepMap, Part: 1, A: 1, B: 2, C: 3}, api.OK)
	x.code(api.Step{Kind: api.StepMap, Part: 1, A: 2, B: 0, C: 1}, api.ErrMonitorFrame)
	x.code(api.Step{Kind: api.StepDma, A: 60, C: 1, Data: "12345678"}, api.ErrIommuPerm)
	x.code(api.Step{Kind: api.StepDma, A: 64, C: 1, Data: "12345678"}, api.OK)
	x.want(api.Step{Kind: api.StepDma, A: 60, B: 8}, api.Answer{Data: "\x00\x00\x00\x001234"})
	v, _ := x.m.View(0)
	if v.Memory[64:72] != "12345678" {
		t.Errorf("T1: %q", v.Memory)
	}
}

func TestFaults(t *testing.T) {
	x := start(t, sample())
	x.ticks(5)
	x.code(api.Step{Kind: api.StepDma, A: 70, B: 3}, api.ErrIommuNone)
	x.code(api.Step{Kind: api.StepDma, Device: 1, A: -3, B: 3}, api.ErrIommuForm)
	x.code(api.Step{Kind: api.StepRaise, A: 3}, api.ErrIrqNone)
	x.ticks(1)
	x.code(api.Step{Kind: api.StepDma, A: math.MaxInt, C: 1, Data: "x"}, api.ErrIommuForm)
	x.code(api.Step{Kind: api.StepDma, A: 128, B: 1, C: 2}, api.ErrIommuNone)
	x.want(api.Step{Kind: api.StepFaults}, api.Answer{Faults: []api.Fault{{Tick: 5, Iova: 70, Code: 702}, {Tick: 6, Iova: math.MaxInt, Write: true, Code: 700}, {Tick: 6, Iova: 128, Code: 702}}})
	x.want(api.Step{Kind: api.StepFaults}, api.Answer{})
	x.want(api.Step{Kind: api.StepFaults, Part: 2}, api.Answer{Faults: []api.Fault{{Tick: 5, Device: 1, Iova: -3, Code: 700}}})
	x.want(api.Step{Kind: api.StepFaults, Part: 1}, api.Answer{})
	for i := range 16 + 65535 + 10 {
		x.do(api.Step{Kind: api.StepDma, A: 64 * i, B: 1})
		if i == 16 {
			x.ticks(1)
		}
	}
	if a := x.do(api.Step{Kind: api.StepFaults}); len(a.Faults) != 16 || a.Faults[15].Iova != 64*15 || a.Num != 65535 {
		t.Errorf("P22.1: %#v", a)
	}
	x.code(api.Step{Kind: api.StepDma, B: 1}, api.ErrIommuNone)
	x.want(api.Step{Kind: api.StepFaults}, api.Answer{Faults: []api.Fault{{Tick: 7, Code: 702}}})
}

func TestTheLogIsTheOwnersOfThen(t *testing.T) {
	x := start(t, sample())
	x.code(api.Step{Kind: api.StepDma, A: 1, B: 1}, api.ErrIommuNone)
	x.code(api.Step{Kind: api.StepMove, A: 1}, api.OK)
	x.ticks(3)
	x.code(api.Step{Kind: api.StepDma, A: 2, B: 1}, api.ErrIommuNone)
	x.want(api.Step{Kind: api.StepFaults, Part: 1}, api.Answer{Faults: []api.Fault{{Tick: 3, Iova: 2, Code: 702}}})
	x.want(api.Step{Kind: api.StepFaults, Part: 0}, api.Answer{Faults: []api.Fault{{Tick: 0, Iova: 1, Code: 702}}})
}

func TestVectors(t *testing.T) {
	x := start(t, sample())
	irqs := func(part int, want ...api.Irq) {
		t.Helper()
		x.want(api.Step{Kind: api.StepIrqs, Part: part}, api.Answer{Irqs: want})
	}
	for _, v := range []int{6, 1, 4} {
		x.code(api.Step{Kind: api.StepVector, A: v, B: 1}, api.OK)
		x.code(api.Step{Kind: api.StepRaise, A: v}, api.OK)
		x.code(api.Step{Kind: api.StepRaise, A: v}, api.OK)
	}
	x.code(api.Step{Kind: api.StepRaise, Device: 1, A: 4}, api.ErrIrqNone)
	x.code(api.Step{Kind: api.StepMask, A: 4, B: 1}, api.OK)
	x.ticks(1)
	irqs(0)
	x.ticks(1)
	irqs(1)
	irqs(2)
	irqs(0, api.Irq{Tick: 2, Vector: 1}, api.Irq{Tick: 2, Vector: 6})
	irqs(0)
	x.code(api.Step{Kind: api.StepMask, A: 4, B: 2}, api.OK)
	x.ticks(1)
	irqs(0)
	x.ticks(1)
	irqs(0, api.Irq{Tick: 4, Vector: 4})
	x.ticks(24)
	irqs(0)
	// What leads nowhere any more waits no more, and Route unmasks.
	x.code(api.Step{Kind: api.StepRaise, A: 6}, api.OK)
	x.code(api.Step{Kind: api.StepVector, A: 6, B: 2}, api.OK)
	x.code(api.Step{Kind: api.StepVector, A: 6}, api.ErrIrqNone)
	x.code(api.Step{Kind: api.StepMask, A: 6}, api.ErrIrqNone)
	x.code(api.Step{Kind: api.StepVector, A: 6, B: 1}, api.OK)
	x.code(api.Step{Kind: api.StepMask, A: 1, B: 1}, api.OK)
	x.code(api.Step{Kind: api.StepRaise, A: 1}, api.OK)
	x.code(api.Step{Kind: api.StepVector, A: 1, B: 1}, api.OK)
	x.ticks(12)
	irqs(0, api.Irq{Tick: 38, Vector: 1})
	x.code(api.Step{Kind: api.StepVector, A: 8, B: 1}, api.ErrIrqForm)
	x.code(api.Step{Kind: api.StepVector, A: -1}, api.ErrIrqForm)
	x.code(api.Step{Kind: api.StepMask, A: 8, B: 1}, api.ErrIrqForm)
	x.code(api.Step{Kind: api.StepRaise, A: 8}, api.ErrIrqForm)
}

func TestInboxIsFull(t *testing.T) {
	x := start(t, sample())
	for v := range 7 {
		x.code(api.Step{Kind: api.StepVector, A: v, B: 1}, api.OK)
	}
	raise := func() {
		for v := range 7 {
			x.code(api.Step{Kind: api.StepRaise, A: v}, api.OK)
		}
	}
	for i := range 9 {
		raise()
		x.ticks(12)
		if v, _ := x.m.View(0); len(v.Inbox) != 7*(i+1) {
			t.Fatalf("P22.1: %d in the inbox behind %d times", len(v.Inbox), i+1)
		}
	}
	raise()
	x.ticks(12)
	v, e := x.m.View(0)
	if len(v.Inbox) != 64 || v.Inbox[63] != (api.Irq{Tick: 9*12 + 2, Vector: 0}) || e != api.OK {
		t.Fatalf("P22.1: %v, %d", v.Inbox, e)
	}
	raise()
	x.ticks(12)
	if a := x.do(api.Step{Kind: api.StepIrqs}); !slices.Equal(a.Irqs, v.Inbox) {
		t.Errorf("P22.1: %v", a.Irqs)
	}
	x.ticks(36)
	x.want(api.Step{Kind: api.StepIrqs}, api.Answer{})
	raise()
	x.ticks(12)
	if a := x.do(api.Step{Kind: api.StepIrqs}); len(a.Irqs) != 7 || a.Num != 0 || a.Faults != nil {
		t.Errorf("P22.1: %v", a)
	}
}

func TestMove(t *testing.T) {
	for _, quiet := range []int{1, 2, 3, 8} {
		for to := range 3 {
			c := sample()
			c.Quiet = quiet
			x := start(t, c)
			// Device 0 is used, and device 1 is, as well as it can be.
			for device, part := range []int{0, 2} {
				x.code(api.Step{Kind: api.StepReg, Part: part, Device: device, A: 7, B: 65535, C: 1}, api.OK)
				x.code(api.Step{Kind: api.StepMap, Part: part, Device: device, A: 5, B: 7 - part, C: 3}, api.OK)
				x.code(api.Step{Kind: api.StepVector, Part: part, Device: device, A: 3, B: 1}, api.OK)
				x.code(api.Step{Kind: api.StepRaise, Device: device, A: 3}, api.OK)
			}
			x.code(api.Step{Kind: api.StepMove, Part: 99, A: to, B: 99}, api.OK)
			for i := range quiet {
				if x.m.Owner(0) != -1 || x.m.Owner(1) != 2 {
					t.Fatalf("T5: tick %d: owners are %d, %d", i, x.m.Owner(0), x.m.Owner(1))
				}
				x.code(api.Step{Kind: api.StepDma, A: 320, B: 1}, api.ErrMonitorQuiet)
				x.code(api.Step{Kind: api.StepDma, A: 320, C: 1, Data: "x"}, api.ErrMonitorQuiet)
				x.code(api.Step{Kind: api.StepRaise, A: 3}, api.ErrMonitorQuiet)
				for part := range 3 {
					for _, kind := range []int{api.StepMap, api.StepUnmap, api.StepVector, api.StepMask, api.StepReg} {
						x.code(api.Step{Kind: kind, Part: part, A: 5, B: 7, C: 1}, api.ErrMonitorOwner)
					}
				}
				x.ticks(1)
			}
			if x.m.Owner(0) != to || x.m.Owner(1) != 2 {
				t.Fatalf("T5: owners are %d, %d", x.m.Owner(0), x.m.Owner(1))
			}
			for reg := range 8 {
				x.want(api.Step{Kind: api.StepReg, Part: to, A: reg}, api.Answer{})
			}
			x.code(api.Step{Kind: api.StepDma, A: 320, B: 1}, api.ErrIommuNone)
			x.code(api.Step{Kind: api.StepRaise, A: 3}, api.ErrIrqNone)
			x.code(api.Step{Kind: api.StepUnmap, Part: to, A: 5}, api.ErrIommuNone)
			x.code(api.Step{Kind: api.StepMask, Part: to, A: 3, B: 1}, api.ErrIrqNone)
			x.ticks(12)
			x.want(api.Step{Kind: api.StepIrqs, Part: to}, api.Answer{Irqs: slices.Repeat([]api.Irq{{Tick: 11, Device: 1, Vector: 3}}, to/2)})
			// Nothing of device 1 is gone.
			x.want(api.Step{Kind: api.StepReg, Part: 2, Device: 1, A: 7}, api.Answer{Num: 65535})
			x.code(api.Step{Kind: api.StepDma, Device: 1, A: 320, C: 1, Data: "x"}, api.OK)
			x.code(api.Step{Kind: api.StepRaise, Device: 1, A: 3}, api.OK)
			x.rest()
		}
	}
}

func TestAMoveThatIsRefusedLeavesVectors(t *testing.T) {
	x := start(t, sample())
	x.code(api.Step{Kind: api.StepVector, A: 3, B: 1}, api.OK)
	x.code(api.Step{Kind: api.StepRaise, A: 3}, api.OK)
	for _, to := range append([]int{3, 4}, far...) {
		x.code(api.Step{Kind: api.StepMove, A: to}, api.ErrAssignForm)
	}
	x.ticks(2)
	x.want(api.Step{Kind: api.StepIrqs}, api.Answer{Irqs: []api.Irq{{Tick: 2, Vector: 3}}})
}

func TestBothDevicesMove(t *testing.T) {
	x := start(t, sample())
	for device, part := range []int{0, 2} {
		x.code(api.Step{Kind: api.StepReg, Part: part, Device: device, B: 9, C: 1}, api.OK)
		x.code(api.Step{Kind: api.StepMove, Device: device, A: 1}, api.OK)
	}
	x.ticks(3)
	for device := range 2 {
		x.want(api.Step{Kind: api.StepReg, Part: 1, Device: device}, api.Answer{})
	}
}

func TestRegisters(t *testing.T) {
	x := start(t, sample())
	for reg := range 8 {
		x.code(api.Step{Kind: api.StepReg, A: reg, B: 100 + reg, C: 1}, api.OK)
		x.code(api.Step{Kind: api.StepReg, Part: 2, Device: 1, A: reg, B: 65535 - reg, C: 1}, api.OK)
	}
	for reg := range 8 {
		for _, c := range []int{0, 2, -1} {
			x.want(api.Step{Kind: api.StepReg, A: reg, B: 7, C: c}, api.Answer{Num: 100 + reg})
			x.want(api.Step{Kind: api.StepReg, Part: 2, Device: 1, A: reg, B: -7, C: c}, api.Answer{Num: 65535 - reg})
		}
	}
	x.code(api.Step{Kind: api.StepReg, A: 3, B: 65536, C: 1}, api.ErrRegsForm)
	x.code(api.Step{Kind: api.StepReg, A: 3, B: -1, C: 1}, api.ErrRegsForm)
	x.want(api.Step{Kind: api.StepReg, A: 3}, api.Answer{Num: 103})
	x.code(api.Step{Kind: api.StepReg, A: 8}, api.ErrRegsForm)
	x.code(api.Step{Kind: api.StepReg, A: -1, C: 1}, api.ErrRegsForm)
}

func TestReadAndWrite(t *testing.T) {
	x := start(t, sample())
	x.secret()
	x.want(api.Step{Kind: api.StepRead, A: 447, B: 1}, api.Answer{Code: int(api.ErrMonitorFrame)})
	x.want(api.Step{Kind: api.StepRead, A: 448, B: 64}, api.Answer{Data: strings.Repeat("a", 64)})
	x.want(api.Step{Kind: api.StepRead, A: 448, B: 65}, api.Answer{Code: int(api.ErrMonitorFrame)})
	x.want(api.Step{Kind: api.StepRead, Part: 1, A: 128, B: 192}, api.Answer{Data: strings.Repeat("b", 64) + strings.Repeat("j", 64) + strings.Repeat("i", 64)})
	x.want(api.Step{Kind: api.StepRead, Part: 1, A: 510, B: 2}, api.Answer{Data: "aa"})
	x.code(api.Step{Kind: api.StepWrite, Part: 1, A: 510, Data: "no"}, api.ErrMonitorFrame)
	x.code(api.Step{Kind: api.StepWrite, Part: 1, A: 190, Data: "fine"}, api.OK)
	x.code(api.Step{Kind: api.StepWrite, Part: 0, A: 190, Data: "fine"}, api.ErrMonitorFrame)
	x.want(api.Step{Kind: api.StepRead, A: 189, B: 3}, api.Answer{Data: "bfi"})
	// No bytes lie in no frame, wherever they are.
	x.want(api.Step{Kind: api.StepRead, Part: 2, A: 1280}, api.Answer{})
	x.code(api.Step{Kind: api.StepRead, Part: 2, A: 1281}, api.ErrMonitorFrame)
	x.code(api.Step{Kind: api.StepWrite, Part: 2, A: 600}, api.OK)
	x.code(api.Step{Kind: api.StepWrite, Part: 2, A: -1}, api.ErrMonitorFrame)
	for part := range 3 {
		for frame := range 21 {
			x.do(api.Step{Kind: api.StepWrite, Part: part, A: frame * 64, Data: strings.Repeat("w", 64)})
			x.do(api.Step{Kind: api.StepRead, Part: part, A: frame * 64, B: 64})
			x.hold("behind a frame")
		}
	}
	x.rest()
}

func TestSendAndReceive(t *testing.T) {
	x := start(t, sample())
	for i := range 10 {
		x.code(api.Step{Kind: api.StepSend, Part: 2 * (i % 2), A: 1, Data: strings.Repeat("m", i+1)}, api.OK)
	}
	x.code(api.Step{Kind: api.StepSend, Part: 0, A: 2, Data: "m"}, api.ErrNicLabel)
	x.code(api.Step{Kind: api.StepSend, Part: 1, A: 0, Data: "m"}, api.ErrNicLabel)
	x.code(api.Step{Kind: api.StepSend, Part: 0, A: 0, Data: strings.Repeat("m", 32)}, api.OK)
	x.code(api.Step{Kind: api.StepSend, Part: 0, A: 0, Data: strings.Repeat("m", 33)}, api.ErrNicForm)
	x.code(api.Step{Kind: api.StepSend, Part: 0, A: 0}, api.ErrNicForm)
	x.code(api.Step{Kind: api.StepSend, Part: 0, A: 3, Data: "m"}, api.ErrNicForm)
	for i := range 8 {
		x.want(api.Step{Kind: api.StepReceive, Part: 1, A: 2}, api.Answer{Num: 2 * (i % 2), Data: strings.Repeat("m", i+1)})
	}
	x.code(api.Step{Kind: api.StepReceive, Part: 1}, api.ErrNicNone)
	x.want(api.Step{Kind: api.StepReceive}, api.Answer{Data: strings.Repeat("m", 32)})
}
