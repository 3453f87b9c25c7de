package nic_test

import (
	"math"
	"slices"
	"strings"
	"sync"
	"testing"

	"caisson/api"
	"caisson/nic"
)

// far are numbers that are no partition, no level and no set of categories.
var far = []int{
	math.MinInt, math.MinInt + 1, math.MinInt + 3, math.MinInt / 2, -1 << 32, math.MinInt32, -256, -16, -4, -3, -2, -1,
	16, 17, 255, 256, 257, 1 << 16, 1<<16 + 1, math.MaxInt32, math.MaxUint32, 1 << 32, 1<<32 + 1, 1<<32 + 3, math.MaxInt / 2, math.MaxInt - 1, math.MaxInt,
}

// four are labels, the first one below all others, the last two neither one over the other.
var four = []api.Label{{}, {Level: 1, Cats: 1}, {Level: 2, Cats: 3}, {Level: 2, Cats: 4}}

// letters is all that a message may have, and more.
var letters = strings.Repeat("abcdefghijklmnopqrstuvwxyz", 4)

// numbers is a row of numbers.
type numbers uint64

// next is a number from 0 below n.
func (r *numbers) next(n int) int {
	*r = *r*6364136223846793005 + 1442695040888963407
	return int(uint64(*r) >> 33 % uint64(n))
}

// text is so many bytes, which hang on what goes ahead in the row.
func (r *numbers) text(n int) string {
	b := make([]byte, n)
	for i := range b {
		b[i] = byte(r.next(256))
	}
	return string(b)
}

// over tells whether a label dominates another, category by category.
func over(a, b api.Label) bool {
	for cat := range 4 {
		if b.Cats>>cat%2 == 1 && a.Cats>>cat%2 == 0 {
			return false
		}
	}
	return a.Level >= b.Level
}

// pair is a Switch, and what it is held against: all that came to each partition and was not received yet, and what was one too many.
type pair struct {
	t       *testing.T
	nic     *nic.Switch
	labels  []api.Label
	queues  [][]api.Message
	dropped []int
}

// made is a pair of such a switch, whose queues are empty.
func made(t *testing.T, labels ...api.Label) *pair {
	t.Helper()
	s, e := nic.New(labels...)
	if s == nil || e != api.OK {
		t.Fatalf("P20.1: New(%v) = %v, %d", labels, s, e)
	}
	x := &pair{t: t, nic: s, labels: slices.Clone(labels), queues: make([][]api.Message, len(labels)), dropped: make([]int, len(labels))}
	x.check()
	return x
}

// has tells whether there is such a partition.
func (x *pair) has(part int) bool {
	return part >= 0 && part < len(x.labels)
}

// check holds all queues and counts, and those of partitions that are not there, against the plain rows.
func (x *pair) check() {
	x.t.Helper()
	for part := -1; part <= api.MaxParts; part++ {
		x.told(part)
	}
}

// told holds a partition's queue and count against the plain row.
func (x *pair) told(part int) {
	x.t.Helper()
	var queue []api.Message
	dropped := 0
	if x.has(part) {
		queue, dropped = x.queues[part], x.dropped[part]
	}
	if got := x.nic.Queue(part); !slices.Equal(got, queue) {
		x.t.Fatalf("P20.2: Queue(%d) = %v, want %v", part, got, queue)
	}
	if got := x.nic.Dropped(part); got != dropped {
		x.t.Fatalf("P20.2: Dropped(%d) = %d, want %d", part, got, dropped)
	}
}

// refusal is the error of such a Send, or OK.
func (x *pair) refusal(from, to int, data string) api.Errno {
	switch {
	case !x.has(from) || !x.has(to) || data == "" || len(data) > 32:
		return api.ErrNicForm
	case !over(x.labels[to], x.labels[from]):
		return api.ErrNicLabel
	}
	return api.OK
}

// send sends in both.
func (x *pair) send(from, to int, data string) {
	x.t.Helper()
	e := x.refusal(from, to, data)
	switch {
	case e != api.OK:
	case len(x.queues[to]) == 8:
		x.dropped[to] = min(x.dropped[to]+1, 65535)
	default:
		x.queues[to] = append(x.queues[to], api.Message{From: from, Data: data})
	}
	if f := x.nic.Send(from, to, data); f != e {
		x.t.Fatalf("P20.1: Send(%d, %d, %q) = %d, want %d", from, to, data, f, e)
	}
	x.check()
}

// receive receives from both.
func (x *pair) receive(part int) {
	x.t.Helper()
	want, e := api.Message{}, api.OK
	switch {
	case !x.has(part):
		e = api.ErrNicForm
	case len(x.queues[part]) == 0:
		e = api.ErrNicNone
	default:
		want, x.queues[part] = x.queues[part][0], x.queues[part][1:]
	}
	if got, f := x.nic.Receive(part); got != want || f != e {
		x.t.Fatalf("P20.2: Receive(%d) = %v, %d, want %v, %d", part, got, f, want, e)
	}
	x.check()
}

// fill sends so many messages from a partition, no two of which are alike.
func (x *pair) fill(from, to, n int) {
	x.t.Helper()
	for i := range n {
		x.send(from, to, letters[i:i+1+i%4])
	}
}

func TestNewOfEach(t *testing.T) {
	for count := range api.MaxParts {
		for level := range api.MaxLevel + 1 {
			for cats := range api.MaxCats + 1 {
				labels := slices.Repeat([]api.Label{{Level: level, Cats: cats}}, count+1)
				made(t, labels...).fill(0, count, 2)
			}
		}
		made(t, four[:count+1]...)
	}
}

// refused holds such a New to be refused.
func refused(t *testing.T, labels ...api.Label) {
	t.Helper()
	if s, e := nic.New(labels...); s != nil || e != api.ErrNicForm {
		t.Errorf("P20.1: New of %d labels, %v = %v, %d", len(labels), labels[:min(len(labels), 5)], s, e)
	}
}

func TestNewRefusesCounts(t *testing.T) {
	refused(t)
	refused(t, []api.Label{}...)
	for _, n := range []int{5, 6, 8, 255, 256, 257, 260, 65536, 65537, 65540} {
		refused(t, make([]api.Label, n)...)
	}
}

func TestNewRefusesLabels(t *testing.T) {
	for _, n := range append([]int{4, 5, 8}, far...) {
		for count := range api.MaxParts {
			for part := range count + 1 {
				labels := slices.Clone(four[:count+1])
				labels[part].Level = n
				refused(t, labels...)
				if n > 0 && n <= api.MaxCats {
					continue
				}
				labels[part].Cats = n
				refused(t, labels...)
				labels[part].Level = 3
				refused(t, labels...)
			}
		}
	}
}

func TestSendOfEachLabel(t *testing.T) {
	var all []api.Label
	for level := range api.MaxLevel + 1 {
		for cats := range api.MaxCats + 1 {
			all = append(all, api.Label{Level: level, Cats: cats})
		}
	}
	for _, a := range all {
		for _, b := range all {
			x := made(t, a, b)
			x.send(0, 1, "up")
			x.send(1, 0, "down")
			x.send(0, 0, "its own")
			x.receive(1)
			x.receive(0)
			x.receive(0)
		}
	}
}

func TestLabelErrorHangsOnNothingElse(t *testing.T) {
	x := made(t, four...)
	for round := range 12 {
		for from := range api.MaxParts {
			for to := range api.MaxParts {
				x.send(from, to, letters[round:round+1+from])
			}
		}
	}
	for part := range api.MaxParts {
		if len(x.queues[part]) != 8 {
			t.Fatalf("P20.1: %d in the queue of %d", len(x.queues[part]), part)
		}
	}
}

func TestSendOfEachLength(t *testing.T) {
	for n := range 70 {
		x := made(t, four[:2]...)
		x.send(0, 1, letters[:n])
		x.send(1, 1, letters[1:n+1])
		x.send(1, 0, letters[:n])
		x.receive(1)
		x.receive(1)
	}
	x := made(t, four[:2]...)
	for _, n := range []int{1 << 8, 1<<8 + 1, 1 << 16, 1<<16 + 1, 1<<20 + 32} {
		x.send(0, 1, strings.Repeat("x", n))
	}
}

func TestFormAheadOfLabel(t *testing.T) {
	x := made(t, four[:2]...)
	for _, c := range []struct {
		from, to, n int
		want        api.Errno
	}{
		{1, 0, 1, api.ErrNicLabel}, {1, 0, 32, api.ErrNicLabel}, {1, 0, 0, api.ErrNicForm}, {1, 0, 33, api.ErrNicForm},
		{0, 1, 0, api.ErrNicForm}, {0, 1, 33, api.ErrNicForm}, {0, 0, 0, api.ErrNicForm}, {1, -1, 1, api.ErrNicForm},
		{1, 2, 1, api.ErrNicForm}, {2, 0, 1, api.ErrNicForm}, {-1, 0, 1, api.ErrNicForm}, {2, 2, 1, api.ErrNicForm}, {-1, -1, 0, api.ErrNicForm},
	} {
		if e := x.nic.Send(c.from, c.to, letters[:c.n]); e != c.want {
			t.Errorf("P20.1: Send(%d, %d, %d bytes) = %d, want %d", c.from, c.to, c.n, e, c.want)
		}
		x.check()
	}
}

func TestSenderIsToldNothingOfTheQueue(t *testing.T) {
	x := made(t, four[:2]...)
	for i := range 20 {
		if e := x.nic.Send(0, 1, "x"); e != api.OK {
			t.Errorf("P20.1: Send, behind %d others: %d", i, e)
		}
	}
}

func TestOnlyCountedOfEach(t *testing.T) {
	for n := range 25 {
		for _, received := range []int{0, 1, 3, 8, 9} {
			x := made(t, four...)
			x.fill(0, 2, n)
			for range received {
				x.receive(2)
			}
			x.fill(1, 2, 3)
			x.receive(2)
			// What is received is not counted, nor what was sent to others.
			x.fill(0, 1, 9)
			x.receive(2)
		}
	}
}

func TestReceiveMakesRoomForAsMany(t *testing.T) {
	for received := range 9 {
		x := made(t, four...)
		x.fill(0, 3, 10)
		for range received {
			x.receive(3)
		}
		for range received {
			x.send(3, 3, "room")
		}
		x.send(3, 3, "no room")
		for range 9 {
			x.receive(3)
		}
	}
}

func TestTheCountStaysAtItsMost(t *testing.T) {
	x := made(t, four...)
	x.fill(0, 1, 8)
	for dropped := range api.MaxDrops + 300 {
		if got := x.nic.Dropped(1); got != min(dropped, api.MaxDrops) {
			t.Fatalf("P20.1: Dropped(1) = %d, want %d", got, min(dropped, api.MaxDrops))
		}
		if e := x.nic.Send(0, 1, "x"); e != api.OK {
			t.Fatalf("P20.1: Send, behind %d: %d", dropped, e)
		}
	}
	x.dropped[1] = api.MaxDrops
	x.check()
	// Receiving takes nothing from the count, and refusals add nothing to any.
	for range 9 {
		x.receive(1)
	}
	x.fill(0, 1, 10)
	x.send(2, 1, "x")
	x.fill(0, 2, 10)
}

func TestAlmostAsManyAsAreCounted(t *testing.T) {
	for _, dropped := range []int{255, 256, 257, 1 << 15, api.MaxDrops - 1, api.MaxDrops, api.MaxDrops + 1} {
		x := made(t, four[:1]...)
		x.fill(0, 0, 8)
		for range dropped {
			x.nic.Send(0, 0, "x")
		}
		x.dropped[0] = min(dropped, api.MaxDrops)
		x.check()
		x.send(0, 0, "y")
	}
}

func TestReceiveFromAnEmptyQueue(t *testing.T) {
	x := made(t, four...)
	for part := range api.MaxParts {
		x.receive(part)
		x.send(part, part, "one")
		x.receive(part)
		x.receive(part)
		x.receive(part)
		x.fill(part, part, 2)
	}
}

func TestNoPartition(t *testing.T) {
	for count := range api.MaxParts {
		x := made(t, make([]api.Label, count+1)...)
		x.fill(count, 0, 9)
		for _, n := range append([]int{count + 1, 4, 5, 8}, far...) {
			x.send(n, 0, "x")
			x.send(0, n, "x")
			x.send(n, n, "x")
			x.send(n, n, "")
			x.receive(n)
			x.told(n)
		}
	}
}

func TestAnyBytes(t *testing.T) {
	x := made(t, four[:2]...)
	all := make([]byte, 256)
	for i := range all {
		all[i] = byte(i)
	}
	for run := range slices.Chunk(all, api.MaxMessage) {
		x.send(0, 1, string(run))
	}
	for range api.MaxQueue {
		x.receive(1)
	}
	for _, data := range []string{"\x00", "\x00\x00\x00", "end\x00", "\xff\xc3\x28\xed\xa0\x80é\r\n\x00\x7f\x80", strings.Repeat("\xff", 32), strings.Repeat("é", 16)} {
		x.send(0, 1, data)
	}
	// Sixteen letters and one more: it's bytes that are counted.
	x.send(0, 1, strings.Repeat("é", 17))
}

func TestAShortMessageBehindALongOne(t *testing.T) {
	x := made(t, four[:1]...)
	for n := 32; n > 0; n-- {
		x.send(0, 0, letters[:n])
		if n%3 > 0 {
			x.receive(0)
		}
	}
}

func TestLongScripts(t *testing.T) {
	r := numbers(20)
	for script := range 80 {
		labels := slices.Clone(four[:1+script%api.MaxParts])
		for i := range labels {
			if script > 20 {
				labels[i] = api.Label{Level: r.next(3), Cats: r.next(4)}
			}
		}
		x := made(t, labels...)
		for range 500 {
			part := r.next(len(labels)+2) - 1
			switch r.next(3 + script%3) {
			case 0:
				x.receive(part)
			default:
				x.send(r.next(len(labels)+2)-1, part, r.text(r.next(34)))
			}
		}
	}
}

func TestLabelsAreNotTouched(t *testing.T) {
	room := slices.Clone(four)
	x := made(t, room[:2]...)
	x.fill(0, 1, 9)
	if !slices.Equal(room, four) {
		t.Fatalf("R4: %v, want %v", room, four)
	}
	// They aren't kept: what becomes of them behind the call is nothing to the switch.
	room[0], room[1] = four[2], four[0]
	x.send(0, 1, "up")
	x.send(1, 0, "down")
}

func TestQueueSharesNothing(t *testing.T) {
	for n := range api.MaxQueue + 2 {
		x := made(t, four...)
		x.fill(0, 1, n)
		first, second := x.nic.Queue(1), x.nic.Queue(1)
		for i := range first[:cap(first)] {
			first[:cap(first)][i] = api.Message{From: 9, Data: "turned"}
		}
		if !slices.Equal(second, x.queues[1]) {
			t.Fatalf("R4: %v, want %v", second, x.queues[1])
		}
		x.check()
		was := slices.Clone(second)
		x.receive(1)
		x.fill(1, 1, 3)
		if !slices.Equal(second, was) {
			t.Fatalf("R4: %v, want %v", second, was)
		}
	}
}

func TestAskingChangesNothing(t *testing.T) {
	x := made(t, four...)
	x.fill(0, 3, 11)
	for range 3 {
		x.check()
	}
	x.receive(3)
	x.check()
}

func TestSwitchesShareNothing(t *testing.T) {
	a, b := made(t, four...), made(t, four[2], four[0])
	a.fill(0, 1, 9)
	b.check()
	b.fill(1, 0, 4)
	b.send(0, 1, "down")
	a.check()
	a.receive(0)
	b.receive(0)
	a.receive(1)
}

func TestACopySharesNothing(t *testing.T) {
	x := made(t, four[:2]...)
	x.fill(0, 1, 9)
	kept := *x.nic
	was, dropped := slices.Clone(x.queues[1]), x.dropped[1]
	x.fill(0, 0, 2)
	x.receive(1)
	x.send(1, 1, "new")
	x.send(1, 1, "one too many")
	if got := kept.Queue(1); !slices.Equal(got, was) || kept.Dropped(1) != dropped || len(kept.Queue(0)) != 0 {
		t.Errorf("R5: a copy: %v, want %v; %d", got, was, kept.Dropped(1))
	}
}

func TestNilSwitch(t *testing.T) {
	var none *nic.Switch
	for _, part := range append([]int{0, 1, 3, 4}, far...) {
		for _, data := range []string{"", "x", letters[:32], letters[:33]} {
			if e := none.Send(part, 0, data); e != api.ErrNil {
				t.Errorf("R3: Send(%d, 0, %q) = %d", part, data, e)
			}
			if e := none.Send(0, part, data); e != api.ErrNil {
				t.Errorf("R3: Send(0, %d, %q) = %d", part, data, e)
			}
		}
		if m, e := none.Receive(part); m != (api.Message{}) || e != api.ErrNil {
			t.Errorf("R3: Receive(%d) = %v, %d", part, m, e)
		}
		if queue, dropped := none.Queue(part), none.Dropped(part); len(queue) != 0 || dropped != 0 {
			t.Errorf("R3: Queue(%d) = %v, Dropped: %d", part, queue, dropped)
		}
	}
}

func TestSwitchThatIsNotNews(t *testing.T) {
	x := &pair{t: t, nic: &nic.Switch{}}
	for _, n := range append([]int{0, 1, 3, 4}, far...) {
		x.send(n, n, "x")
		x.send(n, 0, "")
		x.receive(n)
		x.told(n)
	}
}

func TestNewFromSeveralGoroutines(t *testing.T) {
	var group sync.WaitGroup
	for k := range 8 {
		group.Go(func() {
			data := letters[k : k+20]
			for range 300 {
				s, e := nic.New(four...)
				if e != api.OK || s.Send(0, 2, data) != api.OK || s.Send(2, 1, data) != api.ErrNicLabel {
					t.Errorf("R5: %d: New: %d", k, e)
					continue
				}
				if m, e := s.Receive(2); m != (api.Message{Data: data}) || e != api.OK {
					t.Errorf("R5: %d: Receive(2) = %v, %d", k, m, e)
				}
			}
		})
	}
	group.Wait()
}
