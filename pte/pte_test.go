package pte_test

import (
	"math"
	"sync"
	"testing"

	"caisson/api"
	"caisson/pte"
)

// words are those of all entries, by the numbers of P4.1.
func words() map[int]api.Entry {
	all := map[int]api.Entry{0: {}}
	for frame := range api.MaxFrames {
		for _, perm := range []int{api.PermRead, api.PermWrite, api.PermBoth} {
			all[1+perm*2+frame*4096] = api.Entry{Frame: frame, Perm: perm}
		}
	}
	return all
}

// edges are numbers round which an entry, or a word, is one no more.
func edges() []int {
	numbers := []int{math.MinInt, math.MinInt + 1, math.MinInt / 2, -1 << 32, math.MinInt32, math.MaxInt32, math.MaxUint32, 1 << 32, math.MaxInt / 2, math.MaxInt - 1, math.MaxInt}
	for i := range 2*api.MaxFrames + 20 {
		numbers = append(numbers, i-10)
	}
	return numbers
}

func TestWordsOfEntries(t *testing.T) {
	for _, c := range []struct {
		name string
		e    api.Entry
		word int
	}{
		{"not there", api.Entry{}, 0},
		{"the first frame, to read", api.Entry{Frame: 0, Perm: api.PermRead}, 3},
		{"the first frame, to write", api.Entry{Frame: 0, Perm: api.PermWrite}, 5},
		{"the first frame, both", api.Entry{Frame: 0, Perm: api.PermBoth}, 7},
		{"a frame, to read", api.Entry{Frame: 1, Perm: api.PermRead}, 4099},
		{"a frame, both", api.Entry{Frame: 10, Perm: api.PermBoth}, 40967},
		{"the last frame, to read", api.Entry{Frame: 63, Perm: api.PermRead}, 258051},
		{"the last frame, to write", api.Entry{Frame: 63, Perm: api.PermWrite}, 258053},
		{"the last frame, both", api.Entry{Frame: 63, Perm: api.PermBoth}, 258055},
	} {
		if !pte.May(c.e) {
			t.Errorf("P4.1: %s: May(%v) = false", c.name, c.e)
		}
		if got, e := pte.Put(c.e); got != c.word || e != api.OK {
			t.Errorf("P4.1: %s: Put(%v) = %d, %d, want %d", c.name, c.e, got, e, c.word)
		}
		if got, e := pte.Get(c.word); got != c.e || e != api.OK {
			t.Errorf("P4.1: %s: Get(%d) = %v, %d, want %v", c.name, c.word, got, e, c.e)
		}
	}
}

func TestAllEntriesThereAndBack(t *testing.T) {
	all := words()
	if len(all) != 1+3*api.MaxFrames {
		t.Fatalf("P4.1: %d words", len(all))
	}
	for word, entry := range all {
		if !pte.May(entry) {
			t.Errorf("P4.1: May(%v) = false", entry)
		}
		if got, e := pte.Put(entry); got != word || e != api.OK {
			t.Errorf("P4.1: Put(%v) = %d, %d, want %d", entry, got, e, word)
		}
		if got, e := pte.Get(word); got != entry || e != api.OK {
			t.Errorf("P4.1: Get(%d) = %v, %d, want %v", word, got, e, entry)
		}
	}
}

func TestOnlyThoseEntriesMayBe(t *testing.T) {
	may := map[api.Entry]int{}
	for word, entry := range words() {
		may[entry] = word
	}
	for _, frame := range edges() {
		for _, perm := range edges() {
			entry := api.Entry{Frame: frame, Perm: perm}
			if _, ok := may[entry]; ok {
				continue
			}
			if pte.May(entry) {
				t.Errorf("P4.1: May(%v) = true", entry)
			}
			if got, e := pte.Put(entry); got != 0 || e != api.ErrPteForm {
				t.Errorf("P4.1: Put(%v) = %d, %d", entry, got, e)
			}
		}
	}
}

func TestRefusedEntries(t *testing.T) {
	for _, c := range []struct {
		name string
		e    api.Entry
	}{
		{"not there, but a frame", api.Entry{Frame: 1}},
		{"not there, but the last frame", api.Entry{Frame: api.MaxFrames - 1}},
		{"not there, a frame below 0", api.Entry{Frame: -1}},
		{"a Perm behind the last", api.Entry{Perm: api.PermBoth + 1}},
		{"a Perm below 0", api.Entry{Perm: -1}},
		{"a Perm whose lowest bits are one", api.Entry{Frame: 5, Perm: 4 + api.PermBoth}},
		{"a frame behind the last", api.Entry{Frame: api.MaxFrames, Perm: api.PermRead}},
		{"a frame below 0, both", api.Entry{Frame: -1, Perm: api.PermBoth}},
		{"a frame of more than 32 bits", api.Entry{Frame: 1 << 32, Perm: api.PermRead}},
		{"a frame whose shift is 0", api.Entry{Frame: 1 << 52, Perm: api.PermRead}},
		{"a Perm whose shift is 0", api.Entry{Perm: math.MinInt}},
	} {
		if pte.May(c.e) {
			t.Errorf("P4.1: %s: May(%v) = true", c.name, c.e)
		}
		if got, e := pte.Put(c.e); got != 0 || e != api.ErrPteForm {
			t.Errorf("P4.1: %s: Put(%v) = %d, %d", c.name, c.e, got, e)
		}
	}
}

// refuse holds a word to be that of no entry.
func refuse(t *testing.T, name string, word int) {
	t.Helper()
	if got, e := pte.Get(word); got != (api.Entry{}) || e != api.ErrPteForm {
		t.Errorf("P4.1: %s: Get(%d) = %v, %d", name, word, got, e)
	}
}

func TestWordsOfNoEntry(t *testing.T) {
	all := words()
	for i := range 1<<19 + 1<<13 {
		word := i - 1<<13
		if _, ok := all[word]; !ok {
			refuse(t, "near", word)
		}
	}
	for _, word := range edges() {
		if _, ok := all[word]; !ok {
			refuse(t, "an edge", word)
		}
	}
}

func TestRefusedWords(t *testing.T) {
	for _, c := range []struct {
		name string
		word int
	}{
		{"there, of no Perm", 1},
		{"a Perm, not there", 2},
		{"all of a Perm, not there", 6},
		{"a bit behind the Perm", 8 + 3},
		{"a bit ahead of the frame", 2048 + 3},
		{"a frame alone", 4096},
		{"a frame of no Perm", 4096 + 1},
		{"a frame behind the last", api.MaxFrames*4096 + 3},
		{"a bit behind the frame", 1<<18 + 7},
		{"the highest bit of a word", 1<<31 + 3},
		{"all bits of a word", math.MaxUint32},
		{"more than a word", 1<<32 + 3},
		{"below 0", -1},
		{"below 0, an entry's lowest bits", math.MinInt + 7},
		{"one below 0, an entry's lowest bits", -4096 + 3},
	} {
		refuse(t, c.name, c.word)
	}
}

func TestEachBitBesideAnEntrys(t *testing.T) {
	all := words()
	for word := range all {
		for bit := range 64 {
			other := word ^ 1<<bit
			if _, ok := all[other]; !ok {
				refuse(t, "another bit", other)
			}
		}
	}
}

func TestFromSeveralGoroutines(t *testing.T) {
	all := words()
	var group sync.WaitGroup
	for range 8 {
		group.Go(func() {
			for word, entry := range all {
				got, e := pte.Put(entry)
				back, f := pte.Get(word)
				if got != word || e != api.OK || back != entry || f != api.OK {
					t.Errorf("R5: %v: %d, %d; %d: %v, %d", entry, got, e, word, back, f)
				}
			}
		})
	}
	group.Wait()
}
