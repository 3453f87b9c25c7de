package console

import (
	"strconv"
	"strings"

	"caisson/addr"
	"caisson/api"
	"caisson/lattice"
	"caisson/pte"
	"caisson/sched"
)

// command is one that a line may be: its first word, how many numbers stand behind it, and what is told of just so many.
type command struct {
	word  string
	count int
	tells func(numbers []int) (string, api.Errno)
}

// commands are all that there are.
func commands() []command {
	return []command{
		{word: "split", count: 2, tells: tellSplit},
		{word: "entry", count: 2, tells: tellEntry},
		{word: "word", count: 1, tells: tellWord},
		{word: "over", count: 4, tells: tellOver},
		{word: "next", count: 5, tells: tellNext},
	}
}

// tellSplit tells the pieces of a run of bytes; of no bytes, none.
func tellSplit(numbers []int) (string, api.Errno) {
	pieces, e := addr.Split(numbers[0], numbers[1])
	if e != api.OK {
		return "", e
	}
	var told []int
	for _, p := range pieces {
		told = append(told, p.Frame, p.Off, p.Len)
	}
	return inRow(told...), api.OK
}

// tellEntry tells an entry's word.
func tellEntry(numbers []int) (string, api.Errno) {
	w, e := pte.Put(api.Entry{Frame: numbers[0], Perm: numbers[1]})
	return inRow(w), e
}

// tellWord tells a word's entry.
func tellWord(numbers []int) (string, api.Errno) {
	found, e := pte.Get(numbers[0])
	return inRow(found.Frame, found.Perm), e
}

// tellOver tells whether a label dominates another; one that may not be dominates none, and is no error.
func tellOver(numbers []int) (string, api.Errno) {
	a := api.Label{Level: numbers[0], Cats: numbers[1]}
	b := api.Label{Level: numbers[2], Cats: numbers[3]}
	return truth(lattice.Dominates(a, b)), api.OK
}

// tellNext tells the tick at which the one window that there is delivers next.
func tellNext(numbers []int) (string, api.Errno) {
	const part = 0
	windows := []api.Window{{Part: part, Start: numbers[1], Len: numbers[2], Deliver: numbers[3]}}
	tick, e := sched.Next(windows, numbers[0], part, numbers[4])
	return inRow(tick), e
}

// truth is how a truth is told.
func truth(is bool) string {
	if is {
		return "yes"
	}
	return "no"
}

// inRow is how numbers are told.
func inRow(numbers ...int) string {
	words := make([]string, len(numbers))
	for i, n := range numbers {
		words[i] = strconv.Itoa(n)
	}
	return strings.Join(words, " ")
}
