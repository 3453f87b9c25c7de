package nic

import (
	"slices"

	"caisson/api"
)

// letter is a message whose bytes are its own, so that nothing that was sent is kept, and nothing that is told of it is shared.
type letter struct {
	from int
	// size is how many of bytes there are.
	size  int
	bytes [api.MaxMessage]byte
}

// queue is the letters that wait for one partition.
type queue struct {
	// count is how many of letters there are.
	count   int
	letters [api.MaxQueue]letter
	// drops is how many came when the row was full; it stays at MaxDrops, so that it never begins anew.
	drops int
}

// letterOf is the letter of data from a partition.
func letterOf(from int, data string) letter {
	l := letter{from: from}
	l.size = copy(l.bytes[:], data)
	return l
}

// message is what a letter tells.
func (l letter) message() api.Message {
	return api.Message{From: l.from, Data: string(l.bytes[:l.size])}
}

// add makes l the last letter, or only counts it if the queue is full.
func (q *queue) add(l letter) {
	if q.count == api.MaxQueue {
		q.drops = min(q.drops+1, api.MaxDrops)
		return
	}
	q.letters[q.count] = l
	q.count++
}

// take answers the first letter, which is gone then, if there is one.
func (q *queue) take() (letter, bool) {
	row := q.row()
	if len(row) == 0 {
		return letter{}, false
	}
	first := row[0]
	q.count = len(slices.Delete(row, 0, 1))
	return first, true
}

// row is the letters that there are, the first one first.
func (q *queue) row() []letter {
	return q.letters[:q.count]
}
