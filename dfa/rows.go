package dfa

import (
	"cmp"
	"slices"

	"spyglass/api"
	"spyglass/queue"
)

// Least is the least words that match.
func (d DFA) Least() ([]string, api.Errno) {
	if e := Check(d); e != api.OK {
		return nil, e
	}
	next := func(at, word int) int { return d.Next[at][word] }
	found := func(at int) bool { return d.Final[at] }
	l, ok := search(0, len(d.Next), d.Syms, next, found)
	if !ok {
		return nil, api.ErrEmpty
	}
	return l, api.OK
}

// row is a row of words, and the state that it comes to: its last word, and what is ahead of this, as the number of a row that was taken out of the queue.
type row struct {
	state int
	ahead int
	word  int
}

// compare tells which of two rows is ahead. Rows are taken out in their order: what goes on from one that was taken out ahead of another is ahead of what goes on from that.
func (r row) compare(o row) int {
	return cmp.Or(cmp.Compare(r.ahead, o.ahead), cmp.Compare(r.word, o.word))
}

// search is the first row of words that comes to a state which is found, from the one that begins on. A row that comes where another one came ahead of it is not gone on from: what is found behind both is ahead there.
func search(begins, states int, syms []string, next func(at, word int) int, found func(at int) bool) ([]string, bool) {
	q, _ := queue.New(row.compare)
	come := make([]bool, states)
	put := func(r row) {
		if !come[r.state] {
			come[r.state] = true
			q.Put(r)
		}
	}
	put(row{state: begins, ahead: -1})
	var taken []row
	for q.Len() > 0 {
		r, _ := q.Take()
		if found(r.state) {
			return wordsOf(r, taken, syms), true
		}
		for word := range syms {
			put(row{next(r.state, word), len(taken), word})
		}
		taken = append(taken, r)
	}
	return nil, false
}

// wordsOf is the words of a row.
func wordsOf(r row, taken []row, syms []string) []string {
	var l []string
	for r.ahead >= 0 {
		l = append(l, syms[r.word])
		r = taken[r.ahead]
	}
	slices.Reverse(l)
	return l
}
