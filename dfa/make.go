package dfa

import (
	"math/bits"
	"slices"

	"spyglass/api"
	"spyglass/regex"
)

// Make is the automaton of a regular expression, over its words, and more.
func Make(r regex.Regex, more ...string) (DFA, api.Errno) {
	if e := regex.Check(r); e != api.OK {
		return DFA{}, e
	}
	if !named(more) {
		return DFA{}, api.ErrName
	}
	syms := rising(r.Symbols(), more)
	p := planOf(r, syms)
	return build(syms, state{begins: true}, p.step, p.final)
}

// build is the automaton of what begins, and of all that is come to from there. By its key a state is known when it is come to again.
func build[K comparable](syms []string, begin K, step func(at K) func(word int) K, final func(at K) bool) (DFA, api.Errno) {
	number := map[K]int{begin: 0}
	come := []K{begin}
	d := DFA{Syms: syms}
states:
	for at := 0; at < len(come); at++ {
		to := step(come[at])
		row := make([]int, len(syms))
		for word := range syms {
			k := to(word)
			n, ok := number[k]
			if !ok {
				n = len(come)
				number[k] = n
				come = append(come, k)
			}
			if n == api.MaxStates {
				break states
			}
			row[word] = n
		}
		d.Next = append(d.Next, row)
		d.Final = append(d.Final, final(come[at]))
	}
	if len(come) > api.MaxStates {
		return DFA{}, api.ErrBound
	}
	return d, api.OK
}

// places is a set of places of a regular expression, a bit each. It is an array, so that sets are the same if they have the same places.
type places [api.MaxOps / 64]uint64

// placesOf is the set of places of a list.
func placesOf(l []int) places {
	var s places
	for _, at := range l {
		s[at/64] |= 1 << (at % 64)
	}
	return s
}

// list is the places of a set, rising.
func (s places) list() []int {
	var l []int
	for i, w := range s {
		for ; w > 0; w &= w - 1 {
			l = append(l, i*64+bits.TrailingZeros64(w))
		}
	}
	return l
}

// with is the places of either set.
func (s places) with(o places) places {
	for i := range s {
		s[i] |= o[i]
	}
	return s
}

// within is the places of both sets.
func (s places) within(o places) places {
	for i := range s {
		s[i] &= o[i]
	}
	return s
}

// state is a state of a regular expression's automaton: what begins, or a set of places.
type state struct {
	begins bool
	places places
}

// plan is what an automaton asks of its regular expression, asked once.
type plan struct {
	nullable bool
	first    places
	next     []places // by places
	last     places
	words    []places // where each word stands
}

// planOf is the plan of a regular expression, for words that have all of its own.
func planOf(r regex.Regex, syms []string) plan {
	p := plan{nullable: r.Nullable(), first: placesOf(r.First()), next: make([]places, len(r.Nodes)), words: make([]places, len(syms))}
	for at, n := range r.Nodes {
		if n.Op != regex.Sym {
			continue
		}
		here := placesOf([]int{at})
		p.next[at] = placesOf(r.Next(at))
		if r.Last(at) {
			p.last = p.last.with(here)
		}
		word, _ := slices.BinarySearch(syms, n.Sym)
		p.words[word] = p.words[word].with(here)
	}
	return p
}

// step tells where a state goes by each word.
func (p plan) step(at state) func(word int) state {
	var next places
	if at.begins {
		next = p.first
	}
	for _, place := range at.places.list() {
		next = next.with(p.next[place])
	}
	return func(word int) state { return state{places: next.within(p.words[word])} }
}

// final tells whether a state is final.
func (p plan) final(at state) bool {
	if at.begins {
		return p.nullable
	}
	return at.places.within(p.last) != places{}
}
