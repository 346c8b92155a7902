package dfa

import (
	"slices"

	"spyglass/api"
)

// none is in place of a state, where there is none.
const none = -1

// Both is the automaton of words that match two.
func Both(a, b DFA) (DFA, api.Errno) {
	if e := checkBoth(a, b); e != api.OK {
		return DFA{}, e
	}
	syms := rising(a.Syms, b.Syms)
	toA, toB := a.by(syms), b.by(syms)
	step := func(at pair) func(word int) pair {
		return func(word int) pair { return pair{toA(at.a, word), toB(at.b, word)} }
	}
	final := func(at pair) bool { return a.ends(at.a) && b.ends(at.b) }
	return build(syms, pair{}, step, final)
}

// Within tells whether all that matches a matches b; if not, the least words that match a alone.
func Within(a, b DFA) ([]string, bool, api.Errno) {
	if e := checkBoth(a, b); e != api.OK {
		return nil, false, e
	}
	// There may be more pairs than an automaton may have states, so they are numbered here; none, a -1, is counted ahead of the state 0.
	wide := len(b.Next) + 1
	number := func(p pair) int { return p.a*wide + p.b - none }
	pairAt := func(n int) pair { return pair{n / wide, n%wide + none} }
	toB := b.by(a.Syms)
	next := func(at, word int) int {
		p := pairAt(at)
		return number(pair{a.Next[p.a][word], toB(p.b, word)})
	}
	found := func(at int) bool {
		p := pairAt(at)
		return a.ends(p.a) && !b.ends(p.b)
	}
	l, ok := search(number(pair{}), len(a.Next)*wide, a.Syms, next, found)
	return l, !ok, api.OK
}

// pair is a state, or none, of each of two automata.
type pair struct{ a, b int }

// by tells where an automaton goes, from a state or from none, by words that need not be its own.
func (d DFA) by(syms []string) func(at, word int) int {
	own := make([]int, len(syms))
	for i, s := range syms {
		own[i] = none
		if word, ok := slices.BinarySearch(d.Syms, s); ok {
			own[i] = word
		}
	}
	return func(at, word int) int {
		if at == none || own[word] == none {
			return none
		}
		return d.Next[at][own[word]]
	}
}

// ends tells whether there is a state, and it is final.
func (d DFA) ends(at int) bool { return at != none && d.Final[at] }
