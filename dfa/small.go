package dfa

import (
	"slices"

	"spyglass/api"
)

// Small is the least automaton of the same words.
func (d DFA) Small() (DFA, api.Errno) {
	if e := Check(d); e != api.OK {
		return DFA{}, e
	}
	kind := d.kinds()
	// Of each kind any state goes where the others go, but for kinds.
	one := make([]int, len(d.Next))
	for at, k := range kind {
		one[k] = at
	}
	step := func(k int) func(word int) int {
		return func(word int) int { return kind[d.Next[one[k]][word]] }
	}
	final := func(k int) bool { return d.Final[one[k]] }
	return build(slices.Clone(d.Syms), kind[0], step, final)
}

// kinds numbers the states so that those, and only those, have the same number from which the same is matched.
func (d DFA) kinds() []int {
	kind, n := alike(len(d.Next), func(at int) bool { return d.Final[at] })
	for {
		finer, m := alike(len(d.Next), func(at int) string { return d.trace(at, kind) })
		// No kind was split: so none is by longer rows either.
		if m == n {
			return kind
		}
		kind, n = finer, m
	}
}

// trace is a state's kind, and the kinds of those that it goes to, word by word. There are no more kinds than states: each is a byte.
func (d DFA) trace(at int, kind []int) string {
	l := make([]byte, 0, 1+len(d.Syms))
	l = append(l, byte(kind[at]))
	for _, to := range d.Next[at] {
		l = append(l, byte(kind[to]))
	}
	return string(l)
}

// alike numbers things, from 0 on, so that those, and only those, have the same number that have the same key; and tells how many numbers there are.
func alike[K comparable](things int, key func(i int) K) ([]int, int) {
	number := map[K]int{}
	l := make([]int, things)
	for i := range things {
		k := key(i)
		n, ok := number[k]
		if !ok {
			n = len(number)
			number[k] = n
		}
		l[i] = n
	}
	return l, len(number)
}
