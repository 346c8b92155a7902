package regex

import (
	"slices"

	"spyglass/api"
)

// Nullable tells whether nothing matches.
func (r Regex) Nullable() bool {
	_, end := r.step(true, nowhere)
	return end
}

// First is the places of words with which a match may begin.
func (r Regex) First() []int {
	next, _ := r.step(true, nowhere)
	return places(next)
}

// Next is the places of words that may follow a place.
func (r Regex) Next(at int) []int {
	next, _ := r.step(false, only(at))
	return places(next)
}

// Last tells whether a match may end with a place.
func (r Regex) Last(at int) bool {
	_, end := r.step(false, only(at))
	return end
}

// Match tells whether words match.
func (r Regex) Match(l ...string) bool {
	m, ok := matcherOf(r)
	if !ok {
		return false
	}
	next, end := m.step(true, nowhere)
	for _, w := range l {
		may := next
		next, end = m.step(false, func(at int) bool { return may[at] && m.nodes[at].Sym == w })
	}
	return end
}

// Symbols is all words that stand in it, rising.
func (r Regex) Symbols() []string {
	if Check(r) != api.OK {
		return nil
	}
	var l []string
	for _, n := range r.Nodes {
		if n.Op == Sym {
			l = append(l, n.Sym)
		}
	}
	slices.Sort(l)
	return slices.Compact(l)
}

// nowhere is where no place is.
func nowhere(int) bool { return false }

// only is where just one place is.
func only(at int) func(int) bool {
	return func(p int) bool { return p == at }
}

// places is those that are so, rising.
func places(so []bool) []int {
	var l []int
	for at, is := range so {
		if is {
			l = append(l, at)
		}
	}
	return l
}

// step is the step of the expression's matcher; of one that may not be, nothing.
func (r Regex) step(begin bool, here func(at int) bool) ([]bool, bool) {
	m, ok := matcherOf(r)
	if !ok {
		return nil, false
	}
	return m.step(begin, here)
}

// matcher goes from word to word: it knows of each node whether it matches the row without words.
type matcher struct {
	nodes []Node
	empty []bool
}

// matcherOf is the matcher of a regular expression, if this one may be.
func matcherOf(r Regex) (matcher, bool) {
	if Check(r) != api.OK {
		return matcher{}, false
	}
	l := living(r.Nodes)
	empty := up(l, func(at int, told []bool) bool {
		switch n := l[at]; n.Op {
		case Empty, Star:
			return true
		case Cat:
			return told[n.A] && told[n.B]
		case Alt:
			return told[n.A] || told[n.B]
		}
		return false
	})
	return matcher{l, empty}, true
}

// living is nodes that match the same, but where each Sym that stands in no row that is matched is a None: else a step would tell places from where there is no way to the end.
func living(l []Node) []Node {
	dead := up(l, func(at int, told []bool) bool {
		switch n := l[at]; n.Op {
		case None:
			return true
		case Cat:
			return told[n.A] || told[n.B]
		case Alt:
			return told[n.A] && told[n.B]
		}
		return false
	})
	lives := down(l, true, func(at int, told bool) (bool, bool) {
		if n := l[at]; n.Op == Cat {
			return told && !dead[n.B], told && !dead[n.A]
		}
		return told, told
	})
	l = slices.Clone(l)
	for i, n := range l {
		if n.Op == Sym && !lives[i] {
			l[i] = Node{Op: None}
		}
	}
	return l
}

// step tells at which places the next word may be, and whether there need be none. The last word was at one of the places that are here; at the beginning there was none.
func (m matcher) step(begin bool, here func(at int) bool) ([]bool, bool) {
	last := len(m.nodes) - 1
	ends := up(m.nodes, func(at int, told []bool) bool {
		switch n := m.nodes[at]; n.Op {
		case Sym:
			return here(at)
		case Cat:
			return told[n.B] || told[n.A] && m.empty[n.B]
		case Alt:
			return told[n.A] || told[n.B]
		case Star:
			return told[n.A]
		}
		return false
	})
	next := down(m.nodes, begin, func(at int, told bool) (bool, bool) {
		switch n := m.nodes[at]; n.Op {
		case Cat:
			return told, ends[n.A] || told && m.empty[n.A]
		case Star:
			return told || ends[n.A], false
		}
		return told, told
	})
	for i, n := range m.nodes {
		next[i] = next[i] && n.Op == Sym
	}
	return next, ends[last] || begin && m.empty[last]
}

// up is what is told of each node, by what was told of its parts.
func up[T any](l []Node, tell func(at int, told []T) T) []T {
	told := make([]T, len(l))
	for i := range len(l) {
		told[i] = tell(i, told)
	}
	return told
}

// down is what is told of each node by the one whose part it is; of the last one it is told ahead.
func down(l []Node, last bool, tell func(at int, told bool) (a, b bool)) []bool {
	told := make([]bool, len(l))
	told[len(l)-1] = last
	for i := range len(l) {
		at := len(l) - 1 - i
		a, b := tell(at, told[at])
		switch n := l[at]; n.Op {
		case Cat, Alt:
			told[n.A], told[n.B] = a, b
		case Star:
			told[n.A] = a
		}
	}
	return told
}
