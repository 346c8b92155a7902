package regex

import (
	"slices"

	"spyglass/api"
)

// maker makes a regular expression, node by node: what it made last is the part of what it makes next.
type maker struct {
	nodes []Node
	over  bool // that there were to be more nodes than may be
}

// add puts nodes behind.
func (m *maker) add(l ...Node) {
	// What is over is never handed out: no more is kept of it, however much it would grow.
	if m.over || len(m.nodes)+len(l) > api.MaxOps {
		m.over = true
		return
	}
	m.nodes = append(m.nodes, l...)
}

// copy puts nodes behind, whose parts stand so far behind the places that they tell.
func (m *maker) copy(l []Node, by int) {
	// A text may ask for copies of what is over again and again.
	if m.over {
		return
	}
	l = slices.Clone(l)
	for i := range l {
		switch l[i].Op {
		case Cat, Alt:
			l[i].A += by
			l[i].B += by
		case Star:
			l[i].A += by
		}
	}
	m.add(l...)
}

// last is the place of the last node.
func (m *maker) last() int { return len(m.nodes) - 1 }

// pair makes one of a kind of two parts, the one at a place and the last one.
func (m *maker) pair(kind, a int) { m.add(Node{Op: kind, A: a, B: m.last()}) }

// star makes the last one one that may come as often as may be.
func (m *maker) star() { m.add(Node{Op: Star, A: m.last()}) }

// made is what was made.
func (m *maker) made() (Regex, api.Errno) {
	if m.over {
		return Regex{}, api.ErrBound
	}
	return Regex{m.nodes}, api.OK
}
