package xml

import (
	"cmp"
	"slices"

	"spyglass/api"
	"spyglass/names"
	"spyglass/token"
)

// reader takes the pieces of a document, one behind the other.
type reader struct {
	// The elements that are open, each a child to be of the one ahead of it; the first one is none, but holds the whole.
	open []*api.Tree
}

// read is the tree of pieces; or false, and the number of the first piece with which they cannot be a document any more.
func read(l []token.Token) (api.Tree, int, bool) {
	r := reader{open: []*api.Tree{{}}}
	taken := 0
pieces:
	for _, p := range l {
		if take := r.taker(p.Kind); !take(p) {
			break pieces
		}
		taken++
	}
	if taken < len(l) || !r.whole() {
		return api.Tree{}, taken, false
	}
	return r.top().Kids[0], 0, true
}

// taker is what takes a piece of a kind: it answers whether this may be a document still.
func (r *reader) taker(kind int) func(token.Token) bool {
	switch kind {
	case token.Open:
		return r.takeOpen
	case token.Close:
		return r.takeClose
	case token.Text:
		return r.takeText
	}
	return r.pass
}

func (r *reader) takeOpen(p token.Token) bool {
	if r.whole() {
		return false
	}
	slices.SortFunc(p.Attrs, func(a, b api.Attr) int { return cmp.Compare(a.Name, b.Name) })
	t := api.Tree{Label: p.Name, Attrs: p.Attrs}
	if p.Empty {
		r.add(t)
		return true
	}
	r.open = append(r.open, &t)
	return true
}

func (r *reader) takeClose(p token.Token) bool {
	if r.outside() || r.top().Label != p.Name {
		return false
	}
	last := len(r.open) - 1
	t := r.open[last]
	// Cut so, the stack has no room left: what is opened next stands nowhere that another one stood.
	r.open = r.open[:last:last]
	r.add(*t)
	return true
}

func (r *reader) takeText(p token.Token) bool {
	if r.outside() {
		return names.Blank(p.Text)
	}
	if p.Text == "" {
		return true
	}
	kids := r.top().Kids
	// Comments between two texts left nothing behind.
	if last := len(kids) - 1; last >= 0 && isText(kids[last]) {
		kids[last].Text += p.Text
		return true
	}
	r.add(api.Tree{Text: p.Text})
	return true
}

// pass takes what is nothing of the tree.
func (r *reader) pass(token.Token) bool { return true }

// top is the last one of what is open.
func (r *reader) top() *api.Tree { return r.open[len(r.open)-1] }

// outside tells whether no element is open.
func (r *reader) outside() bool { return len(r.open) == 1 }

// whole tells whether the element has been: it is put in when it is shut, and nothing is open then.
func (r *reader) whole() bool { return len(r.open[0].Kids) > 0 }

// add is one child more of the last one of what is open.
func (r *reader) add(t api.Tree) {
	top := r.top()
	top.Kids = append(top.Kids, t)
}
