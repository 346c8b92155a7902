package tree

import "spyglass/api"

// Steps, with nothing that does not count for their kind.
func begin(label string) Step      { return Step{Kind: Begin, Name: label} }
func attr(name, value string) Step { return Step{Kind: Attr, Name: name, Text: value} }
func text(s string) Step           { return Step{Kind: Text, Text: s} }
func end() Step                    { return Step{Kind: End} }

// appendSteps is steps with those of a tree behind them.
func appendSteps(l []Step, t api.Tree) []Step {
	if isText(t) {
		return append(l, text(t.Text))
	}
	l = append(l, begin(t.Label))
	for _, a := range t.Attrs {
		l = append(l, attr(a.Name, a.Value))
	}
	for _, k := range t.Kids {
		l = appendSteps(l, k)
	}
	return append(l, end())
}

// built is the tree of steps, if they are a tree's, whatever may be wrong with it.
func built(l []Step) (api.Tree, bool) {
	// The elements that are open, within one that holds the whole.
	open := []api.Tree{{}}
	for _, s := range l {
		within := len(open) > 1
		top := &open[len(open)-1]
		switch {
		case s == begin(s.Name) && s.Name != "":
			open = append(open, api.Tree{Label: s.Name})
		case s == attr(s.Name, s.Text) && within && len(top.Kids) == 0:
			top.Attrs = append(top.Attrs, api.Attr{Name: s.Name, Value: s.Text})
		case s == text(s.Text):
			top.Kids = append(top.Kids, api.Tree{Text: s.Text})
		case s == end() && within:
			open = open[:len(open)-1]
			under := &open[len(open)-1]
			under.Kids = append(under.Kids, *top)
		default:
			return api.Tree{}, false
		}
	}
	whole := open[0].Kids
	if len(open) > 1 || len(whole) != 1 {
		return api.Tree{}, false
	}
	return whole[0], true
}
