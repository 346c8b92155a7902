package tree

import (
	"slices"

	"spyglass/api"
	"spyglass/names"
	"spyglass/utf"
)

// fault is an error, and whether a node at a path has it.
type fault struct {
	e  api.Errno
	of func(path []int, n api.Tree) bool
}

// faults is all faults, in the order in which they count. They are asked of one tree: nodes are counted.
func faults() []fault {
	count := 0
	return []fault{
		{api.ErrBound, func(path []int, _ api.Tree) bool {
			count++
			return count > api.MaxNodes || len(path) >= api.MaxDepth
		}},
		{api.ErrForm, func(_ []int, n api.Tree) bool {
			if isText(n) {
				return len(n.Attrs) > 0 || len(n.Kids) > 0
			}
			return n.Text != ""
		}},
		{api.ErrName, func(_ []int, n api.Tree) bool {
			nameless := func(a api.Attr) bool { return !names.Is(a.Name) }
			return !isText(n) && !names.Is(n.Label) || slices.ContainsFunc(n.Attrs, nameless)
		}},
		{api.ErrUTF, func(_ []int, n api.Tree) bool {
			strange := func(a api.Attr) bool { return !written(a.Value) }
			return !written(n.Text) || slices.ContainsFunc(n.Attrs, strange)
		}},
		{api.ErrEmpty, func(_ []int, n api.Tree) bool {
			return isText(n) && n.Text == ""
		}},
		{api.ErrOrder, func(_ []int, n api.Tree) bool {
			return somePair(n.Attrs, func(a, b api.Attr) bool { return a.Name >= b.Name })
		}},
		{api.ErrThere, func(_ []int, n api.Tree) bool {
			return somePair(n.Kids, func(a, b api.Tree) bool { return isText(a) && isText(b) })
		}},
	}
}

// written tells whether a text is of characters alone.
func written(s string) bool {
	_, e := utf.Check([]byte(s))
	return e == api.OK
}

// somePair tells whether two of a list, one behind the other, are so.
func somePair[T any](l []T, so func(a, b T) bool) bool {
	for i := 1; i < len(l); i++ {
		if so(l[i-1], l[i]) {
			return true
		}
	}
	return false
}
