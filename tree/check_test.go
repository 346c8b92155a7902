package tree_test

import (
	"slices"
	"strings"
	"testing"
	"unicode/utf8"

	"spyglass/api"
	"spyglass/names"
	"spyglass/tree"
)

// characters tells by other means whether a text is of characters alone.
func characters(s string) bool {
	return utf8.ValidString(s) && !strings.ContainsFunc(s, func(r rune) bool {
		return r < 32 && r != 9 && r != 10 && r != 13 || r == 0xfffe || r == 0xffff
	})
}

// wrongOf tells by other means what is wrong with a tree: all that is, and the first of that.
func wrongOf(t api.Tree) api.Errno {
	is := map[api.Errno]bool{}
	all := walked(t)
	is[api.ErrBound] = len(all) > 4096
	for _, n := range all {
		is[api.ErrBound] = is[api.ErrBound] || len(n.path) > 31
		x := n.t
		if x.Label == "" {
			is[api.ErrForm] = is[api.ErrForm] || len(x.Attrs)+len(x.Kids) > 0
			is[api.ErrEmpty] = is[api.ErrEmpty] || x.Text == ""
		} else {
			is[api.ErrForm] = is[api.ErrForm] || x.Text != ""
			is[api.ErrName] = is[api.ErrName] || !names.Is(x.Label)
		}
		is[api.ErrUTF] = is[api.ErrUTF] || !characters(x.Text)
		for i, a := range x.Attrs {
			is[api.ErrName] = is[api.ErrName] || !names.Is(a.Name)
			is[api.ErrUTF] = is[api.ErrUTF] || !characters(a.Value)
			is[api.ErrOrder] = is[api.ErrOrder] || i > 0 && strings.Compare(x.Attrs[i-1].Name, a.Name) != -1
		}
		for i, k := range x.Kids {
			is[api.ErrThere] = is[api.ErrThere] || i > 0 && k.Label == "" && x.Kids[i-1].Label == ""
		}
	}
	for _, e := range []api.Errno{api.ErrBound, api.ErrForm, api.ErrName, api.ErrUTF, api.ErrEmpty, api.ErrOrder, api.ErrThere} {
		if is[e] {
			return e
		}
	}
	return api.OK
}

func TestP4_1_Check(t *testing.T) {
	name64 := strings.Repeat("n", 64)
	for i, c := range []struct {
		t api.Tree
		e api.Errno
	}{
		{leaf("x"), api.OK},
		{leaf(" \t\r\n<&\"\u00e9\U0001f600"), api.OK},
		{elem("a"), api.OK},
		{elem(name64), api.OK},
		{with(elem("a"), "b", "", "c", "x", name64, "\u00e9"), api.OK},
		{with(elem("a"), "B", "", "_", "", "b", "", "b-", "", "b.", "", "b0", "", "ba", ""), api.OK},
		{elem("a", leaf("x"), elem("a"), leaf("y"), elem("b"), elem("c"), leaf("z")), api.OK},
		{api.Tree{Label: "a", Attrs: []api.Attr{}, Kids: []api.Tree{}}, api.OK},
		{api.Tree{Text: "a", Attrs: []api.Attr{}, Kids: []api.Tree{}}, api.OK},
		// ErrForm
		{with(leaf("x"), "a", ""), api.ErrForm},
		{api.Tree{Text: "x", Kids: []api.Tree{elem("a")}}, api.ErrForm},
		{api.Tree{Kids: []api.Tree{elem("a")}}, api.ErrForm},
		{api.Tree{Attrs: []api.Attr{{}}}, api.ErrForm},
		{api.Tree{Label: "a", Text: "x"}, api.ErrForm},
		{elem("a", elem("b", api.Tree{Label: "c", Text: "x"})), api.ErrForm},
		// ErrName
		{elem("1"), api.ErrName},
		{elem(name64 + "n"), api.ErrName},
		{elem("a:b"), api.ErrName},
		{elem("\u00e9"), api.ErrName},
		{elem("\xff"), api.ErrName},
		{elem(" "), api.ErrName},
		{with(elem("a"), "", ""), api.ErrName},
		{with(elem("a"), "b", "", "b ", ""), api.ErrName},
		{with(elem("a"), "b", "", name64+"n", ""), api.ErrName},
		{elem("a", leaf("x"), elem("b", elem("-"))), api.ErrName},
		// ErrUTF
		{leaf("\x00"), api.ErrUTF},
		{leaf("ab\xff"), api.ErrUTF},
		{leaf("\ufffe"), api.ErrUTF},
		{leaf("\xed\xa0\x80"), api.ErrUTF},
		{with(elem("a"), "b", "x", "c", "\x1f"), api.ErrUTF},
		{elem("a", elem("b", elem("c"), leaf("\v"))), api.ErrUTF},
		// ErrEmpty
		{api.Tree{}, api.ErrEmpty},
		{elem("a", leaf("")), api.ErrEmpty},
		{elem("a", elem("b"), elem("c", elem("d"), leaf(""))), api.ErrEmpty},
		// ErrOrder
		{with(elem("a"), "b", "x", "b", "x"), api.ErrOrder},
		{with(elem("a"), "c", "x", "b", "x"), api.ErrOrder},
		{with(elem("a"), "b", "x", "c", "x", "c", "y"), api.ErrOrder},
		{with(elem("a"), "b", "x", "d", "x", "c", "y"), api.ErrOrder},
		{with(elem("a"), "b", "", "B", ""), api.ErrOrder},
		{with(elem("a"), "bb", "", "b", ""), api.ErrOrder},
		{elem("a", elem("b"), with(elem("a"), "b", "", "a", "")), api.ErrOrder},
		// ErrThere
		{elem("a", leaf("x"), leaf("y")), api.ErrThere},
		{elem("a", leaf("x"), elem("b"), leaf("y"), leaf("y")), api.ErrThere},
		{elem("a", elem("b", elem("c"), leaf("x"), leaf("x"), elem("c"))), api.ErrThere},
		{elem("a", elem("b", leaf("x")), leaf("x"), elem("b", leaf("x"))), api.OK},
	} {
		if e := tree.Check(c.t); e != c.e || e != wrongOf(c.t) {
			t.Errorf("%d: %v: %v", i, c.t, e)
		}
	}
}

// The first one named counts, at whatever node it is.
func TestP4_1_CheckOrder(t *testing.T) {
	faults := []struct {
		t api.Tree
		e api.Errno
	}{
		{chain(40), api.ErrBound},
		{api.Tree{Label: "a", Text: "x"}, api.ErrForm},
		{elem("1"), api.ErrName},
		{with(elem("a"), "b", "\xff"), api.ErrUTF},
		{elem("a", leaf("")), api.ErrEmpty},
		{with(elem("a"), "b", "", "a", ""), api.ErrOrder},
		{elem("a", leaf("x"), leaf("y")), api.ErrThere},
	}
	for i, a := range faults {
		for _, b := range faults[i:] {
			for _, x := range []api.Tree{elem("a", a.t, b.t), elem("a", b.t, a.t), elem("a", elem("b", b.t), a.t), elem("a", b.t, elem("b", elem("c"), a.t))} {
				if e := tree.Check(x); e != a.e {
					t.Errorf("%v, %v: %v", a.e, b.e, e)
				}
			}
		}
	}
	// within one node
	for i, x := range []api.Tree{
		{Text: "\x00", Attrs: []api.Attr{{Name: "1"}, {Name: "0"}}},
		with(elem("1"), "b", "\xff", "a", ""),
		with(elem("a", leaf("")), "b", "\xff", "a", ""),
		with(elem("a", leaf(""), leaf("")), "b", "", "a", ""),
		with(elem("a", leaf("x"), leaf("x")), "b", "", "a", ""),
		elem("a", leaf("x"), leaf("x")),
	} {
		if e := tree.Check(x); e != faults[i+1].e {
			t.Errorf("%d: %v", i, e)
		}
	}
}

func TestP4_1_CheckAll(t *testing.T) {
	all := append(some(), leaves()...)
	for _, x := range leaves() {
		for _, y := range leaves() {
			all = append(all, elem("a", x, y), with(elem("a", elem("b", x), y), "a", "x"))
		}
	}
	seen := map[api.Errno]int{}
	for _, x := range all {
		e := tree.Check(x)
		if seen[e]++; e != wrongOf(x) {
			t.Fatalf("%v: %v", x, e)
		}
	}
	if len(seen) != 7 {
		t.Error(seen)
	}
}

func TestP4_1_Bound(t *testing.T) {
	texts := elem("a")
	for range 4095 {
		texts.Kids = append(texts.Kids, leaf("x"))
	}
	bad := wide(4096)
	bad.Kids[4095] = leaf("")
	for i, c := range []struct {
		t api.Tree
		e api.Errno
	}{
		{chain(31), api.OK},
		{chain(32), api.OK},
		{chain(33), api.ErrBound},
		{chain(1 << 16), api.ErrBound},
		{elem("a", chain(31)), api.OK},
		{elem("a", elem("b"), chain(31), elem("c")), api.OK},
		{elem("a", elem("b"), chain(32), elem("c")), api.ErrBound},
		{elem("a", chain(31), chain(32)), api.ErrBound},
		{wide(4094), api.OK},
		{wide(4095), api.OK},
		{wide(4096), api.ErrBound},
		{elem("a", wide(4093)), api.OK},
		{elem("a", wide(4094)), api.OK},
		{elem("a", wide(4095)), api.ErrBound},
		{elem("a", wide(2046), wide(2047)), api.OK},
		{elem("a", wide(2047), wide(2047)), api.ErrBound},
		{texts, api.ErrThere},
		// ahead of all others, and what texts have as children counts
		{bad, api.ErrBound},
		{elem("", make([]api.Tree, 4095)...), api.ErrForm},
		{elem("", make([]api.Tree, 4096)...), api.ErrBound},
		{elem("1", chain(32)), api.ErrBound},
		{elem("a", leaf("x"), leaf("y"), elem("b", chain(31))), api.ErrBound},
	} {
		if e := tree.Check(c.t); e != c.e || e != wrongOfLong(c.t) {
			t.Errorf("%d: %v", i, e)
		}
	}
	// a long text is not many nodes
	if e := tree.Check(leaf(strings.Repeat("x", 1<<20))); e != api.OK {
		t.Error(e)
	}
}

// wrongOfLong is wrongOf, but of the deepest ones, whose paths are too long to be told.
func wrongOfLong(t api.Tree) api.Errno {
	if _, d := tree.Count(t); d > 1000 {
		return api.ErrBound
	}
	return wrongOf(t)
}

// A tree that stands within itself has no end, and is beyond bounds.
func TestP4_1_Endless(t *testing.T) {
	loop := make([]api.Tree, 3)
	for i := range loop {
		loop[i] = elem("a", loop...)
	}
	x := elem("a")
	x.Kids = loop
	for i := range loop {
		loop[i].Kids = loop
	}
	if e := tree.Check(x); e != api.ErrBound {
		t.Error(e)
	}
	if l, e := tree.Steps(x); e != api.ErrBound || len(l) > 0 {
		t.Error(e, l)
	}
	if y, e := tree.With(x, elem("b"), 0, 1); e != api.ErrBound || !same(y, api.Tree{}) {
		t.Error(e)
	}
	// it may share so much that its nodes are more than numbers
	for range 100 {
		x = elem("a", slices.Repeat([]api.Tree{x}, 100)...)
	}
	if e := tree.Check(x); e != api.ErrBound {
		t.Error(e)
	}
}

// What is asked of stays as it is.
func TestP4_1_Memory(t *testing.T) {
	for _, x := range some() {
		before := tree.Copy(x)
		tree.Check(x)
		tree.Count(x)
		tree.Compare(x, before)
		l, _ := tree.Steps(x)
		tree.Build(l...)
		for range tree.Walk(x) {
		}
		if !same(x, before) {
			t.Fatal(x)
		}
	}
}
