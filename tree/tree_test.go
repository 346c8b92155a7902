package tree_test

import (
	"cmp"
	"slices"
	"strings"
	"testing"

	"spyglass/api"
	"spyglass/tree"
)

// Steps, as tests write them.
func begin(s string) tree.Step   { return tree.Step{Kind: tree.Begin, Name: s} }
func attr(s, v string) tree.Step { return tree.Step{Kind: tree.Attr, Name: s, Text: v} }
func text(s string) tree.Step    { return tree.Step{Kind: tree.Text, Text: s} }
func end() tree.Step             { return tree.Step{Kind: tree.End} }

// leaf is a text.
func leaf(s string) api.Tree { return api.Tree{Text: s} }

// elem is an element with children.
func elem(label string, kids ...api.Tree) api.Tree { return api.Tree{Label: label, Kids: kids} }

// with is a tree with attributes of names and values, one behind the other.
func with(t api.Tree, attrs ...string) api.Tree {
	for i := 0; i < len(attrs); i += 2 {
		t.Attrs = append(t.Attrs, api.Attr{Name: attrs[i], Value: attrs[i+1]})
	}
	return t
}

// chain is a tree of that depth, with as many nodes.
func chain(depth int) api.Tree {
	t := elem("a")
	for range depth - 1 {
		t = elem("a", t)
	}
	return t
}

// wide is an element with so many children.
func wide(kids int) api.Tree {
	t := elem("a")
	for range kids {
		t.Kids = append(t.Kids, elem("b"))
	}
	return t
}

// same tells whether trees are the same, whatever their lists without elements are.
func same(a, b api.Tree) bool {
	return a.Label == b.Label && a.Text == b.Text && slices.Equal(a.Attrs, b.Attrs) && slices.EqualFunc(a.Kids, b.Kids, same)
}

// node is what Walk tells at once.
type node struct {
	path []int
	t    api.Tree
}

// walked tells by other means the nodes of a tree, level by level put in the order of their paths.
func walked(t api.Tree) []node {
	out := []node{{nil, t}}
	for i := 0; i < len(out); i++ {
		for k, kid := range out[i].t.Kids {
			out = append(out, node{append(slices.Clip(out[i].path), k), kid})
		}
	}
	slices.SortFunc(out, func(a, b node) int { return slices.Compare(a.path, b.path) })
	return out
}

// stepped tells by other means the steps of a tree, as it is.
func stepped(t api.Tree) []tree.Step {
	if t.Label == "" {
		return []tree.Step{text(t.Text)}
	}
	out := []tree.Step{begin(t.Label)}
	for _, a := range t.Attrs {
		out = append(out, attr(a.Name, a.Value))
	}
	for _, k := range t.Kids {
		out = append(out, stepped(k)...)
	}
	return append(out, end())
}

// compared tells by other means the order of trees, by their steps.
func compared(a, b []tree.Step) int {
	rank := []int{tree.End, tree.Text, tree.Begin, tree.Attr}
	return slices.CompareFunc(a, b, func(x, y tree.Step) int {
		return cmp.Or(cmp.Compare(slices.Index(rank, x.Kind), slices.Index(rank, y.Kind)), strings.Compare(x.Name, y.Name), strings.Compare(x.Text, y.Text))
	})
}

// leaves is elements and texts without children, all that may be wrong with one among them.
func leaves() []api.Tree {
	var out []api.Tree
	for _, label := range []string{"", "a", "b", "1"} {
		for _, s := range []string{"", "x", "\x00"} {
			t := api.Tree{Label: label, Text: s}
			out = append(out, t, with(t, "a", ""), with(t, "b", "\xff"), with(t, "a", "x", "b", "y"), with(t, "b", "x", "a", "y"), with(t, "a", "x", "a", "x"), with(t, "-", "x"))
		}
	}
	return out
}

// some is trees of up to three levels, right ones and wrong ones.
func some() []api.Tree {
	few := []api.Tree{leaf("x"), leaf(""), leaf("\v"), elem("a"), elem("b"), with(elem("a"), "a", ""), with(elem("a"), "a", "x"), with(elem("a"), "b", ""), with(elem("a"), "a", "", "b", ""), with(elem("a"), "b", "", "a", ""), with(leaf("x"), "a", ""), {Label: "a", Text: "x"}, elem("")}
	out := slices.Clone(few)
	for range 2 {
		last := slices.Clone(out)
		for _, x := range last {
			out = append(out, elem("a", x), with(elem("b", x), "c", ""), elem("a", leaf("x"), x), elem("a", x, leaf("y")), elem("", x))
		}
	}
	for _, x := range few {
		for _, y := range few {
			out = append(out, elem("a", x, y), with(elem("a", elem("b", x), y), "a", ""), elem("a", x, elem("b", y)), elem("a", x, elem("b"), y))
		}
	}
	return out
}

func TestP4_2_Kinds(t *testing.T) {
	for i, k := range []int{tree.Begin, tree.Attr, tree.Text, tree.End} {
		if k != i+1 {
			t.Error(i, k)
		}
	}
}

func TestP4_1_Count(t *testing.T) {
	for _, c := range []struct {
		t            api.Tree
		nodes, depth int
	}{
		{api.Tree{}, 1, 1},
		{leaf("x"), 1, 1},
		{with(elem("a"), "b", "c", "d", "e"), 1, 1},
		{elem("a", leaf("x")), 2, 2},
		{elem("a", leaf("x"), elem("b"), leaf("y")), 4, 2},
		{elem("a", elem("b", elem("c"), leaf("x")), elem("d")), 5, 3},
		{elem("a", elem("d"), elem("b", elem("c", leaf("x")))), 5, 4},
		{elem("a", elem("b", elem("c", leaf("x"))), elem("d", elem("e"))), 6, 4},
		// as it is, and beyond bounds
		{elem("", elem("", leaf(""))), 3, 3},
		{chain(32), 32, 32},
		{chain(33), 33, 33},
		{chain(1 << 16), 1 << 16, 1 << 16},
		{wide(4096), 4097, 2},
		{wide(1 << 16), 1<<16 + 1, 2},
	} {
		if nodes, depth := tree.Count(c.t); nodes != c.nodes || depth != c.depth {
			t.Errorf("%d, %d: %d, %d", c.nodes, c.depth, nodes, depth)
		}
	}
	for _, x := range some() {
		l, deepest := walked(x), 0
		for _, n := range l {
			deepest = max(deepest, len(n.path)+1)
		}
		if nodes, depth := tree.Count(x); nodes != len(l) || depth != deepest {
			t.Errorf("%v: %d, %d", x, nodes, depth)
		}
	}
}

func TestP4_3_At(t *testing.T) {
	x := elem("a", leaf("y"), with(elem("d", leaf("q"), elem("e")), "k", "v"))
	for _, c := range []struct {
		path []int
		want api.Tree
		e    api.Errno
	}{
		{nil, x, api.OK},
		{[]int{0}, leaf("y"), api.OK},
		{[]int{1}, x.Kids[1], api.OK},
		{[]int{1, 0}, leaf("q"), api.OK},
		{[]int{1, 1}, elem("e"), api.OK},
		{[]int{2}, api.Tree{}, api.ErrNone},
		{[]int{-1}, api.Tree{}, api.ErrNone},
		{[]int{1, 2}, api.Tree{}, api.ErrNone},
		{[]int{1, -1}, api.Tree{}, api.ErrNone},
		{[]int{0, 0}, api.Tree{}, api.ErrNone},
		{[]int{1, 1, 0}, api.Tree{}, api.ErrNone},
		{[]int{2, 0}, api.Tree{}, api.ErrNone},
		{[]int{-1 << 63}, api.Tree{}, api.ErrNone},
		{[]int{1<<63 - 1, 0}, api.Tree{}, api.ErrNone},
	} {
		if got, e := tree.At(x, c.path...); !same(got, c.want) || e != c.e {
			t.Errorf("%v: %v, %v", c.path, got, e)
		}
	}
	for _, x := range some() {
		for _, n := range walked(x) {
			if got, e := tree.At(x, n.path...); !same(got, n.t) || e != api.OK {
				t.Errorf("%v %v: %v, %v", x, n.path, got, e)
			}
			for _, i := range []int{-1, len(n.t.Kids)} {
				if got, e := tree.At(x, append(n.path, i)...); !same(got, api.Tree{}) || e != api.ErrNone {
					t.Errorf("%v %v %d: %v, %v", x, n.path, i, got, e)
				}
			}
		}
	}
	// what it tells is the tree's own
	got, _ := tree.At(x, 1)
	got.Kids[0].Text = "z"
	if x.Kids[1].Kids[0].Text != "z" {
		t.Error(x)
	}
}

func TestP4_3_With(t *testing.T) {
	x := elem("a", leaf("y"), with(elem("d", leaf("q"), elem("e")), "k", "v"))
	full := wide(4095)
	for i, c := range []struct {
		t, sub, want api.Tree
		path         []int
		e            api.Errno
	}{
		{x, elem("f"), elem("f"), nil, api.OK},
		{x, leaf("z"), leaf("z"), nil, api.OK},
		{x, leaf("z"), elem("a", leaf("z"), x.Kids[1]), []int{0}, api.OK},
		{x, elem("f", leaf("z")), elem("a", leaf("y"), elem("f", leaf("z"))), []int{1}, api.OK},
		{x, elem("f"), elem("a", leaf("y"), with(elem("d", elem("f"), elem("e")), "k", "v")), []int{1, 0}, api.OK},
		{x, x, elem("a", leaf("y"), with(elem("d", leaf("q"), x), "k", "v")), []int{1, 1}, api.OK},
		{x, x, x, nil, api.OK},
		// no such node
		{x, elem("f"), api.Tree{}, []int{2}, api.ErrNone},
		{x, elem("f"), api.Tree{}, []int{-1}, api.ErrNone},
		{x, elem("f"), api.Tree{}, []int{0, 0}, api.ErrNone},
		{x, elem("f"), api.Tree{}, []int{1, 2}, api.ErrNone},
		{api.Tree{}, elem("f"), api.Tree{}, []int{0}, api.ErrNone},
		{x, elem("1"), api.Tree{}, []int{1, 1, 0}, api.ErrNone},
		{elem("1"), elem("2"), api.Tree{}, []int{0}, api.ErrNone},
		// what is wrong with the whole
		{x, leaf("z"), api.Tree{}, []int{1}, api.ErrThere},
		{x, leaf("z"), api.Tree{}, []int{1, 1}, api.ErrThere},
		{x, leaf(""), api.Tree{}, []int{0}, api.ErrEmpty},
		{x, leaf("\x00"), api.Tree{}, nil, api.ErrUTF},
		{x, with(leaf("z"), "a", ""), api.Tree{}, []int{0}, api.ErrForm},
		{x, elem("1"), api.Tree{}, []int{1, 0}, api.ErrName},
		{x, with(elem("b"), "d", "", "c", ""), api.Tree{}, []int{1, 0}, api.ErrOrder},
		{elem("1", elem("b")), elem("c"), api.Tree{}, []int{0}, api.ErrName},
		{elem("", elem("b")), elem("c"), api.Tree{}, []int{0}, api.ErrForm},
		// what was wrong with the node alone is gone
		{elem("a", elem("1", leaf(""))), elem("b"), elem("a", elem("b")), []int{0}, api.OK},
		{elem("a", leaf("x"), leaf("y")), elem("b"), elem("a", leaf("x"), elem("b")), []int{1}, api.OK},
		{elem("1"), elem("b"), elem("b"), nil, api.OK},
		{elem("a", chain(100)), elem("b"), elem("a", elem("b")), []int{0}, api.OK},
		// bounds
		{full, elem("b", elem("c")), api.Tree{}, []int{7}, api.ErrBound},
		{full, elem("b"), full, []int{7}, api.OK},
		{elem("a", elem("b")), chain(31), chain(32), []int{0}, api.OK},
		{elem("a", elem("b")), chain(32), api.Tree{}, []int{0}, api.ErrBound},
	} {
		if got, e := tree.With(c.t, c.sub, c.path...); !same(got, c.want) || e != c.e {
			t.Errorf("%d: %v, %v", i, got, e)
		}
	}
}

// replaced tells by other means a tree with another one at a path.
func replaced(t, sub api.Tree, path []int) api.Tree {
	if len(path) == 0 {
		return sub
	}
	kids := slices.Clone(t.Kids)
	kids[path[0]] = replaced(kids[path[0]], sub, path[1:])
	return api.Tree{Label: t.Label, Text: t.Text, Attrs: t.Attrs, Kids: kids}
}

func TestP4_3_WithAll(t *testing.T) {
	for _, x := range some() {
		for _, n := range walked(x) {
			for _, sub := range []api.Tree{leaf("x"), leaf(""), with(elem("c", leaf("x")), "a", "1"), elem("-"), x} {
				want := replaced(x, sub, n.path)
				wrong := wrongOf(want)
				if wrong != api.OK {
					want = api.Tree{}
				}
				if got, e := tree.With(x, sub, n.path...); !same(got, want) || e != wrong {
					t.Fatalf("%v %v %v: %v, %v", x, sub, n.path, got, e)
				}
			}
		}
	}
}

func TestP4_3_Value(t *testing.T) {
	x := with(elem("a", with(elem("b"), "d", "z")), "k", "v", "l", "", "k", "w", "", "e", "\xff", "\x00")
	for _, c := range []struct {
		name, value string
		ok          bool
	}{
		{"k", "v", true}, {"l", "", true}, {"", "e", true}, {"\xff", "\x00", true},
		{"m", "", false}, {"d", "", false}, {"a", "", false}, {"K", "", false}, {"kk", "", false}, {"v", "", false},
	} {
		if v, ok := tree.Value(x, c.name); v != c.value || ok != c.ok {
			t.Errorf("%q: %q, %v", c.name, v, ok)
		}
	}
	for _, x := range []api.Tree{{}, leaf("k"), elem("k"), elem("a", with(elem("b"), "k", "v"))} {
		if v, ok := tree.Value(x, "k"); v != "" || ok {
			t.Errorf("%v: %q, %v", x, v, ok)
		}
	}
	if v, ok := tree.Value(with(leaf("x"), "k", "v"), "k"); v != "v" || !ok {
		t.Errorf("%q, %v", v, ok)
	}
}

func TestP4_3_Walk(t *testing.T) {
	for _, x := range some() {
		want := walked(x)
		holds := func(a, b node) bool { return slices.Equal(a.path, b.path) && same(a.t, b.t) }
		each := tree.Walk(x)
		// it may be gone through again, and left anywhere
		for stop := len(want); stop > 0; stop-- {
			var got []node
			for path, n := range each {
				got = append(got, node{path, n})
				if len(got) == stop {
					break
				}
			}
			if !slices.EqualFunc(got, want[:stop], holds) {
				t.Fatalf("%v, %d: %v", x, stop, got)
			}
		}
	}
}

func TestP4_3_WalkMemory(t *testing.T) {
	// paths are the caller's: what becomes of one is not seen in another
	x := elem("a", elem("b", leaf("x"), elem("c", leaf("y"))), elem("d", elem("e")))
	want := walked(x)
	var got []node
	for path, n := range tree.Walk(x) {
		got = append(got, node{slices.Clone(path), n})
		for i := range path {
			path[i] = 77
		}
		_ = append(path, 78, 79)
	}
	if !slices.EqualFunc(got, want, func(a, b node) bool { return slices.Equal(a.path, b.path) && same(a.t, b.t) }) {
		t.Fatal(got)
	}
	// trees are the tree's own
	for path, n := range tree.Walk(x) {
		if len(path) == 1 && path[0] == 0 {
			n.Kids[0].Text = "other"
		}
	}
	if x.Kids[0].Kids[0].Text != "other" {
		t.Error(x)
	}
	// two may be gone through at once
	for a := range tree.Walk(x) {
		n := 0
		for b := range tree.Walk(x) {
			if slices.Compare(b, a) < 0 {
				n++
			}
		}
		if !slices.Equal(a, want[n].path) {
			t.Error(a, n)
		}
	}
}

// spoil writes into all that a tree has.
func spoil(t api.Tree) {
	for i := range t.Attrs {
		t.Attrs[i] = api.Attr{Name: "spoilt", Value: "spoilt"}
	}
	for i := range t.Kids {
		spoil(t.Kids[i])
		t.Kids[i] = leaf("spoilt")
	}
	_ = append(t.Attrs, api.Attr{Name: "spoilt"})
	_ = append(t.Kids, leaf("spoilt"))
}

func TestP4_3_Copy(t *testing.T) {
	for _, x := range append(some(), leaves()...) {
		before := stepped(x)
		one, two := tree.Copy(x), tree.Copy(x)
		if !same(one, x) {
			t.Fatalf("%v: %v", x, one)
		}
		spoil(one)
		if !same(two, x) || !slices.Equal(stepped(x), before) {
			t.Fatalf("%v: %v", x, two)
		}
	}
	// lists that stand in more than one place come apart, and what stands behind their length stays
	kids := []api.Tree{with(elem("b"), "c", "d"), leaf("behind")}[:1]
	x := elem("a", elem("c", kids...), elem("d", kids...))
	y := tree.Copy(x)
	spoil(y.Kids[0])
	if !same(y.Kids[1], x.Kids[1]) || kids[:2][1].Text != "behind" || kids[0].Label != "b" {
		t.Error(x, y)
	}
}

func TestP4_3_WithMemory(t *testing.T) {
	build := func() (api.Tree, api.Tree) {
		return elem("a", with(elem("b", with(elem("c"), "x", "1")), "y", "2"), elem("d", leaf("q"))), with(elem("e", elem("f", leaf("r"))), "z", "3")
	}
	for _, path := range [][]int{nil, {0}, {1}, {0, 0}, {1, 0}} {
		x, sub := build()
		wantX, wantSub := build()
		got, e := tree.With(x, sub, path...)
		want := replaced(wantX, wantSub, path)
		if e != api.OK || !same(got, want) || !same(x, wantX) || !same(sub, wantSub) {
			t.Fatalf("%v: %v, %v", path, got, e)
		}
		spoil(x)
		spoil(sub)
		if !same(got, want) {
			t.Errorf("%v: %v", path, got)
		}
		x, sub = build()
		got, _ = tree.With(x, sub, path...)
		spoil(got)
		if !same(x, wantX) || !same(sub, wantSub) {
			t.Errorf("%v: %v, %v", path, x, sub)
		}
	}
	// a tree within itself: the two come apart
	x, _ := build()
	got, e := tree.With(x, x, 0, 0)
	if e != api.OK {
		t.Fatal(e)
	}
	spoil(got.Kids[0].Kids[0])
	want, _ := build()
	if !same(x, want) || !same(got.Kids[1], want.Kids[1]) || got.Kids[0].Attrs[0].Name != "y" {
		t.Error(x, got)
	}
	// an error leaves all as it is
	if _, e := tree.With(x, leaf(""), 0); e != api.ErrEmpty || !same(x, want) {
		t.Error(e, x)
	}
}

// The longest and the deepest trees that calls may meet.
func TestP4_3_Long(t *testing.T) {
	deep, broad := chain(1<<16), wide(1<<16)
	down := make([]int, 1<<16-1)
	if x, e := tree.At(deep, down...); !same(x, elem("a")) || e != api.OK {
		t.Error(x, e)
	}
	if _, e := tree.At(deep, append(down, 0)...); e != api.ErrNone {
		t.Error(e)
	}
	if _, e := tree.With(deep, elem("b"), down...); e != api.ErrBound {
		t.Error(e)
	}
	if x, e := tree.With(deep, elem("b"), down[:31]...); e != api.OK {
		t.Error(e)
	} else if n, d := tree.Count(x); n != 32 || d != 32 {
		t.Error(n, d)
	}
	for _, x := range []api.Tree{deep, broad} {
		y := tree.Copy(x)
		if n := tree.Compare(x, y); n != 0 {
			t.Error(n)
		}
		last := &y
		for len(last.Kids) > 0 {
			last = &last.Kids[len(last.Kids)-1]
		}
		last.Label += "a"
		if a, b := tree.Compare(x, y), tree.Compare(y, x); a != -1 || b != 1 {
			t.Error(a, b)
		}
		if _, e := tree.Steps(x); e != api.ErrBound {
			t.Error(e)
		}
		n := 0
		for path := range tree.Walk(x) {
			if n++; n == 1000 {
				if len(path) != 1 && len(path) != 999 {
					t.Error(len(path))
				}
				break
			}
		}
	}
}
