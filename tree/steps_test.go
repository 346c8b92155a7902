package tree_test

import (
	"slices"
	"testing"

	"spyglass/api"
	"spyglass/tree"
)

// read tells by other means the tree with whose steps a row begins, and what is left.
func read(l []tree.Step) (api.Tree, []tree.Step, bool) {
	if len(l) == 0 || l[0].Kind != tree.Begin && l[0].Kind != tree.Text {
		return api.Tree{}, nil, false
	}
	if l[0].Kind == tree.Text {
		return leaf(l[0].Text), l[1:], l[0].Name == ""
	}
	t, ok := elem(l[0].Name), l[0].Name != "" && l[0].Text == ""
	for l = l[1:]; len(l) > 0 && l[0].Kind == tree.Attr; l = l[1:] {
		t = with(t, l[0].Name, l[0].Text)
	}
	for ok && len(l) > 0 && l[0].Kind != tree.End {
		var kid api.Tree
		kid, l, ok = read(l)
		t.Kids = append(t.Kids, kid)
	}
	if !ok || len(l) == 0 || l[0] != end() {
		return api.Tree{}, nil, false
	}
	return t, l[1:], true
}

// holdBuild holds Build of steps against what is read by other means, and answers its error.
func holdBuild(t *testing.T, l []tree.Step) api.Errno {
	t.Helper()
	want, left, ok := read(l)
	wrong := api.ErrForm
	if ok && len(left) == 0 {
		wrong = wrongOf(want)
	}
	if wrong != api.OK {
		want = api.Tree{}
	}
	got, e := tree.Build(l...)
	if !same(got, want) || e != wrong {
		t.Fatalf("%v: %v, %v; asked for %v, %v", l, got, e, want, wrong)
	}
	return e
}

func TestP4_2_Build(t *testing.T) {
	for i, c := range []struct {
		l    []tree.Step
		want api.Tree
		e    api.Errno
	}{
		{[]tree.Step{begin("a"), attr("b", "1"), text("x"), end()}, with(elem("a", leaf("x")), "b", "1"), api.OK},
		{[]tree.Step{text("x")}, leaf("x"), api.OK},
		{[]tree.Step{begin("a"), end()}, elem("a"), api.OK},
		{[]tree.Step{begin("a"), text("x"), begin("b"), attr("c", ""), attr("d", "y"), end(), text("z"), begin("e"), begin("f"), end(), end(), end()}, elem("a", leaf("x"), with(elem("b"), "c", "", "d", "y"), leaf("z"), elem("e", elem("f"))), api.OK},
		// no tree's steps
		{nil, api.Tree{}, api.ErrForm},
		{[]tree.Step{end()}, api.Tree{}, api.ErrForm},
		{[]tree.Step{attr("a", "x")}, api.Tree{}, api.ErrForm},
		{[]tree.Step{attr("a", "x"), text("x")}, api.Tree{}, api.ErrForm},
		{[]tree.Step{begin("a")}, api.Tree{}, api.ErrForm},
		{[]tree.Step{begin("a"), begin("b"), end()}, api.Tree{}, api.ErrForm},
		{[]tree.Step{begin("a"), end(), end()}, api.Tree{}, api.ErrForm},
		{[]tree.Step{begin("a"), end(), attr("a", "x")}, api.Tree{}, api.ErrForm},
		{[]tree.Step{text("x"), end()}, api.Tree{}, api.ErrForm},
		{[]tree.Step{text("x"), text("y")}, api.Tree{}, api.ErrForm},
		{[]tree.Step{begin("a"), end(), begin("b"), end()}, api.Tree{}, api.ErrForm},
		{[]tree.Step{begin("a"), end(), text("x")}, api.Tree{}, api.ErrForm},
		{[]tree.Step{begin("a"), text("x"), attr("b", ""), end()}, api.Tree{}, api.ErrForm},
		{[]tree.Step{begin("a"), begin("c"), end(), attr("b", ""), end()}, api.Tree{}, api.ErrForm},
		{[]tree.Step{begin(""), end()}, api.Tree{}, api.ErrForm},
		{[]tree.Step{begin("a"), begin(""), text("x"), end(), end()}, api.Tree{}, api.ErrForm},
		{[]tree.Step{{}}, api.Tree{}, api.ErrForm},
		{[]tree.Step{{Kind: 5}}, api.Tree{}, api.ErrForm},
		{[]tree.Step{{Kind: -1, Text: "x"}}, api.Tree{}, api.ErrForm},
		{[]tree.Step{begin("a"), {Kind: 5, Name: "b"}, end()}, api.Tree{}, api.ErrForm},
		// more than their kind has
		{[]tree.Step{{Kind: tree.Begin, Name: "a", Text: "x"}, end()}, api.Tree{}, api.ErrForm},
		{[]tree.Step{{Kind: tree.Text, Name: "a", Text: "x"}}, api.Tree{}, api.ErrForm},
		{[]tree.Step{begin("a"), {Kind: tree.End, Name: "a"}}, api.Tree{}, api.ErrForm},
		{[]tree.Step{begin("a"), {Kind: tree.End, Text: "x"}}, api.Tree{}, api.ErrForm},
		// a tree's, which is wrong
		{[]tree.Step{text("")}, api.Tree{}, api.ErrEmpty},
		{[]tree.Step{text("\x00")}, api.Tree{}, api.ErrUTF},
		{[]tree.Step{begin("1"), end()}, api.Tree{}, api.ErrName},
		{[]tree.Step{begin("a"), attr("", ""), end()}, api.Tree{}, api.ErrName},
		{[]tree.Step{begin("a"), attr("b", "\xff"), end()}, api.Tree{}, api.ErrUTF},
		{[]tree.Step{begin("a"), attr("c", ""), attr("b", ""), end()}, api.Tree{}, api.ErrOrder},
		{[]tree.Step{begin("a"), attr("b", ""), attr("b", ""), end()}, api.Tree{}, api.ErrOrder},
		{[]tree.Step{begin("a"), text("x"), text("y"), end()}, api.Tree{}, api.ErrThere},
		// no tree's steps, ahead of what is wrong
		{[]tree.Step{begin("1"), text(""), attr("", "\xff"), end()}, api.Tree{}, api.ErrForm},
		{[]tree.Step{text(""), text("")}, api.Tree{}, api.ErrForm},
	} {
		if got, e := tree.Build(c.l...); !same(got, c.want) || e != c.e {
			t.Errorf("%d: %v, %v", i, got, e)
		}
		holdBuild(t, c.l)
	}
}

// holdRows holds Build of all rows of up to n steps out of some, and answers how often which error came.
func holdRows(t *testing.T, n int, parts ...tree.Step) map[api.Errno]int {
	seen := map[api.Errno]int{}
	level := [][]tree.Step{nil}
	for range n {
		var next [][]tree.Step
		for _, l := range level {
			for _, s := range parts {
				row := append(slices.Clip(l), s)
				seen[holdBuild(t, row)]++
				next = append(next, row)
			}
		}
		level = next
	}
	return seen
}

func TestP4_2_BuildAllRows(t *testing.T) {
	if seen := holdRows(t, 4, begin("a"), begin(""), begin("1"), tree.Step{Kind: tree.Begin, Name: "a", Text: "x"}, attr("b", ""), attr("a", "\xff"), attr("", ""), text("x"), text(""), text("\v"), tree.Step{Kind: tree.Text, Name: "a", Text: "x"}, end(), tree.Step{Kind: tree.End, Name: "a"}, tree.Step{}, tree.Step{Kind: 5}); len(seen) != 7 {
		t.Error(seen)
	}
	if seen := holdRows(t, 8, begin("a"), attr("b", ""), text("x"), end()); len(seen) != 4 {
		t.Error(seen)
	}
	holdRows(t, 6, begin("a"), begin("b"), attr("c", "x"), attr("d", ""), text("x"), end())
}

func TestP4_2_BuildBound(t *testing.T) {
	nested := func(begins, ends int) []tree.Step {
		return append(slices.Repeat([]tree.Step{begin("a")}, begins), slices.Repeat([]tree.Step{end()}, ends)...)
	}
	broad := func(kids int) []tree.Step {
		return append(append([]tree.Step{begin("a")}, slices.Repeat([]tree.Step{begin("b"), end()}, kids)...), end())
	}
	for i, c := range []struct {
		l []tree.Step
		e api.Errno
	}{
		{nested(32, 32), api.OK},
		{nested(33, 33), api.ErrBound},
		{nested(1<<16, 1<<16), api.ErrBound},
		{nested(1<<16, 1<<16-1), api.ErrForm},
		{nested(1<<16-1, 1<<16), api.ErrForm},
		{nested(1<<18, 0), api.ErrForm},
		{broad(4095), api.OK},
		{broad(4096), api.ErrBound},
		{broad(1 << 18), api.ErrBound},
		{append(broad(4096), end()), api.ErrForm},
	} {
		x, e := tree.Build(c.l...)
		if e != c.e || e != api.OK && !same(x, api.Tree{}) {
			t.Errorf("%d: %v", i, e)
		}
		if n, _ := tree.Count(x); e == api.OK && n != len(c.l)/2 {
			t.Errorf("%d: %d", i, n)
		}
	}
}

func TestP4_2_BuildMemory(t *testing.T) {
	l := []tree.Step{begin("a"), attr("b", "1"), begin("c"), attr("d", "2"), text("x"), end(), begin("e"), begin("f"), end(), end(), text("y"), end()}
	before := slices.Clone(l)
	one, _ := tree.Build(l...)
	two, _ := tree.Build(l...)
	if !slices.Equal(l, before) {
		t.Error(l)
	}
	clear(l)
	if !slices.Equal(stepped(one), before) {
		t.Error(one)
	}
	// no two lists share anything
	_ = append(one.Kids[0].Kids, leaf("spoilt"))
	_ = append(one.Kids[0].Attrs, api.Attr{Name: "spoilt"})
	spoil(one.Kids[1])
	if one.Kids[1] = elem("e", elem("f")); !slices.Equal(stepped(one), before) {
		t.Error(one)
	}
	spoil(one)
	if !slices.Equal(stepped(two), before) {
		t.Error(two)
	}
}

func TestP4_2_Steps(t *testing.T) {
	x := elem("a", leaf("x"), with(elem("b", elem("c")), "d", "", "e", "y"), leaf("z"))
	want := []tree.Step{begin("a"), text("x"), begin("b"), attr("d", ""), attr("e", "y"), begin("c"), end(), end(), text("z"), end()}
	if l, e := tree.Steps(x); e != api.OK || !slices.Equal(l, want) {
		t.Error(l, e)
	}
	for _, x := range append(some(), leaves()...) {
		want, wrong := stepped(x), wrongOf(x)
		if wrong != api.OK {
			want = nil
		}
		l, e := tree.Steps(x)
		if e != wrong || !slices.Equal(l, want) {
			t.Fatalf("%v: %v, %v", x, l, e)
		}
		// what is answered is the caller's
		clear(l)
		if again, _ := tree.Steps(x); !slices.Equal(again, want) {
			t.Fatal(x, again)
		}
	}
}

func TestP4_2_Compare(t *testing.T) {
	// rising, as the kinds, the names and the texts of steps rise
	rising := []api.Tree{
		leaf(""), leaf("\x00"), leaf("A"), leaf("a"), leaf("aa"), leaf("b"), leaf("\u00e9"), leaf("\xff"),
		elem("A"),
		elem("a"),
		elem("a", leaf("")),
		elem("a", leaf("x")),
		elem("a", leaf("x"), leaf("a")),
		elem("a", leaf("x"), elem("b")),
		elem("a", leaf("y")),
		elem("a", elem("b")),
		elem("a", elem("b"), leaf("x")),
		elem("a", elem("b"), elem("b")),
		elem("a", elem("b", leaf("x"))),
		elem("a", elem("b", elem("a"))),
		elem("a", with(elem("b"), "a", "")),
		elem("a", elem("ba")),
		elem("a", elem("c")),
		with(elem("a"), "", "x"),
		with(elem("a"), "a", ""),
		with(elem("a", leaf("x")), "a", ""),
		with(elem("a", elem("a")), "a", ""),
		with(elem("a"), "a", "", "a", ""),
		with(elem("a"), "a", "", "b", ""),
		with(elem("a"), "a", "x"),
		with(elem("a"), "a", "xx"),
		with(elem("a"), "b", ""),
		elem("aa"),
		elem("b"),
		elem("\xff"),
	}
	for i, a := range rising {
		for k, b := range rising {
			want := 0
			if i < k {
				want = -1
			} else if i > k {
				want = 1
			}
			if n := tree.Compare(a, b); n != want || n != compared(stepped(a), stepped(b)) {
				t.Errorf("%v, %v: %d", a, b, n)
			}
		}
	}
}

// What no steps tell does not count: what a text has beside its Text, and an element's Text.
func TestP4_2_CompareAsItIs(t *testing.T) {
	for _, c := range []struct {
		a, b api.Tree
		want int
	}{
		{with(leaf("x"), "a", "b"), leaf("x"), 0},
		{with(leaf("x"), "a", "b"), leaf("y"), -1},
		{api.Tree{Text: "x", Kids: []api.Tree{elem("a")}}, leaf("x"), 0},
		{elem("", elem("z")), elem(""), 0},
		{api.Tree{Label: "a", Text: "x"}, elem("a"), 0},
		{api.Tree{Label: "a", Text: "x"}, api.Tree{Label: "a", Text: "y"}, 0},
		{api.Tree{Label: "a", Text: "y"}, elem("b"), -1},
		{elem("b", api.Tree{Label: "a", Text: "y"}), elem("b", elem("a")), 0},
		{elem("a", with(leaf("x"), "a", "b"), elem("c")), elem("a", leaf("x"), elem("b")), 1},
	} {
		if n, back := tree.Compare(c.a, c.b), tree.Compare(c.b, c.a); n != c.want || back != -c.want {
			t.Errorf("%v, %v: %d, %d", c.a, c.b, n, back)
		}
	}
}

func TestP4_4_CompareIsAnOrder(t *testing.T) {
	all := append(some(), leaves()...)
	slices.SortStableFunc(all, tree.Compare)
	steps := make([][]tree.Step, len(all))
	for i, x := range all {
		steps[i] = stepped(x)
	}
	for i, a := range all {
		for k, b := range all {
			n := tree.Compare(a, b)
			if i < k && n > 0 || i > k && n < 0 || n != compared(steps[i], steps[k]) || (n == 0) != slices.Equal(steps[i], steps[k]) {
				t.Fatalf("%v, %v: %d", a, b, n)
			}
		}
	}
}

func TestP4_4_BuildOfSteps(t *testing.T) {
	right := 0
	for _, x := range append(some(), chain(32), wide(4095)) {
		l, e := tree.Steps(x)
		if e != api.OK {
			continue
		}
		right++
		y, e := tree.Build(l...)
		if e != api.OK || !same(x, y) || tree.Compare(x, y) != 0 {
			t.Fatalf("%v: %v, %v", x, y, e)
		}
		again, e := tree.Steps(y)
		if e != api.OK || !slices.Equal(l, again) {
			t.Fatalf("%v: %v, %v", l, again, e)
		}
	}
	if right < 100 {
		t.Error(right)
	}
}
