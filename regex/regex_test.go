package regex_test

import (
	"iter"
	"math"
	"slices"
	"strings"
	"testing"

	"spyglass/api"
	"spyglass/names"
	"spyglass/regex"
)

// The nodes of tests, in short.
var (
	none  = regex.Node{Op: regex.None}
	empty = regex.Node{Op: regex.Empty}
)

func sym(s string) regex.Node  { return regex.Node{Op: regex.Sym, Sym: s} }
func cat(a, b int) regex.Node  { return regex.Node{Op: regex.Cat, A: a, B: b} }
func alt(a, b int) regex.Node  { return regex.Node{Op: regex.Alt, A: a, B: b} }
func star(a int) regex.Node    { return regex.Node{Op: regex.Star, A: a} }
func row(l ...regex.Node) list { return l }

// list is nodes that may be a regular expression.
type list []regex.Node

func (l list) regex() regex.Regex { return regex.Regex{Nodes: l} }

// grown gives all regular expressions of so many nodes, of some leaves, in all orders of their nodes.
func grown(n int, leaves ...regex.Node) iter.Seq[list] {
	return func(yield func(list) bool) {
		var grow func(l list, free []int) bool
		// free is the places that are no node's part yet.
		grow = func(l list, free []int) bool {
			if len(l) == n {
				return len(free) > 1 || yield(slices.Clone(l))
			}
			if len(free) > n-len(l)+1 {
				return true
			}
			next := append(slices.Clone(free), len(l))
			for _, x := range leaves {
				if !grow(append(l, x), next) {
					return false
				}
			}
			for i, a := range free {
				if !grow(append(l, star(a)), slices.Delete(slices.Clone(next), i, i+1)) {
					return false
				}
				for j, b := range free {
					if i == j {
						continue
					}
					rest := slices.DeleteFunc(slices.Clone(next), func(p int) bool { return p == a || p == b })
					if !grow(append(l, cat(a, b)), rest) || !grow(append(l, alt(a, b)), rest) {
						return false
					}
				}
			}
			return true
		}
		grow(make(list, 0, n), nil)
	}
}

// few gives all regular expressions of up to so many nodes.
func few(n int) iter.Seq[list] {
	return func(yield func(list) bool) {
		for i := range n {
			for l := range grown(i+1, none, empty, sym("a"), sym("b")) {
				if !yield(l) {
					return
				}
			}
		}
	}
}

// wrong tells by other means what is wrong with nodes: it goes from the last one to the parts.
func wrong(l list) api.Errno {
	if len(l) > api.MaxOps {
		return api.ErrBound
	}
	seen := map[int]int{}
	var walk func(at, below int) bool
	walk = func(at, below int) bool {
		if at < 0 || at >= below {
			return false
		}
		seen[at]++
		n := l[at]
		switch n.Op {
		case 0, 1:
			return n.Sym == "" && n.A == 0 && n.B == 0
		case 2:
			return n.A == 0 && n.B == 0
		case 3, 4:
			return n.Sym == "" && n.A != n.B && walk(n.A, at) && walk(n.B, at)
		case 5:
			return n.Sym == "" && n.B == 0 && walk(n.A, at)
		}
		return false
	}
	if !walk(len(l)-1, len(l)) || len(seen) != len(l) {
		return api.ErrForm
	}
	for _, times := range seen {
		if times != 1 {
			return api.ErrForm
		}
	}
	for _, n := range l {
		if n.Op == 2 && !names.Is(n.Sym) {
			return api.ErrName
		}
	}
	return api.OK
}

// put is nodes with a regular expression behind, by other means.
func put(l, r list) list {
	by := len(l)
	for _, n := range r {
		if n.Op >= regex.Cat {
			n.A += by
		}
		if n.Op == regex.Cat || n.Op == regex.Alt {
			n.B += by
		}
		l = append(l, n)
	}
	return l
}

// gathered is what Join, or Either, is by the chapter's words.
func gathered(op int, of regex.Node, l ...list) list {
	if len(l) == 0 {
		return row(of)
	}
	last := len(l) - 1
	if last == 0 {
		return slices.Clone(l[0])
	}
	a := gathered(op, of, l[:last]...)
	ab := put(a, l[last])
	return append(ab, regex.Node{Op: op, A: len(a) - 1, B: len(ab) - 1})
}

func joined(l ...list) list { return gathered(regex.Cat, empty, l...) }
func either(l ...list) list { return gathered(regex.Alt, none, l...) }
func many(l list) list      { return append(slices.Clone(l), star(len(l)-1)) }

// holdMade holds what a call made against what it has to be.
func holdMade(t *testing.T, what string, r regex.Regex, e api.Errno, want list, wanted api.Errno) {
	t.Helper()
	if e != wanted || wanted == api.OK && !slices.Equal(r.Nodes, want) || wanted != api.OK && r.Nodes != nil {
		t.Fatalf("%s: %v, %v; asked for %v, %v", what, r, e, want, wanted)
	}
}

// long is a regular expression of so many nodes, an odd number: words, and pairs of them.
func long(n int) list {
	l := row(sym("a"))
	for len(l) < n {
		l = append(l, sym("b"), cat(len(l)-1, len(l)))
	}
	return l
}

// stars is a word in so many nodes, all stars but one.
func stars(n int) list {
	l := row(sym("a"))
	for len(l) < n {
		l = append(l, star(len(l)-1))
	}
	return l
}

// misfits is what may not be, and why.
func misfits() map[api.Errno][]list {
	return map[api.Errno][]list{
		api.ErrBound: {
			stars(1025), stars(5000), long(1025),
			append(stars(1025), sym("1")), append(long(1023), empty, regex.Node{Op: 9}), make(list, 1025),
		},
		api.ErrForm: {
			nil, {},
			// no Op
			{{Op: -1}}, {{Op: 6}}, {{Op: math.MinInt}}, {{Op: math.MaxInt}}, {sym("a"), {Op: 6}}, {{Op: 6}, star(0)},
			// what is not named
			{{Op: regex.None, Sym: "a"}}, {{Op: regex.None, A: 1}}, {{Op: regex.None, B: 1}}, {{Op: regex.None, A: -1}},
			{{Op: regex.Empty, Sym: "a"}}, {{Op: regex.Empty, A: 1}}, {{Op: regex.Empty, B: -1}},
			{{Op: regex.Sym, Sym: "a", A: 1}}, {{Op: regex.Sym, Sym: "a", B: 1}}, {sym("a"), {Op: regex.Sym, Sym: "a", A: 1}, cat(0, 1)},
			{sym("a"), sym("b"), {Op: regex.Cat, Sym: "a", A: 0, B: 1}}, {sym("a"), sym("b"), {Op: regex.Alt, Sym: "a", A: 0, B: 1}},
			{sym("a"), {Op: regex.Star, Sym: "a"}}, {sym("a"), {Op: regex.Star, B: 1}}, {empty, {Op: regex.Star, B: -1}},
			// parts that do not stand ahead
			{star(0)}, {star(1)}, {star(-1)}, {star(math.MinInt)}, {star(math.MaxInt)}, {sym("a"), star(1)}, {sym("a"), star(2)}, {sym("a"), star(-1)},
			{cat(0, 0)}, {alt(0, 0)}, {sym("a"), cat(0, 1)}, {sym("a"), cat(1, 0)}, {sym("a"), alt(0, -1)}, {sym("a"), alt(-1, 0)},
			{sym("a"), sym("b"), cat(0, 3)}, {sym("a"), sym("b"), alt(3, 1)}, {sym("a"), sym("b"), alt(0, math.MaxInt)}, {sym("a"), sym("b"), cat(math.MinInt, 1)},
			{star(1), star(0)}, {star(1), sym("a")}, {sym("a"), star(2), star(1)},
			// parts of none, of more than one, or twice
			{empty, empty}, {sym("a"), sym("b"), star(1)}, {sym("a"), sym("b"), star(0)}, {sym("a"), star(0), sym("b")}, {sym("a"), star(0), star(0)},
			{sym("a"), cat(0, 0)}, {sym("a"), alt(0, 0)}, {sym("a"), sym("b"), cat(0, 0)}, {sym("a"), sym("b"), alt(1, 1)},
			{sym("a"), star(0), cat(0, 1)}, {sym("a"), star(0), alt(0, 0)}, {sym("a"), sym("b"), cat(0, 1), sym("c"), alt(1, 3)}, {sym("a"), sym("b"), cat(0, 1), alt(2, 0)},
			// whatever the names are
			{sym("1"), sym("")}, {sym(""), star(1)}, {sym("1"), {Op: 6}}, {{Op: regex.Sym, A: 1}}, {sym(""), cat(0, 0)}, append(long(1022), empty),
		},
		api.ErrName: {
			{sym("")}, {sym("1")}, {sym(" ")}, {sym("a b")}, {sym("a ")}, {sym("\u00e9")}, {sym("a\xff")}, {sym("a,b")}, {sym("-")}, {sym(strings.Repeat("a", 65))},
			{sym(""), star(0)}, {sym("a"), sym("1"), cat(0, 1)}, {sym("1"), sym("a"), alt(1, 0)}, put(row(sym("")), nil), append(put(row(sym("!")), long(1021)), alt(0, 1021)),
		},
	}
}

func TestP7_1_Check(t *testing.T) {
	for _, l := range []list{
		{none}, {empty}, {sym("a")}, {sym("_")}, {sym("a-b.c_9")}, {sym(strings.Repeat("a", 64))},
		{none, star(0)}, {empty, star(0)}, {sym("a"), star(0)}, {sym("a"), star(0), star(1)},
		{sym("a"), sym("a"), cat(0, 1)}, {sym("a"), sym("b"), cat(1, 0)}, {none, empty, alt(1, 0)},
		{sym("a"), sym("b"), star(0), alt(1, 2)}, {sym("a"), sym("b"), sym("c"), alt(2, 0), cat(1, 3)}, {sym("a"), sym("b"), cat(1, 0), star(2), sym("c"), alt(4, 3)},
		long(1), long(1023), many(long(1023)), stars(1024),
	} {
		if e := regex.Check(l.regex()); e != api.OK {
			t.Errorf("%v: %v", l, e)
		}
	}
	for e, lists := range misfits() {
		for _, l := range lists {
			if got := regex.Check(l.regex()); got != e || wrong(l) != e {
				t.Errorf("%.300v: %v; asked for %v", l, got, e)
			}
		}
	}
}

// All of some nodes, up to three of them, by other means.
func TestP7_1_CheckAll(t *testing.T) {
	var nodes, fewer []regex.Node
	for op := -1; op <= 6; op++ {
		for _, s := range []string{"", "a", "1"} {
			for a := -1; a <= 2; a++ {
				for b := -1; b <= 2; b++ {
					nodes = append(nodes, regex.Node{Op: op, Sym: s, A: a, B: b})
				}
			}
		}
	}
	for _, n := range nodes {
		if n.Op >= regex.Empty && n.Op <= regex.Star && n.A >= 0 && n.B >= 0 && (n.Sym == "" && n.Op != regex.Empty || n.Op == regex.Sym && n.Sym == "a" || n.Op == regex.Empty && n.A == n.B) {
			fewer = append(fewer, n)
		}
	}
	found := map[api.Errno]int{}
	hold := func(l list) {
		e := regex.Check(l.regex())
		if found[e]++; e != wrong(l) {
			t.Fatalf("%v: %v; asked for %v", l, e, wrong(l))
		}
	}
	for _, x := range nodes {
		hold(row(x))
		for _, y := range nodes {
			hold(row(x, y))
		}
	}
	for _, x := range fewer {
		for _, y := range fewer {
			for _, z := range fewer {
				hold(row(x, y, z))
			}
		}
	}
	for _, e := range []api.Errno{api.OK, api.ErrForm, api.ErrName} {
		if found[e] < 10 {
			t.Error(e, found[e])
		}
	}
}

// All of up to five nodes, and all with one number in them turned.
func TestP7_1_CheckTurned(t *testing.T) {
	for l := range few(5) {
		if e := regex.Check(l.regex()); e != api.OK {
			t.Fatalf("%v: %v", l, e)
		}
		for i, n := range l {
			for _, by := range []regex.Node{{Op: 1}, {Op: -1}, {A: 1}, {A: -1}, {A: 3}, {B: 1}, {B: -1}, {B: 2}, {Sym: "!"}} {
				l[i] = regex.Node{Op: n.Op + by.Op, Sym: n.Sym + by.Sym, A: n.A + by.A, B: n.B + by.B}
				if e := regex.Check(l.regex()); e != wrong(l) {
					t.Fatalf("%v: %v; asked for %v", l, e, wrong(l))
				}
			}
			l[i] = n
		}
	}
}

func TestP7_1_One(t *testing.T) {
	for _, s := range []string{"a", "Z", "_", "a-b.c_9", strings.Repeat("a", 64)} {
		r, e := regex.One(s)
		holdMade(t, s, r, e, row(sym(s)), api.OK)
	}
	for _, s := range []string{"", "1", "-a", " a", "a ", "a,b", "()", "!", "a*", "\u00e9", "\xff", strings.Repeat("a", 65)} {
		r, e := regex.One(s)
		holdMade(t, s, r, e, nil, api.ErrName)
	}
}

// regexes is regular expressions of lists.
func regexes(l ...list) []regex.Regex {
	var out []regex.Regex
	for _, x := range l {
		out = append(out, x.regex())
	}
	return out
}

// holdGathered holds Join and Either of lists against what the chapter says of them.
func holdGathered(t *testing.T, l ...list) {
	t.Helper()
	e := api.OK
	for _, x := range slices.Backward(l) {
		if w := wrong(x); w != api.OK {
			e = w
		}
	}
	var a, b list
	if e == api.OK {
		a, b = joined(l...), either(l...)
	}
	if len(a) > api.MaxOps {
		e = api.ErrBound
	}
	r, f := regex.Join(regexes(l...)...)
	holdMade(t, "Join", r, f, a, e)
	r, f = regex.Either(regexes(l...)...)
	holdMade(t, "Either", r, f, b, e)
}

func TestP7_1_Gathered(t *testing.T) {
	a, b, c := row(sym("a")), row(sym("b")), row(sym("c"))
	r, e := regex.Join()
	holdMade(t, "Join of none", r, e, row(empty), api.OK)
	r, e = regex.Either()
	holdMade(t, "Either of none", r, e, row(none), api.OK)
	r, e = regex.Join(a.regex())
	holdMade(t, "Join of one", r, e, a, api.OK)
	r, e = regex.Either(many(a).regex())
	holdMade(t, "Either of one", r, e, many(a), api.OK)
	r, e = regex.Join(regexes(a, b)...)
	holdMade(t, "Join of two", r, e, row(sym("a"), sym("b"), cat(0, 1)), api.OK)
	r, e = regex.Join(regexes(a, b, c)...)
	holdMade(t, "Join of three", r, e, row(sym("a"), sym("b"), cat(0, 1), sym("c"), cat(2, 3)), api.OK)
	r, e = regex.Either(regexes(a, many(b), c, row(empty))...)
	holdMade(t, "Either of four", r, e, row(sym("a"), sym("b"), star(1), alt(0, 2), sym("c"), alt(3, 4), empty, alt(5, 6)), api.OK)
	// the parts' nodes stay in their order, whichever this is
	r, e = regex.Join(regexes(row(sym("a"), sym("b"), cat(1, 0)), row(sym("c"), none, star(0), alt(2, 1)))...)
	holdMade(t, "Join of what is backwards", r, e, row(sym("a"), sym("b"), cat(1, 0), sym("c"), none, star(3), alt(5, 4), cat(2, 6)), api.OK)
	// one may come more than once
	r, e = regex.Either(regexes(many(a), many(a), many(a))...)
	holdMade(t, "Either of the same", r, e, row(sym("a"), star(0), sym("a"), star(2), alt(1, 3), sym("a"), star(5), alt(4, 6)), api.OK)
}

func TestP7_1_GatheredAll(t *testing.T) {
	small := slices.Collect(few(3))
	for l := range few(4) {
		holdGathered(t, l)
		holdGathered(t, l, small[len(l)*7])
		r, e := regex.Many(l.regex())
		holdMade(t, "Many", r, e, many(l), api.OK)
	}
	for _, a := range small {
		for _, b := range small {
			holdGathered(t, a, b)
			holdGathered(t, b, a, b)
		}
	}
}

func TestP7_1_GatheredErrors(t *testing.T) {
	right, all := row(sym("a")), misfits()
	for e, lists := range all {
		for _, l := range lists {
			holdGathered(t, l)
			holdGathered(t, right, l)
			holdGathered(t, l, right, right)
			// the first error counts, ahead of the bound of all
			holdGathered(t, long(1023), long(1023), l)
			for _, others := range all {
				holdGathered(t, l, others[0])
				holdGathered(t, right, others[1], right, l)
			}
			r, f := regex.Many(l.regex())
			holdMade(t, "Many", r, f, nil, e)
		}
	}
}

func TestP7_1_Bounds(t *testing.T) {
	for _, l := range [][]list{
		{long(1023)}, {stars(1024)}, {stars(1021), row(empty)}, {stars(1022), row(empty)}, {stars(1023), row(empty)}, {stars(1024), row(empty)},
		{long(511), long(511)}, {long(511), stars(512)}, {long(511), stars(513)}, {long(1023), long(1)}, {stars(1), stars(1022)}, {stars(1), stars(1023)},
		slices.Repeat([]list{row(empty)}, 512), slices.Repeat([]list{row(empty)}, 513), append(slices.Repeat([]list{row(sym("a"))}, 511), stars(2)),
		append(slices.Repeat([]list{row(sym("a"))}, 511), stars(3)), slices.Repeat([]list{row(empty)}, 3000), {stars(1024), stars(1024), stars(1024)},
	} {
		holdGathered(t, l...)
	}
	r, e := regex.Many(long(1023).regex())
	holdMade(t, "Many of 1023", r, e, many(long(1023)), api.OK)
	r, e = regex.Many(stars(1024).regex())
	holdMade(t, "Many of 1024", r, e, nil, api.ErrBound)
}

// What is handed in stays as it is, to its length and behind it, and what is answered is none of it.
func TestP7_1_Memory(t *testing.T) {
	room := make(list, 0, 50)
	room = append(room, sym("a"), sym("b"), alt(1, 0))
	behind := append(room[:3:50], sym("behind"))
	want := slices.Clone(behind)
	r := room.regex()
	for name, call := range map[string]func() (regex.Regex, api.Errno){
		"Join of one":   func() (regex.Regex, api.Errno) { return regex.Join(r) },
		"Join of two":   func() (regex.Regex, api.Errno) { return regex.Join(r, r) },
		"Either of one": func() (regex.Regex, api.Errno) { return regex.Either(r) },
		"Either of two": func() (regex.Regex, api.Errno) { return regex.Either(r, r) },
		"Many":          func() (regex.Regex, api.Errno) { return regex.Many(r) },
		"One":           func() (regex.Regex, api.Errno) { return regex.One("a") },
		"Parse":         func() (regex.Regex, api.Errno) { return regex.Parse("(a|b)+") },
		"Parse of none": func() (regex.Regex, api.Errno) { return regex.Parse("!") },
		"Join of none":  func() (regex.Regex, api.Errno) { return regex.Join() },
	} {
		x, e := call()
		if e != api.OK {
			t.Fatal(name, e)
		}
		before := slices.Clone(x.Nodes)
		for i := range x.Nodes[:cap(x.Nodes)] {
			x.Nodes[:cap(x.Nodes)][i] = sym("spoilt")
		}
		if !slices.Equal(behind, want) {
			t.Fatal(name, behind)
		}
		if again, e := call(); !slices.Equal(again.Nodes, before) || e != api.OK {
			t.Fatal(name, again, e)
		}
	}
	l := regexes(row(sym("a")), row(sym("b")), row(sym("c")))
	regex.Join(l[:2]...)
	regex.Either(l[:2]...)
	for i, s := range []string{"a", "b", "c"} {
		if !slices.Equal(l[i].Nodes, row(sym(s))) {
			t.Error(l)
		}
	}
	for _, call := range []func(){func() { regex.Check(r) }, func() { r.Nullable() }, func() { r.First() }, func() { r.Next(0) }, func() { r.Last(0) }, func() { r.Match("a") }, func() { r.Symbols() }, func() { r.Text() }} {
		if call(); !slices.Equal(behind, want) {
			t.Error(behind)
		}
	}
}
