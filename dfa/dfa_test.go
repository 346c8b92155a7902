package dfa_test

import (
	"iter"
	"math"
	"slices"
	"strings"
	"testing"

	"spyglass/api"
	"spyglass/dfa"
	"spyglass/names"
)

// auto is an automaton in short: its words, and state by state where it goes by each, and a * where it is final.
func auto(syms string, states ...string) dfa.DFA {
	d := dfa.DFA{Syms: strings.Fields(syms)}
	for _, s := range states {
		to := []int{}
		for _, c := range strings.TrimSuffix(s, "*") {
			to = append(to, int(c-'0'))
		}
		d.Next = append(d.Next, to)
		d.Final = append(d.Final, strings.HasSuffix(s, "*"))
	}
	return d
}

// same tells whether two automata are the same, but for lists that are nil or not.
func same(a, b dfa.DFA) bool {
	return slices.Equal(a.Syms, b.Syms) && slices.EqualFunc(a.Next, b.Next, slices.Equal) && slices.Equal(a.Final, b.Final)
}

// clone is an automaton of its own, with more behind its lists than they have.
func clone(d dfa.DFA) dfa.DFA {
	c := dfa.DFA{Syms: append(slices.Clone(d.Syms), "behind")[:len(d.Syms)], Final: append(slices.Clone(d.Final), true)[:len(d.Final)]}
	for _, l := range d.Next {
		c.Next = append(c.Next, append(slices.Clone(l), -7)[:len(l)])
	}
	return c
}

// unwritten tells whether an automaton, and what stands behind its lists, is what clone made.
func unwritten(c, d dfa.DFA) bool {
	for _, l := range c.Next {
		if l[:len(l)+1][len(l)] != -7 {
			return false
		}
	}
	return same(c, d) && c.Syms[:len(d.Syms)+1][len(d.Syms)] == "behind" && c.Final[:len(d.Final)+1][len(d.Final)]
}

// apart tells whether no two lists of an automaton share memory: each is written over, and the others stay.
func apart(d dfa.DFA) bool {
	c := dfa.DFA{Syms: slices.Clone(d.Syms), Final: slices.Clone(d.Final)}
	for _, l := range d.Next {
		c.Next = append(c.Next, slices.Clone(l))
	}
	for i, l := range d.Next {
		l = l[:cap(l)]
		for j := range l {
			l[j] = -1
		}
		for j := range c.Next[i] {
			c.Next[i][j] = -1
		}
		if !same(c, d) {
			return false
		}
	}
	return true
}

// every gives all automata of so many states and some words.
func every(states int, syms string) iter.Seq[dfa.DFA] {
	words := strings.Fields(syms)
	return func(yield func(dfa.DFA) bool) {
		ways := int(math.Pow(float64(states), float64(states*len(words))))
		for n := range ways << states {
			d := dfa.DFA{Syms: slices.Clone(words)}
			for i := range states {
				d.Final = append(d.Final, n>>i&1 > 0)
			}
			n >>= states
			for range states {
				row := []int{}
				for range words {
					row = append(row, n%states)
					n /= states
				}
				d.Next = append(d.Next, row)
			}
			if !yield(d) {
				return
			}
		}
	}
}

// few gives all automata of up to so many states and some words.
func few(states int, syms string) iter.Seq[dfa.DFA] {
	return func(yield func(dfa.DFA) bool) {
		for i := range states {
			for d := range every(i+1, syms) {
				if !yield(d) {
					return
				}
			}
		}
	}
}

// rows is all rows of up to so many of some words, in their order.
func rows(n int, syms string) [][]string {
	l := [][]string{{}}
	for from := 0; n > 0; n-- {
		end := len(l)
		for _, r := range l[from:end] {
			for _, s := range strings.Fields(syms) {
				l = append(l, append(slices.Clone(r), s))
			}
		}
		from = end
	}
	return l
}

// matches tells by other means whether an automaton matches a row.
func matches(d dfa.DFA, row []string) bool {
	var from func(at int, l []string) bool
	from = func(at int, l []string) bool {
		if len(l) == 0 {
			return d.Final[at]
		}
		for i, s := range d.Syms {
			if s == l[0] {
				return from(d.Next[at][i], l[1:])
			}
		}
		return false
	}
	return from(0, row)
}

// numbered tells whether an automaton has what is come to alone, numbered as it is come to first.
func numbered(d dfa.DFA) bool {
	next := 1
	for at, row := range d.Next {
		if at >= next {
			return false
		}
		for _, to := range row {
			if to > next {
				return false
			}
			next = max(next, to+1)
		}
	}
	return next == len(d.Next)
}

// circle is an automaton that goes round by a word, and is final at one state.
func circle(n int, sym string, final int) dfa.DFA {
	d := dfa.DFA{Syms: []string{sym}, Final: make([]bool, n)}
	for i := range n {
		d.Next = append(d.Next, []int{(i + 1) % n})
	}
	d.Final[final] = true
	return d
}

// wrong tells by other means what is wrong with an automaton.
func wrong(d dfa.DFA) api.Errno {
	n := len(d.Next)
	if n > 256 {
		return api.ErrBound
	}
	if n == 0 || n != len(d.Final) {
		return api.ErrForm
	}
	for _, row := range d.Next {
		if len(row) != len(d.Syms) {
			return api.ErrForm
		}
		for _, to := range row {
			if uint(to) >= uint(n) {
				return api.ErrForm
			}
		}
	}
	for _, s := range d.Syms {
		if !names.Is(s) {
			return api.ErrName
		}
	}
	for i := range d.Syms {
		for j := range i {
			if d.Syms[j] >= d.Syms[i] {
				return api.ErrOrder
			}
		}
	}
	return api.OK
}

// misfits is automata that may not be, and what is wrong with them.
func misfits() map[api.Errno][]dfa.DFA {
	over := circle(257, "a", 0)
	badly := circle(257, "1", 0)
	badly.Next[3] = nil
	badly.Final = nil
	return map[api.Errno][]dfa.DFA{
		api.ErrBound: {over, badly, circle(300, "a", 299), {Next: make([][]int, 257), Final: make([]bool, 257)}, {Next: make([][]int, 257)}},
		api.ErrForm: {
			{},
			{Syms: []string{"a"}},
			{Final: []bool{true}},
			{Next: [][]int{{}}},
			{Next: [][]int{{}}, Final: []bool{true, true}},
			{Next: [][]int{{}}, Final: make([]bool, 257)},
			{Next: [][]int{{}, {}}, Final: []bool{true}},
			{Next: [][]int{{0}}, Final: []bool{true}},
			{Syms: []string{"a"}, Next: [][]int{{}}, Final: []bool{true}},
			{Syms: []string{"a"}, Next: [][]int{nil}, Final: []bool{true}},
			auto("a", "00*"),
			auto("a b", "0*"),
			auto("a", "1*"),
			auto("a b", "00", "20"),
			auto("a b", "00", "02"),
			auto("a b", "00", "0"),
			auto("1 1", "00", "000"),
			auto("b a", "00", "02"),
			{Syms: []string{"a"}, Next: [][]int{{-1}}, Final: []bool{true}},
			{Syms: []string{"a"}, Next: [][]int{{math.MinInt}}, Final: []bool{true}},
			{Syms: []string{"a"}, Next: [][]int{{math.MaxInt}}, Final: []bool{true}},
			{Syms: []string{"a"}, Next: [][]int{{256}}, Final: []bool{true}},
			{Syms: []string{""}, Next: [][]int{{1}}, Final: []bool{true}},
		},
		api.ErrName: {
			auto("1", "0*"),
			auto("a 1", "00*"),
			auto("b a 1", "000*"),
			auto("b b -a", "000*"),
			auto("a "+strings.Repeat("x", 65), "00*"),
			{Syms: []string{""}, Next: [][]int{{0}}, Final: []bool{true}},
			{Syms: []string{"a b"}, Next: [][]int{{0}}, Final: []bool{true}},
			{Syms: []string{"a", "b\xff"}, Next: [][]int{{0, 0}}, Final: []bool{true}},
		},
		api.ErrOrder: {auto("b a", "00*"), auto("a a", "00*"), auto("a b b", "000*"), auto("a c b", "000*"), auto("b c a", "000*"), auto("a B", "00*"), auto("aa a", "00*")},
	}
}

func TestP8_1_Check(t *testing.T) {
	for e, l := range misfits() {
		for i, d := range l {
			if got := dfa.Check(d); got != e || wrong(d) != e {
				t.Errorf("%v, %d: %v", e, i, got)
			}
		}
	}
	for i, d := range []dfa.DFA{
		{Next: [][]int{nil}, Final: []bool{false}},
		{Syms: []string{}, Next: [][]int{{}, {}}, Final: []bool{true, false}},
		auto("a", "0"),
		auto("a", "1", "1*"),
		auto("B _ a a-b aa b", "000000"),
		auto("a "+strings.Repeat("x", 64), "00*"),
		circle(256, "a", 255),
	} {
		if e := dfa.Check(d); e != api.OK {
			t.Errorf("%d: %v", i, e)
		}
	}
}

// Automata of up to two states and up to three words, right and wrong ones.
func TestP8_1_CheckAll(t *testing.T) {
	words := []string{"a", "b", "1"}
	for _, w := range rows(3, "0 1 2") {
		var syms []string
		for _, s := range w {
			syms = append(syms, words[s[0]-'0'])
		}
		for _, x := range rows(3, "0 1 2") {
			for _, y := range rows(2, "0 1 2") {
				d := auto("", strings.Join(x, ""), strings.Join(y, ""))
				d.Syms = syms
				if e := dfa.Check(d); e != wrong(d) {
					t.Fatalf("%v: %v", d, e)
				}
			}
		}
	}
}

func TestP8_2_Match(t *testing.T) {
	d := auto("a b", "12", "11*", "22")
	for s, want := range map[string]bool{"": false, "a": true, "a b a": true, "b": false, "b a": false, "c": false, "a c": false, "c a": false, "A": false} {
		if d.Match(strings.Fields(s)...) != want {
			t.Error(s)
		}
	}
	// what is asked need be no names
	all := auto("a", "0*")
	for _, l := range [][]string{{""}, {"a", ""}, {"", "a"}, {"\xff"}, {"a a"}} {
		if all.Match(l...) {
			t.Errorf("%q", l)
		}
	}
	if none := auto("", "*"); !none.Match() || none.Match("a") || none.Match("") {
		t.Error("no words")
	}
	asked := rows(4, "a b c")
	for d := range few(2, "a b") {
		c := clone(d)
		for _, l := range asked {
			if c.Match(l...) != matches(d, l) {
				t.Fatalf("%v of %v", d, l)
			}
		}
		if !unwritten(c, d) {
			t.Fatal(d)
		}
	}
	big := circle(256, "a", 255)
	l := slices.Repeat([]string{"a"}, 1<<16)
	if big.Match(l...) || !big.Match(l[:len(l)-1]...) {
		t.Error("a long row")
	}
	for _, lists := range misfits() {
		for i, d := range lists {
			if d.Match() || d.Match("a") || d.Match("1") || d.Match("") || d.Match("a", "b") {
				t.Error(i)
			}
		}
	}
}

func TestP8_2_Not(t *testing.T) {
	for i, c := range []struct{ d, want dfa.DFA }{
		{auto("", ""), auto("", "*")},
		{auto("a b", "12", "11*", "22"), auto("a b", "12*", "11", "22*")},
		// what is not come to stays
		{auto("a", "0", "0*", "1"), auto("a", "0*", "0", "1*")},
	} {
		if d, e := c.d.Not(); !same(d, c.want) || e != api.OK {
			t.Errorf("%d: %v, %v", i, d, e)
		}
	}
	for d := range few(3, "a b") {
		c := clone(d)
		n, e := c.Not()
		if e != api.OK || !unwritten(c, d) || !slices.Equal(n.Syms, d.Syms) || !slices.EqualFunc(n.Next, d.Next, slices.Equal) || len(n.Final) != len(d.Final) {
			t.Fatal(d, n, e)
		}
		for i, f := range n.Final {
			if f == d.Final[i] {
				t.Fatal(d, n)
			}
		}
		if !apart(n) || !unwritten(c, d) {
			t.Fatal("the answer's memory", d)
		}
		clear(n.Syms[:cap(n.Syms)])
		clear(n.Final[:cap(n.Final)])
		if !unwritten(c, d) {
			t.Fatal("the answer's memory", d)
		}
	}
	for e, l := range misfits() {
		for i, d := range l {
			if n, got := d.Not(); got != e || !same(n, dfa.DFA{}) {
				t.Errorf("%v, %d: %v, %v", e, i, n, got)
			}
		}
	}
}
