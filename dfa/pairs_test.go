package dfa_test

import (
	"iter"
	"slices"
	"testing"

	"spyglass/api"
	"spyglass/dfa"
)

// joint is the automaton of both by the chapter's words: a state is two, of which either may be -1.
func joint(a, b dfa.DFA) dfa.DFA {
	d := dfa.DFA{Syms: append(slices.Clone(a.Syms), b.Syms...)}
	slices.Sort(d.Syms)
	d.Syms = slices.Compact(d.Syms)
	by := func(d dfa.DFA, at int, s string) int {
		if i := slices.Index(d.Syms, s); at >= 0 && i >= 0 {
			return d.Next[at][i]
		}
		return -1
	}
	states := [][2]int{{0, 0}}
	for i := 0; i < len(states); i++ {
		at := states[i]
		row := []int{}
		for _, s := range d.Syms {
			to := [2]int{by(a, at[0], s), by(b, at[1], s)}
			if !slices.Contains(states, to) {
				states = append(states, to)
			}
			row = append(row, slices.Index(states, to))
		}
		d.Next = append(d.Next, row)
		d.Final = append(d.Final, at[0] >= 0 && at[1] >= 0 && a.Final[at[0]] && b.Final[at[1]])
	}
	return d
}

func TestP8_2_Both(t *testing.T) {
	for i, c := range []struct{ a, b, want dfa.DFA }{
		{auto("", "*"), auto("", "*"), auto("", "*")},
		{auto("", "*"), auto("", ""), auto("", "")},
		// states 0 0, 1 1, 0 2, 1 0, 0 1, 1 2
		{auto("a", "1", "0*"), auto("a", "1", "2*", "0"), auto("a", "1", "2*", "3", "4", "5", "0")},
		// of words that are not of both
		{auto("a", "0*"), auto("b", "0*"), auto("a b", "12*", "13", "32", "33")},
		{auto("a", "0*"), auto("", "*"), auto("a", "1*", "1")},
		{auto("", "*"), auto("b", "0*"), auto("b", "1*", "1")},
		// states 0 0, 0 none, none 1, 1 0, none none, 1 none, none 0
		{auto("a c", "01", "01*"), auto("b c", "10*", "10"), auto("a b c", "123", "145", "426", "123*", "444", "145", "426")},
		// what is not come to is none of its states
		{auto("a", "0*", "1*"), auto("a", "0*", "0"), auto("a", "0*")},
	} {
		if d, e := dfa.Both(c.a, c.b); !same(d, c.want) || e != api.OK {
			t.Errorf("%d: %v, %v", i, d, e)
		}
	}
}

func TestP8_3_Both(t *testing.T) {
	for _, c := range []struct {
		all   iter.Seq2[dfa.DFA, dfa.DFA]
		asked [][]string
	}{
		{pairs(few(2, "a b"), few(2, "a b"), 1), rows(4, "a b")},
		{pairs(few(2, "a b"), few(2, "b c"), 1), rows(4, "a b c")},
		{pairs(few(2, "b c"), few(2, "a b"), 3), rows(4, "a b c d")},
		{pairs(few(3, "b"), few(3, "a"), 1), rows(4, "a b")},
		{pairs(few(3, "a b"), few(3, "a b"), 3163), rows(6, "a b")},
		{pairs(few(3, "a c"), few(3, "b"), 101), rows(4, "a b c")},
	} {
		for a, b := range c.all {
			x, y := clone(a), clone(b)
			d, e := dfa.Both(x, y)
			if e != api.OK || dfa.Check(d) != api.OK || !numbered(d) || !same(d, joint(a, b)) {
				t.Fatal(a, b, d, e)
			}
			for _, l := range c.asked {
				if d.Match(l...) != (matches(a, l) && matches(b, l)) {
					t.Fatal(a, b, l)
				}
			}
			if !apart(d) {
				t.Fatal("shared", a, b)
			}
			clear(d.Syms[:cap(d.Syms)])
			clear(d.Final[:cap(d.Final)])
			if !unwritten(x, a) || !unwritten(y, b) {
				t.Fatal(a, b)
			}
		}
	}
}

func TestP8_2_BothBound(t *testing.T) {
	// counts goes round by one of two words, and stays by the other
	counts := func(n, by int) dfa.DFA {
		d := dfa.DFA{Syms: []string{"a", "b"}, Final: make([]bool, n)}
		for i := range n {
			row := []int{i, i}
			row[by] = (i + 1) % n
			d.Next = append(d.Next, row)
		}
		d.Final[n-1] = true
		return d
	}
	empty := auto("", "*")
	for i, c := range []struct {
		a, b   dfa.DFA
		states int // 0 where there are too many
	}{
		{counts(16, 0), counts(16, 1), 256},
		{counts(2, 0), counts(128, 1), 256},
		{counts(256, 0), counts(1, 1), 256},
		{counts(256, 0), counts(2, 1), 0},
		{counts(129, 0), counts(2, 1), 0},
		{counts(256, 0), counts(256, 1), 0},
		{circle(256, "a", 0), circle(256, "a", 9), 256},
		{circle(256, "a", 0), circle(128, "a", 9), 256},
		{circle(129, "a", 0), circle(2, "a", 1), 0},
		{circle(16, "a", 0), circle(15, "a", 1), 240},
		{circle(256, "a", 0), circle(255, "a", 1), 0},
		// none is a state too
		{circle(255, "a", 0), empty, 256},
		{circle(256, "a", 0), empty, 0},
		{empty, circle(255, "a", 0), 256},
		{empty, circle(256, "a", 0), 0},
	} {
		d, e := dfa.Both(c.a, c.b)
		if c.states == 0 {
			if e != api.ErrBound || !same(d, dfa.DFA{}) {
				t.Errorf("%d: %v, %d", i, e, len(d.Next))
			}
			continue
		}
		if e != api.OK || len(d.Next) != c.states || !same(d, joint(c.a, c.b)) {
			t.Errorf("%d: %v, %d", i, e, len(d.Next))
		}
	}
}

// Words of both, rising, each once, that are not of one length.
func TestP8_2_BothWords(t *testing.T) {
	a, b := auto("B aa b c-", "0000*"), auto("_ a aa b. c", "00000*")
	d, e := dfa.Both(a, b)
	if want := []string{"B", "_", "a", "aa", "b", "b.", "c", "c-"}; e != api.OK || !slices.Equal(d.Syms, want) || !same(d, joint(a, b)) {
		t.Error(d, e)
	}
}
