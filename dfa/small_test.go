package dfa_test

import (
	"fmt"
	"slices"
	"testing"

	"spyglass/api"
	"spyglass/dfa"
)

// fewest is how many states an automaton needs: as many as there are sets of what is matched behind the states that are come to.
func fewest(d dfa.DFA, asked [][]string) int {
	behind := map[string]int{}
	come := []int{0}
	for i := 0; i < len(come); i++ {
		for _, to := range d.Next[come[i]] {
			if !slices.Contains(come, to) {
				come = append(come, to)
			}
		}
		var s []byte
		for _, l := range asked {
			at := come[i]
			for _, w := range l {
				at = d.Next[at][slices.Index(d.Syms, w)]
			}
			s = append(s, '0')
			if d.Final[at] {
				s[len(s)-1] = '1'
			}
		}
		behind[string(s)]++
	}
	return len(behind)
}

func TestP8_2_Small(t *testing.T) {
	for i, c := range []struct{ d, want dfa.DFA }{
		{auto("", ""), auto("", "")},
		{auto("", "*", ""), auto("", "*")},
		{auto("a", "1*", "0*"), auto("a", "0*")},
		{auto("a", "1", "1", "0*"), auto("a", "0")},
		{auto("a", "1", "0*"), auto("a", "1", "0*")},
		{auto("a", "1", "2*", "3", "0*"), auto("a", "1", "0*")},
		{auto("a", "1", "2", "3", "0*"), auto("a", "1", "2", "3", "0*")},
		// numbered as they are come to
		{auto("a", "2", "0*", "1"), auto("a", "1", "2", "0*")},
		{auto("a b", "21", "11*", "22"), auto("a b", "12", "11", "22*")},
		{auto("a b", "12", "33*", "44*", "11", "22"), auto("a b", "11", "00*")},
		{auto("a b", "12", "33*", "44*", "10", "20"), auto("a b", "11", "22*", "10")},
		// words by which nothing is matched stay
		{auto("a b", "12", "12*", "22"), auto("a b", "12", "12*", "22")},
		{auto("a b c", "121", "121*", "333", "222"), auto("a b c", "121", "121*", "222")},
	} {
		if d, e := c.d.Small(); !same(d, c.want) || e != api.OK {
			t.Errorf("%d: %v, %v", i, d, e)
		}
	}
	for text, states := range map[string]int{"(a|b)*,a": 2, "a*": 1, "!": 1, "a,!": 1, "(a,a)*|(a,a,a)*": 6, "a,b|a,b": 4, "a|b|a,a|b,a": 4} {
		if d, e := made(t, text).Small(); len(d.Next) != states || e != api.OK {
			t.Errorf("%s: %v, %v", text, d, e)
		}
	}
}

func TestP8_2_SmallAll(t *testing.T) {
	hold := func(d dfa.DFA, told, asked [][]string) {
		c := clone(d)
		s, e := c.Small()
		if e != api.OK || dfa.Check(s) != api.OK || !slices.Equal(s.Syms, d.Syms) || !numbered(s) || len(s.Next) != fewest(d, told) {
			t.Fatal(d, s, e)
		}
		for _, l := range asked {
			if matches(s, l) != matches(d, l) {
				t.Fatal(d, s, l)
			}
		}
		if again, e := s.Small(); !same(again, s) || e != api.OK {
			t.Fatal(d, s, again)
		}
		if !apart(s) {
			t.Fatal("shared", d)
		}
		clear(s.Syms[:cap(s.Syms)])
		clear(s.Final[:cap(s.Final)])
		if !unwritten(c, d) {
			t.Fatal(d)
		}
	}
	for d := range few(3, "a b") {
		hold(d, rows(2, "a b"), rows(5, "a b"))
	}
	for d := range few(4, "a") {
		hold(d, rows(3, "a"), rows(8, "a"))
	}
	n := 0
	for d := range every(4, "a b") {
		if n++; n%211 == 0 {
			hold(d, rows(3, "a b"), rows(7, "a b"))
		}
	}
}

func TestP8_2_SmallLong(t *testing.T) {
	// states that are told from each other by long rows alone
	if d, e := circle(256, "a", 255).Small(); !same(d, circle(256, "a", 255)) || e != api.OK {
		t.Error(e, len(d.Next))
	}
	d := circle(256, "a", 63)
	d.Final[127], d.Final[191], d.Final[255] = true, true, true
	if s, e := d.Small(); !same(s, circle(64, "a", 63)) || e != api.OK {
		t.Error(e, len(s.Next))
	}
	// of many words
	d = circle(256, "w0", 255)
	for i := range 400 {
		d.Syms = append(d.Syms, fmt.Sprintf("w%d", i+1))
		for j := range d.Next {
			d.Next[j] = append(d.Next[j], d.Next[j][0])
		}
	}
	slices.Sort(d.Syms)
	if s, e := d.Small(); !same(s, d) || e != api.OK {
		t.Error(e, len(s.Next))
	}
	d.Final = make([]bool, 256)
	if s, e := d.Small(); len(s.Next) != 1 || len(s.Next[0]) != 401 || e != api.OK {
		t.Error(e, len(s.Next))
	}
}

func TestP8_2_SmallMisfits(t *testing.T) {
	for e, l := range misfits() {
		for i, d := range l {
			if s, got := d.Small(); got != e || !same(s, dfa.DFA{}) {
				t.Errorf("%v, %d: %v, %v", e, i, s, got)
			}
		}
	}
}
