package dfa_test

import (
	"fmt"
	"iter"
	"slices"
	"strings"
	"testing"

	"spyglass/api"
	"spyglass/dfa"
)

// firstOf is the first one of some rows that is so.
func firstOf(l [][]string, so func(row []string) bool) ([]string, bool) {
	i := slices.IndexFunc(l, so)
	if i < 0 {
		return nil, false
	}
	return l[i], true
}

func TestP8_2_Least(t *testing.T) {
	for text, want := range map[string]string{
		"a,b*":             "a",
		"()":               "",
		"a*":               "",
		"b,a|a,c|a,b":      "a b",
		"b|a,a":            "b",
		"c|b":              "b",
		"a,a,a|b,b|c,a":    "b b",
		"c,a|b,d|b,c|c":    "c",
		"z|B":              "B",
		"a,z|aa,a":         "a z",
		"(a|b)*,b,c":       "b c",
		"a,!|b,!|b,a,a":    "b a a",
		"b+,a|(c,c)+|d,b*": "d",
	} {
		if l, e := made(t, text).Least(); strings.Join(l, " ") != want || e != api.OK {
			t.Errorf("%s: %v, %v", text, l, e)
		}
	}
	for _, text := range []string{"!", "a,!", "!,a*", "!|!,b"} {
		if l, e := made(t, text, "c").Least(); len(l) > 0 || e != api.ErrEmpty {
			t.Errorf("%s: %v, %v", text, l, e)
		}
	}
	for i, d := range []dfa.DFA{
		{Next: [][]int{{}}, Final: []bool{false}},
		auto("", "", "*"),
		// what is final is not come to
		auto("a", "0", "0*"),
		auto("a b", "01", "10", "01*"),
	} {
		if l, e := d.Least(); len(l) > 0 || e != api.ErrEmpty {
			t.Errorf("%d: %v, %v", i, l, e)
		}
	}
}

func TestP8_2_LeastAll(t *testing.T) {
	hold := func(d dfa.DFA, asked [][]string) {
		c := clone(d)
		l, e := c.Least()
		want, ok := firstOf(asked, func(row []string) bool { return matches(d, row) })
		if ok != (e == api.OK) || !ok && e != api.ErrEmpty || !slices.Equal(l, want) {
			t.Fatalf("%v: %v, %v; asked for %v", d, l, e, want)
		}
		clear(l[:cap(l)])
		if !unwritten(c, d) {
			t.Fatal(d)
		}
	}
	asked := rows(2, "a b")
	for d := range few(3, "a b") {
		hold(d, asked)
	}
	asked = rows(3, "a")
	for d := range few(4, "a") {
		hold(d, asked)
	}
	asked, n := rows(3, "a b"), 0
	for d := range every(4, "a b") {
		if n++; n%97 == 0 {
			hold(d, asked)
		}
	}
}

func TestP8_2_LeastLong(t *testing.T) {
	l, e := circle(256, "a", 255).Least()
	if e != api.OK || !slices.Equal(l, slices.Repeat([]string{"a"}, 255)) {
		t.Error(len(l), e)
	}
	// each state goes on by one word of many, and by all others to the beginning
	d := dfa.DFA{Final: make([]bool, 256)}
	for i := range 500 {
		d.Syms = append(d.Syms, fmt.Sprintf("w%03d", i))
	}
	var want []string
	for i := range 256 {
		row := make([]int, 500)
		row[i*7%500] = (i + 1) % 256
		d.Next = append(d.Next, row)
		if i < 255 {
			want = append(want, d.Syms[i*7%500])
		}
	}
	d.Final[255] = true
	if l, e := d.Least(); !slices.Equal(l, want) || e != api.OK {
		t.Error(l, e)
	}
}

func TestP8_2_LeastMisfits(t *testing.T) {
	for e, l := range misfits() {
		for i, d := range l {
			if l, got := d.Least(); got != e || len(l) > 0 {
				t.Errorf("%v, %d: %v, %v", e, i, l, got)
			}
		}
	}
}

func TestP8_2_Within(t *testing.T) {
	for _, c := range []struct {
		a, b string
		row  string
		is   bool
	}{
		{"a,b", "a,b*", "", true},
		{"a,b*", "a,b", "a", false},
		{"a*", "(a,a)*", "a", false},
		{"(a,a)*", "a*", "", true},
		{"(a,a,a)*", "(a,a)*", "a a a", false},
		{"!", "a", "", true},
		{"!", "!", "", true},
		{"a,!", "b", "", true},
		{"()", "a", "", false},
		{"()", "a*", "", true},
		{"a", "!", "a", false},
		// words that only one of them has
		{"a|b", "a", "b", false},
		{"a", "a|b", "", true},
		{"(a|b)*", "a*", "b", false},
		{"c,a|b,d", "a|d", "b d", false},
		{"b,!|a", "a", "", true},
		// by how many words, then word by word
		{"b|a,a", "b", "a a", false},
		{"b|a,a", "c", "b", false},
		{"(a|b)*", "()|a|b|(a,a)|(a,b)|(b,b)", "b a", false},
		{"(a|b)*,b", "b|a*,b", "b b", false},
	} {
		row, is, e := dfa.Within(made(t, c.a), made(t, c.b))
		if strings.Join(row, " ") != c.row || is != c.is || e != api.OK {
			t.Errorf("%s in %s: %q, %v, %v", c.a, c.b, row, is, e)
		}
	}
}

// pairs gives each of some automata with each of others, but for those that are passed over.
func pairs(a, b iter.Seq[dfa.DFA], each int) iter.Seq2[dfa.DFA, dfa.DFA] {
	return func(yield func(a, b dfa.DFA) bool) {
		l, n := slices.Collect(b), 0
		for x := range a {
			for _, y := range l {
				if n++; n%each == 0 && !yield(x, y) {
					return
				}
			}
		}
	}
}

// P8.3 of all small automata: by the rows themselves, of so many words that each pair of states is come to.
func TestP8_3_Within(t *testing.T) {
	for _, c := range []struct {
		all   iter.Seq2[dfa.DFA, dfa.DFA]
		asked [][]string
	}{
		{pairs(few(2, "a b"), few(2, "a b"), 1), rows(5, "a b")},
		{pairs(few(2, "a b"), few(2, "b c"), 1), rows(5, "a b")},
		{pairs(few(2, "b"), few(2, "a b"), 1), rows(5, "b")},
		{pairs(few(3, "a"), few(3, "a"), 1), rows(11, "a")},
		{pairs(few(2, "a b"), few(3, ""), 1), rows(7, "a b")},
		{pairs(few(2, "a b"), few(3, "a b"), 53), rows(7, "a b")},
		{pairs(few(3, "a b"), few(2, "a b"), 53), rows(8, "a b")},
	} {
		for a, b := range c.all {
			x, y := clone(a), clone(b)
			l, is, e := dfa.Within(x, y)
			want, out := firstOf(c.asked, func(row []string) bool { return matches(a, row) && !matches(b, row) })
			if e != api.OK || is == out || !slices.Equal(l, want) {
				t.Fatalf("%v in %v: %v, %v, %v; asked for %v, %v", a, b, l, is, e, want, !out)
			}
			clear(l[:cap(l)])
			if !unwritten(x, a) || !unwritten(y, b) {
				t.Fatal(a, b)
			}
		}
	}
}

// The greatest automata: there may be more pairs of states than an automaton has.
func TestP8_2_WithinLong(t *testing.T) {
	// a row of 255 words, and 256 for each time round, that is of 254, and 255 for each time round
	b, _ := circle(255, "a", 254).Not()
	l, is, e := dfa.Within(circle(256, "a", 255), b)
	if is || e != api.OK || !slices.Equal(l, slices.Repeat([]string{"a"}, 256*255-1)) {
		t.Error(len(l), is, e)
	}
	l, is, e = dfa.Within(circle(256, "a", 255), circle(256, "a", 255))
	if !is || len(l) > 0 || e != api.OK {
		t.Error(len(l), is, e)
	}
	b, _ = circle(256, "a", 4).Not()
	l, is, e = dfa.Within(circle(254, "a", 3), b)
	if !is || len(l) > 0 || e != api.OK {
		t.Error(len(l), is, e)
	}
	// of many words
	wide := func(n, by int) dfa.DFA {
		d := dfa.DFA{Final: make([]bool, n)}
		for i := range 100 {
			d.Syms = append(d.Syms, fmt.Sprintf("w%02d", i))
		}
		for i := range n {
			var row []int
			for w := range 100 {
				row = append(row, (i+1+w*by)%n)
			}
			d.Next = append(d.Next, row)
		}
		return d
	}
	x, y := wide(256, 1), wide(255, 2)
	x.Final[77] = true
	for i := range y.Final {
		y.Final[i] = true
	}
	if l, is, e := dfa.Within(x, y); !is || len(l) > 0 || e != api.OK {
		t.Error(l, is, e)
	}
	if l, is, e := dfa.Within(y, x); is || len(l) > 0 || e != api.OK {
		t.Error(l, is, e)
	}
}

func TestP8_2_WithinMisfits(t *testing.T) {
	hold := func(a, b dfa.DFA, want api.Errno) {
		if l, is, e := dfa.Within(a, b); e != want || is || len(l) > 0 {
			t.Errorf("Within: %v, %v, %v; asked for %v", l, is, e, want)
		}
		if d, e := dfa.Both(a, b); e != want || !same(d, dfa.DFA{}) {
			t.Errorf("Both: %v, %v; asked for %v", d, e, want)
		}
	}
	right := circle(256, "a", 3)
	for e, l := range misfits() {
		for _, d := range l {
			hold(d, right, e)
			hold(right, d, e)
		}
		for f, m := range misfits() {
			hold(l[0], m[0], e)
			hold(m[0], l[0], f)
		}
	}
}
