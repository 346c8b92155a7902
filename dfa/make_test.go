package dfa_test

import (
	"fmt"
	"iter"
	"slices"
	"strconv"
	"strings"
	"testing"

	"spyglass/api"
	"spyglass/dfa"
	"spyglass/regex"
)

// parsed is the regular expression of a text.
func parsed(t *testing.T, s string) regex.Regex {
	t.Helper()
	r, e := regex.Parse(s)
	if e != api.OK {
		t.Fatal(s, e)
	}
	return r
}

// made is the automaton of the regular expression of a text.
func made(t *testing.T, s string, more ...string) dfa.DFA {
	t.Helper()
	d, e := dfa.Make(parsed(t, s), more...)
	if e != api.OK {
		t.Fatal(s, e)
	}
	return d
}

// texts is texts of all regular expressions of so many nodes.
func texts(nodes int) []string {
	if nodes == 0 {
		return nil
	}
	if nodes == 1 {
		return []string{"a", "b", "()", "!"}
	}
	var l []string
	for _, s := range texts(nodes - 1) {
		l = append(l, "("+s+")*")
	}
	for i := 1; i < nodes-1; i++ {
		for _, a := range texts(i) {
			for _, b := range texts(nodes - 1 - i) {
				l = append(l, "("+a+"),("+b+")", "("+a+")|("+b+")")
			}
		}
	}
	return l
}

// upTo gives texts of all regular expressions of up to so many nodes.
func upTo(nodes int) iter.Seq[string] {
	return func(yield func(string) bool) {
		for n := range nodes {
			for _, s := range texts(n + 1) {
				if !yield(s) {
					return
				}
			}
		}
	}
}

// chapter is the automaton of a regular expression by the chapter's words: a state is the list of its places, nil what begins.
func chapter(r regex.Regex, more ...string) dfa.DFA {
	d := dfa.DFA{Syms: append(r.Symbols(), more...)}
	slices.Sort(d.Syms)
	d.Syms = slices.Compact(d.Syms)
	states := [][]int{nil}
	for i := 0; i < len(states); i++ {
		next := r.First()
		final := r.Nullable()
		if at := states[i]; at != nil {
			next = nil
			for _, p := range at {
				next = append(next, r.Next(p)...)
			}
			final = slices.ContainsFunc(at, r.Last)
		}
		slices.Sort(next)
		next = slices.Compact(next)
		row := []int{}
		for _, s := range d.Syms {
			to := []int{}
			for _, p := range next {
				if r.Nodes[p].Sym == s {
					to = append(to, p)
				}
			}
			n := slices.IndexFunc(states, func(l []int) bool { return l != nil && slices.Equal(l, to) })
			if n < 0 {
				n = len(states)
				states = append(states, to)
			}
			row = append(row, n)
		}
		d.Next = append(d.Next, row)
		d.Final = append(d.Final, final)
	}
	return d
}

func TestP8_1_Make(t *testing.T) {
	for _, c := range []struct {
		text string
		more []string
		want dfa.DFA
	}{
		{"a,b*", nil, auto("a b", "12", "23*", "22", "23*")},
		{"!", nil, auto("", "")},
		{"()", nil, auto("", "*")},
		{"!", []string{"b", "a", "b"}, auto("a b", "11", "11")},
		{"()", []string{"a"}, auto("a", "1*", "1")},
		// what begins is come to no more, though a set be like it
		{"a*", nil, auto("a", "1*", "1*")},
		{"a*", []string{"b", "a"}, auto("a b", "12*", "12*", "22")},
		{"(a|b)*,a", nil, auto("a b", "12", "12*", "12")},
		{"(a|b)*,a", []string{"c"}, auto("a b c", "123", "123*", "123", "333")},
		// sets are of places, not of words
		{"a,b|a,b", nil, auto("a b", "12", "23", "22", "22*")},
		{"a,a", nil, auto("a", "1", "2", "3*", "3")},
		{"c,b,a", nil, auto("a b c", "112", "111", "131", "411", "111*")},
		// the words of what is shut off stay, its places do not
		{"a|b,!", nil, auto("a b", "12", "22*", "22")},
		{"a,!", nil, auto("a", "1", "1")},
		{"a|c", []string{"b"}, auto("a b c", "123", "222*", "222", "222*")},
	} {
		d, e := dfa.Make(parsed(t, c.text), c.more...)
		if !same(d, c.want) || e != api.OK {
			t.Errorf("%s: %v, %v", c.text, d, e)
		}
	}
}

// All expressions of up to six nodes: the states by the chapter's words, the rows by regex.
func TestP8_1_MakeAll(t *testing.T) {
	asked := rows(4, "a b c")
	n := 0
	for s := range upTo(6) {
		n++
		r := parsed(t, s)
		for i, more := range [][]string{nil, {"c", "a"}} {
			if i > 0 && n%3 > 0 {
				continue
			}
			d, e := dfa.Make(r, more...)
			if e != api.OK || dfa.Check(d) != api.OK || !numbered(d) || !same(d, chapter(r, more...)) {
				t.Fatal(s, more, d, e)
			}
			for _, l := range asked {
				if d.Match(l...) != r.Match(l...) {
					t.Fatal(s, more, l, d)
				}
			}
		}
	}
}

func TestP8_1_MakeErrors(t *testing.T) {
	a := parsed(t, "a")
	for i, c := range []struct {
		r    regex.Regex
		more []string
		want api.Errno
	}{
		{regex.Regex{}, nil, api.ErrForm},
		{regex.Regex{}, []string{"1"}, api.ErrForm},
		{regex.Regex{Nodes: make([]regex.Node, 1025)}, []string{"1"}, api.ErrBound},
		{regex.Regex{Nodes: []regex.Node{{Op: regex.Sym, Sym: "1"}}}, nil, api.ErrName},
		{regex.Regex{Nodes: []regex.Node{{Op: regex.Star}}}, []string{"a"}, api.ErrForm},
		{a, []string{"1"}, api.ErrName},
		{a, []string{""}, api.ErrName},
		{a, []string{"a", "b", "b c"}, api.ErrName},
		{a, []string{strings.Repeat("x", 65)}, api.ErrName},
		{a, []string{"a", "b\xff", "c"}, api.ErrName},
		// a word that is none is told ahead of too many states
		{parsed(t, strings.Repeat("a,", 300)+"a"), []string{"1"}, api.ErrName},
	} {
		if d, e := dfa.Make(c.r, c.more...); e != c.want || !same(d, dfa.DFA{}) {
			t.Errorf("%d: %v", i, e)
		}
	}
	if d, e := dfa.Make(a, strings.Repeat("x", 64)); e != api.OK || len(d.Syms) != 2 {
		t.Error(d, e)
	}
}

func TestP8_1_MakeBound(t *testing.T) {
	chain := func(n int) string { return strings.Repeat("a,", n-1) + "a" }
	for i, c := range []struct {
		text   string
		more   []string
		states int // 0 where there are too many
	}{
		// what begins, one state a word, and the one without places
		{chain(254), nil, 256},
		{chain(255), nil, 0},
		{chain(256), nil, 0},
		{chain(511), nil, 0},
		// what is come to alone counts: the one without places is not, but by another word
		{chain(255) + "*", nil, 256},
		{chain(255) + "*", []string{"b"}, 0},
		{chain(254) + "*", []string{"b"}, 256},
		{chain(256) + "*", nil, 0},
		// what begins, and a set for each choice of the last words
		{"(a|b)*,a" + strings.Repeat(",(a|b)", 5), nil, 65},
		{"(a|b)*,a" + strings.Repeat(",(a|b)", 6), nil, 129},
		{"(a|b)*,a" + strings.Repeat(",(a|b)", 7), nil, 0},
		{"(a|b)*,a" + strings.Repeat(",(a|b)", 100), nil, 0},
	} {
		r := parsed(t, c.text)
		d, e := dfa.Make(r, c.more...)
		if c.states == 0 {
			if e != api.ErrBound || !same(d, dfa.DFA{}) {
				t.Errorf("%d: %v, %d", i, e, len(d.Next))
			}
			continue
		}
		if want := chapter(r, c.more...); e != api.OK || len(d.Next) != c.states || !same(d, want) {
			t.Errorf("%d: %v, %d states; asked for %d", i, e, len(d.Next), len(want.Next))
		}
	}
}

// The greatest expressions, and many words.
func TestP8_1_MakeLong(t *testing.T) {
	var l []string
	for i := range 254 {
		l = append(l, "w"+strconv.Itoa(i))
	}
	r := parsed(t, strings.Join(l, "|"))
	d, e := dfa.Make(r)
	if e != api.OK || len(d.Next) != 256 || len(d.Syms) != 254 {
		t.Fatal(e, len(d.Next))
	}
	for i, s := range l {
		if !d.Match(s) || d.Match(s, s) || d.Match(l[(i+1)%254], s) {
			t.Fatal(s)
		}
	}
	// 512 places of two words, each of which follows each
	r = parsed(t, "("+strings.Repeat("a|b|", 255)+"a|b)*")
	d, e = dfa.Make(r)
	if !same(d, auto("a b", "12*", "12*", "12*")) || e != api.OK {
		t.Error(d, e)
	}
	// what may be left out, one by one: sets are of up to 253 places
	d, e = dfa.Make(parsed(t, strings.Repeat("a?,", 253)+"a?"))
	if e != api.OK || len(d.Next) != 256 || !d.Match(slices.Repeat([]string{"a"}, 254)...) || d.Match(slices.Repeat([]string{"a"}, 255)...) {
		t.Error(e, len(d.Next))
	}
	var more []string
	for i := range 20000 {
		more = append(more, fmt.Sprintf("x%d", i*7919%20000))
	}
	d, e = dfa.Make(parsed(t, "x7,x8*"), more...)
	if e != api.OK || len(d.Syms) != 20000 || len(d.Next) != 4 || !d.Match("x7", "x8", "x8") || d.Match("x8") || dfa.Check(d) != api.OK {
		t.Error(e, len(d.Syms), len(d.Next))
	}
}

// Nothing that is handed in is written into, and what is answered is the caller's.
func TestP8_1_MakeMemory(t *testing.T) {
	r := parsed(t, "c,(b|a)*")
	before := slices.Clone(r.Nodes)
	more := []string{"d", "a", "behind"}
	for range 2 {
		d, e := dfa.Make(r, more[:2]...)
		if e != api.OK || !same(d, chapter(r, "a", "d")) {
			t.Fatal(d, e)
		}
		if !apart(d) {
			t.Error("shared")
		}
		clear(d.Syms[:cap(d.Syms)])
		clear(d.Final[:cap(d.Final)])
		if !slices.Equal(r.Nodes, before) || !slices.Equal(more, []string{"d", "a", "behind"}) {
			t.Fatal(r, more)
		}
	}
	d, _ := dfa.Make(parsed(t, "!"), more[:2]...)
	clear(d.Syms[:cap(d.Syms)])
	d, _ = dfa.Make(parsed(t, "!"), more[1:2]...)
	clear(d.Syms[:cap(d.Syms)])
	if !slices.Equal(more, []string{"d", "a", "behind"}) {
		t.Error(more)
	}
}
