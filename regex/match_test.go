package regex_test

import (
	"maps"
	"math"
	"regexp"
	"slices"
	"strings"
	"testing"

	"spyglass/api"
	"spyglass/regex"
)

// known is what P7.2 tells of a regular expression.
type known struct {
	nullable bool
	first    []int
	next     map[int][]int
	last     []int
}

// told is that, as the calls tell it, with places that are none asked too.
func told(r regex.Regex) known {
	k := known{nullable: r.Nullable(), first: r.First(), next: map[int][]int{}}
	places := []int{math.MinInt, math.MaxInt, -2, -1}
	for at := range len(r.Nodes) + 2 {
		places = append(places, at)
	}
	for _, at := range places {
		if l := r.Next(at); len(l) > 0 {
			k.next[at] = l
		}
		if r.Last(at) {
			k.last = append(k.last, at)
		}
	}
	return k
}

func (k known) same(o known) bool {
	return k.nullable == o.nullable && slices.Equal(k.first, o.first) && slices.Equal(k.last, o.last) && maps.EqualFunc(k.next, o.next, slices.Equal)
}

// rowsOf is rows of places that nodes match, each Star gone round twice at most: whatever is next to each other in some row is so in one of these.
func rowsOf(l list, at int) map[string]bool {
	n := l[at]
	out := map[string]bool{}
	pairs := func(a, b map[string]bool) {
		for x := range a {
			for y := range b {
				out[x+y] = true
			}
		}
	}
	switch n.Op {
	case regex.Empty:
		out[""] = true
	case regex.Sym:
		out[string(rune(at))] = true
	case regex.Cat:
		pairs(rowsOf(l, n.A), rowsOf(l, n.B))
	case regex.Alt:
		maps.Copy(out, rowsOf(l, n.A))
		maps.Copy(out, rowsOf(l, n.B))
	case regex.Star:
		once := rowsOf(l, n.A)
		pairs(once, once)
		maps.Copy(out, once)
		out[""] = true
	}
	return out
}

// seen is what P7.2 tells, by rows.
func seen(l list) known {
	var first, last []int
	next := map[int][]int{}
	rows := rowsOf(l, len(l)-1)
	for s := range rows {
		row := []rune(s)
		for i, p := range row {
			if i == 0 {
				first = append(first, int(p))
			} else {
				next[int(row[i-1])] = append(next[int(row[i-1])], int(p))
			}
			if i == len(row)-1 {
				last = append(last, int(p))
			}
		}
	}
	each := func(l []int) []int {
		slices.Sort(l)
		return slices.Compact(l)
	}
	for at := range next {
		next[at] = each(next[at])
	}
	return known{rows[""], each(first), next, each(last)}
}

// pattern is the expression as the library writes it: words are letters.
func pattern(l list, at int) string {
	n := l[at]
	switch n.Op {
	case regex.None:
		return `[^\x00-\x{10FFFF}]`
	case regex.Empty:
		return "(?:)"
	case regex.Sym:
		return n.Sym
	case regex.Cat:
		return "(?:" + pattern(l, n.A) + pattern(l, n.B) + ")"
	case regex.Alt:
		return "(?:" + pattern(l, n.A) + "|" + pattern(l, n.B) + ")"
	}
	return "(?:" + pattern(l, n.A) + ")*"
}

// upTo is all rows of up to so many letters, as texts.
func upTo(n int, letters string) []string {
	out := []string{""}
	for from := 0; n > 0; n-- {
		end := len(out)
		for _, s := range out[from:end] {
			for _, c := range letters {
				out = append(out, s+string(c))
			}
		}
		from = end
	}
	return out
}

// words is a text's letters, each a word.
func words(s string) []string { return strings.Split(s, "") }

func TestP7_2_Known(t *testing.T) {
	for i, c := range []struct {
		l    list
		want known
	}{
		{row(none), known{}},
		{row(empty), known{nullable: true}},
		{row(sym("a")), known{first: []int{0}, last: []int{0}}},
		{row(sym("a"), star(0)), known{true, []int{0}, map[int][]int{0: {0}}, []int{0}}},
		{row(none, star(0)), known{nullable: true}},
		{row(empty, star(0)), known{nullable: true}},
		{row(sym("a"), sym("a"), cat(0, 1)), known{false, []int{0}, map[int][]int{0: {1}}, []int{1}}},
		{row(sym("a"), sym("b"), cat(1, 0)), known{false, []int{1}, map[int][]int{1: {0}}, []int{0}}},
		{row(sym("a"), sym("a"), alt(1, 0)), known{false, []int{0, 1}, nil, []int{0, 1}}},
		{row(sym("a"), empty, alt(0, 1), sym("b"), cat(2, 3)), known{false, []int{0, 3}, map[int][]int{0: {3}}, []int{3}}},
		{row(sym("a"), sym("b"), star(1), cat(0, 2)), known{false, []int{0}, map[int][]int{0: {1}, 1: {1}}, []int{0, 1}}},
		{row(sym("a"), sym("b"), cat(0, 1), star(2)), known{true, []int{0}, map[int][]int{0: {1}, 1: {0}}, []int{1}}},
		{row(sym("a"), star(0), sym("b"), star(2), cat(1, 3), star(4), star(5)), known{true, []int{0, 2}, map[int][]int{0: {0, 2}, 2: {0, 2}}, []int{0, 2}}},
		// what is in no row is told of no place, wherever the None stands
		{row(sym("a"), none, cat(0, 1)), known{}},
		{row(none, sym("a"), cat(0, 1)), known{}},
		{row(sym("a"), sym("b"), cat(0, 1), none, cat(2, 3)), known{}},
		{row(sym("a"), star(0), none, cat(1, 2)), known{}},
		{row(none, sym("a"), star(1), cat(0, 2)), known{}},
		{row(sym("a"), none, cat(0, 1), star(2)), known{nullable: true}},
		{row(sym("a"), none, cat(0, 1), sym("b"), alt(2, 3)), known{first: []int{3}, last: []int{3}}},
		{row(sym("a"), none, cat(0, 1), star(2), sym("b"), cat(3, 4)), known{first: []int{4}, last: []int{4}}},
		{row(sym("a"), sym("b"), star(1), none, cat(2, 3), alt(0, 4), star(5)), known{true, []int{0}, map[int][]int{0: {0}}, []int{0}}},
		{row(sym("a"), none, sym("b"), alt(1, 2), cat(0, 3)), known{false, []int{0}, map[int][]int{0: {2}}, []int{2}}},
		{row(sym("a"), none, none, alt(1, 2), cat(0, 3)), known{}},
		{row(sym("a"), none, star(1), cat(0, 2)), known{first: []int{0}, last: []int{0}}},
	} {
		if k := told(c.l.regex()); !k.same(c.want) {
			t.Errorf("%d: %v; asked for %v", i, k, c.want)
		}
	}
}

// All expressions of up to six nodes, by rows and by the library.
func TestP7_2_All(t *testing.T) {
	rows := upTo(4, "abc")
	hold := func(l list) {
		r, before := l.regex(), slices.Clone(l)
		if k, want := told(r), seen(l); !k.same(want) {
			t.Fatalf("%v: %v; asked for %v", l, k, want)
		}
		p := regexp.MustCompile("^" + pattern(l, len(l)-1) + "$")
		for _, s := range rows {
			if r.Match(words(s)...) != p.MatchString(s) {
				t.Fatalf("%v of %q: %v", l, s, !p.MatchString(s))
			}
		}
		r.Symbols()
		r.Text()
		if !slices.Equal(l, before) {
			t.Fatalf("%v was written into: %v", before, l)
		}
	}
	for l := range few(5) {
		hold(l)
	}
	rows = upTo(3, "ab")
	for l := range grown(6, none, sym("a"), sym("b")) {
		hold(l)
	}
}

// Some expressions of more nodes.
func TestP7_2_Some(t *testing.T) {
	rows := upTo(5, "ab")
	i := 0
	for l := range grown(7, none, sym("a"), sym("b")) {
		if i++; i%101 > 0 {
			continue
		}
		if k, want := told(l.regex()), seen(l); !k.same(want) {
			t.Fatalf("%v: %v; asked for %v", l, k, want)
		}
		p := regexp.MustCompile("^" + pattern(l, len(l)-1) + "$")
		for _, s := range rows {
			if l.regex().Match(words(s)...) != p.MatchString(s) {
				t.Fatalf("%v of %q: %v", l, s, !p.MatchString(s))
			}
		}
	}
}

func TestP7_2_Match(t *testing.T) {
	for _, c := range []struct {
		text string
		yes  []string
		no   []string
	}{
		{"a, (b | c)*, d?", []string{"a", "a b c d", "a d", "a c c c"}, []string{"", "b", "a d d", "a d b", "a a", "d"}},
		{"()", []string{""}, []string{"a"}},
		{"!", nil, []string{"", "a", "!"}},
		{"title,author*", []string{"title", "title author author"}, []string{"", "author", "author title", "title title", "Title", "titl", "title authors"}},
		{"a+", []string{"a", "a a a"}, []string{"", "b", "a b"}},
		{"(a,b)+", []string{"a b", "a b a b"}, []string{"", "a", "a b a"}},
		{"a|()|!", []string{"", "a"}, []string{"a a"}},
		{"(a,a)*|(a,a,a)*", []string{"", "a a", "a a a", "a a a a", "a a a a a a a a a"}, []string{"a", "a a a a a"}},
		{"(a|b)*,a,(a|b),(a|b)", []string{"a a a", "b a b b", "a a b b"}, []string{"a", "b b b", "a b b b"}},
	} {
		r, e := regex.Parse(c.text)
		if e != api.OK {
			t.Fatal(c.text, e)
		}
		for _, s := range c.yes {
			if !r.Match(strings.Fields(s)...) {
				t.Errorf("%s does not match %q", c.text, s)
			}
		}
		for _, s := range c.no {
			if r.Match(strings.Fields(s)...) {
				t.Errorf("%s matches %q", c.text, s)
			}
		}
	}
	// what is asked need be no names
	r := row(sym("a"), star(0)).regex()
	for _, l := range [][]string{{""}, {"a", ""}, {"", "a"}, {"a a"}, {"\xff"}, {"a", " "}, {"()"}, {"a*"}} {
		if r.Match(l...) {
			t.Errorf("%q", l)
		}
	}
}

func TestP7_2_Symbols(t *testing.T) {
	for _, c := range []struct {
		text string
		want []string
	}{
		{"!", nil}, {"()*", nil}, {"a", []string{"a"}}, {"b,a", []string{"a", "b"}}, {"a,b,a|b*", []string{"a", "b"}},
		// rising as bytes do
		{"b.,_,B,b,aa,b-,a,b_,b0,bb", []string{"B", "_", "a", "aa", "b", "b-", "b.", "b0", "b_", "bb"}},
		// of what matches nothing too
		{"c,!|(a,!,b)", []string{"a", "b", "c"}},
	} {
		r, e := regex.Parse(c.text)
		if l := r.Symbols(); !slices.Equal(l, c.want) || e != api.OK {
			t.Errorf("%s: %v, %v", c.text, l, e)
		}
	}
	for l := range few(5) {
		var want []string
		for _, s := range []string{"a", "b"} {
			if slices.Contains(l, sym(s)) {
				want = append(want, s)
			}
		}
		if got := l.regex().Symbols(); !slices.Equal(got, want) {
			t.Fatalf("%v: %v", l, got)
		}
	}
}

// Of what may not be all is false, or nothing.
func TestP7_2_Misfits(t *testing.T) {
	for _, lists := range misfits() {
		for _, l := range lists {
			r := l.regex()
			if k := told(r); !k.same(known{}) {
				t.Errorf("%.300v: %v", l, k)
			}
			if r.Match() || r.Match("a") || r.Match("") || r.Match("1") || r.Match("a", "b") || len(r.Symbols()) > 0 {
				t.Errorf("%.300v", l)
			}
		}
	}
}

// What is answered is the caller's.
func TestP7_2_Memory(t *testing.T) {
	r, _ := regex.Parse("(a|b)*,c")
	for range 2 {
		for _, l := range [][]int{r.First(), r.Next(0)} {
			if !slices.Equal(l, []int{0, 1, 4}) {
				t.Error(l)
			}
			clear(l[:cap(l)])
		}
		l := r.Symbols()
		if !slices.Equal(l, []string{"a", "b", "c"}) {
			t.Error(l)
		}
		clear(l[:cap(l)])
	}
	l := []string{"a", "c", "behind"}
	if !r.Match(l[:2]...) || !slices.Equal(l, []string{"a", "c", "behind"}) {
		t.Error(l)
	}
}

// The greatest ones, and long rows.
func TestP7_2_Long(t *testing.T) {
	name := func(i int) string { return strings.Repeat("x", 60) + string(rune('A'+i/26)) + string(rune('a'+i%26)) }
	var parts []list
	for i := range 512 {
		parts = append(parts, row(sym(name(i))))
	}
	r := many(either(parts...)).regex()
	var all []int
	for i, n := range r.Nodes {
		if n.Op == regex.Sym {
			all = append(all, i)
		}
	}
	if !slices.Equal(r.First(), all) || !r.Nullable() {
		t.Error(r.First())
	}
	for i := range r.Nodes {
		if is := r.Nodes[i].Op == regex.Sym; r.Last(i) != is || is != slices.Equal(r.Next(i), all) {
			t.Fatal(i)
		}
	}
	var row []string
	for i := range 4096 {
		row = append(row, name(i*17%512))
	}
	if !r.Match(row...) || r.Match(append(row, "a")...) || r.Match(append([]string{"a"}, row...)...) {
		t.Error("a long row")
	}
	// the last word but 500 is an a: there are too many sets of places to have them all
	var l []list
	for range 125 {
		l = append(l, either(list{sym("a")}, list{sym("b")}))
	}
	r = joined(append([]list{many(either(list{sym("a")}, list{sym("b")})), {sym("a")}}, l...)...).regex()
	s := strings.Repeat("abbabaaabbab", 40)
	for i := 126; i < len(s); i++ {
		if r.Match(words(s[:i])...) != (s[i-126] == 'a') {
			t.Fatal(i)
		}
	}
	r = stars(1024).regex()
	if !r.Match(slices.Repeat([]string{"a"}, 1<<12)...) || !slices.Equal(r.Next(0), []int{0}) {
		t.Error("stars")
	}
	r = long(1023).regex()
	if !r.Match(append([]string{"a"}, slices.Repeat([]string{"b"}, 511)...)...) || r.Match(append([]string{"a"}, slices.Repeat([]string{"b"}, 512)...)...) {
		t.Error("a long expression")
	}
}
