package regex_test

import (
	"slices"
	"strings"
	"testing"

	"spyglass/api"
	"spyglass/regex"
)

// isWord tells of a piece whether it is a word.
func isWord(s string) bool { return s != "" && !strings.Contains("!()|,*+?", s) }

// pieces is a text's words and marks; or false, if it has something else.
func pieces(s string) ([]string, bool) {
	const letters = "abcdefghijklmnopqrstuvwxyzABCDEFGHIJKLMNOPQRSTUVWXYZ_"
	var l []string
	for {
		s = strings.TrimLeft(s, "\t\n\r ")
		if s == "" {
			return l, true
		}
		rest := s[1:]
		if strings.Contains(letters, s[:1]) {
			rest = strings.TrimLeft(s, letters+"0123456789-.")
		} else if isWord(s[:1]) {
			return nil, false
		}
		l = append(l, s[:len(s)-len(rest)])
		s = rest
	}
}

// parted is pieces cut at a mark, where it is within nothing; or false, if what is shut in is not.
func parted(l []string, mark string) ([][]string, bool) {
	out := [][]string{nil}
	depth := 0
	for _, p := range l {
		switch p {
		case "(":
			depth++
		case ")":
			depth--
		}
		if depth < 0 {
			return nil, false
		}
		if depth == 0 && p == mark {
			out = append(out, nil)
			continue
		}
		out[len(out)-1] = append(out[len(out)-1], p)
	}
	return out, depth == 0
}

// meant tells by other means what pieces are: it cuts them, from the outside.
func meant(l []string) (list, bool) {
	last := len(l) - 1
	if last < 0 {
		return nil, false
	}
	for _, by := range []struct {
		mark string
		make func(...list) list
	}{{"|", either}, {",", joined}} {
		parts, ok := parted(l, by.mark)
		if !ok {
			return nil, false
		}
		if len(parts) == 1 {
			continue
		}
		var lists []list
		for _, p := range parts {
			x, ok := meant(p)
			if !ok {
				return nil, false
			}
			lists = append(lists, x)
		}
		return by.make(lists...), true
	}
	if strings.Contains("*+?", l[last]) {
		x, ok := meant(l[:last])
		switch {
		case !ok:
			return nil, false
		case l[last] == "*":
			return many(x), true
		case l[last] == "+":
			return joined(x, many(x)), true
		}
		return either(x, row(empty)), true
	}
	switch {
	case last == 0 && l[0] == "!":
		return row(none), true
	case last == 0 && isWord(l[0]):
		return row(sym(l[0])), true
	case last == 1 && l[0] == "(" && l[1] == ")":
		return row(empty), true
	case last > 1 && l[0] == "(" && l[last] == ")":
		return meant(l[1:last])
	}
	return nil, false
}

// read tells by other means what Parse answers.
func read(s string) (list, api.Errno) {
	if len(s) > api.MaxBytes {
		return nil, api.ErrBound
	}
	l, ok := pieces(s)
	var x list
	if ok {
		x, ok = meant(l)
	}
	switch {
	case !ok:
		return nil, api.ErrForm
	case slices.ContainsFunc(l, func(p string) bool { return len(p) > api.MaxName }):
		return nil, api.ErrName
	case len(x) > api.MaxOps:
		return nil, api.ErrBound
	}
	return x, api.OK
}

// holdRead holds Parse of a text against other means.
func holdRead(t *testing.T, s string) api.Errno {
	t.Helper()
	want, wrong := read(s)
	r, e := regex.Parse(s)
	if e != wrong || !slices.Equal(r.Nodes, want) || e != api.OK && r.Nodes != nil {
		t.Fatalf("%.300q: %v, %v; asked for %v, %v", s, r, e, want, wrong)
	}
	return e
}

func TestP7_3_Parse(t *testing.T) {
	for _, c := range []struct {
		s    string
		want list
	}{
		{"a", row(sym("a"))},
		{"_", row(sym("_"))},
		{"Z9.-_z", row(sym("Z9.-_z"))},
		{strings.Repeat("a", 64), row(sym(strings.Repeat("a", 64)))},
		{"!", row(none)},
		{"()", row(empty)},
		{"( \t)", row(empty)},
		{"(a)", row(sym("a"))},
		{"((a))", row(sym("a"))},
		{"(())", row(empty)},
		{"((!))", row(none)},
		{"a,b", row(sym("a"), sym("b"), cat(0, 1))},
		{"a,b,c", row(sym("a"), sym("b"), cat(0, 1), sym("c"), cat(2, 3))},
		{"a,(b,c)", row(sym("a"), sym("b"), sym("c"), cat(1, 2), cat(0, 3))},
		{"(a,b),c", row(sym("a"), sym("b"), cat(0, 1), sym("c"), cat(2, 3))},
		{"a|b|c", row(sym("a"), sym("b"), alt(0, 1), sym("c"), alt(2, 3))},
		{"a|(b|c)", row(sym("a"), sym("b"), sym("c"), alt(1, 2), alt(0, 3))},
		{"a|b,c", row(sym("a"), sym("b"), sym("c"), cat(1, 2), alt(0, 3))},
		{"a,b|c", row(sym("a"), sym("b"), cat(0, 1), sym("c"), alt(2, 3))},
		{"(a|b),c", row(sym("a"), sym("b"), alt(0, 1), sym("c"), cat(2, 3))},
		{"a,b*", row(sym("a"), sym("b"), star(1), cat(0, 2))},
		{"a|b*", row(sym("a"), sym("b"), star(1), alt(0, 2))},
		{"(a,b)*", row(sym("a"), sym("b"), cat(0, 1), star(2))},
		{"a**", row(sym("a"), star(0), star(1))},
		{"a+", row(sym("a"), sym("a"), star(1), cat(0, 2))},
		{"a?", row(sym("a"), empty, alt(0, 1))},
		{"a*?", row(sym("a"), star(0), empty, alt(1, 2))},
		{"a?*", row(sym("a"), empty, alt(0, 1), star(2))},
		{"a++", row(sym("a"), sym("a"), star(1), cat(0, 2), sym("a"), sym("a"), star(5), cat(4, 6), star(7), cat(3, 8))},
		{"a*+", row(sym("a"), star(0), sym("a"), star(2), star(3), cat(1, 4))},
		{"b,(a|c)+", row(sym("b"), sym("a"), sym("c"), alt(1, 2), sym("a"), sym("c"), alt(4, 5), star(6), cat(3, 7), cat(0, 8))},
		{"b,a?,c", row(sym("b"), sym("a"), empty, alt(1, 2), cat(0, 3), sym("c"), cat(4, 5))},
		{"()*", row(empty, star(0))},
		{"!+", row(none, none, star(1), cat(0, 2))},
		{"()?", row(empty, empty, alt(0, 1))},
		{" \t\r\n( a\n|\rb )\t* , c ? \n", row(sym("a"), sym("b"), alt(0, 1), star(2), sym("c"), empty, alt(4, 5), cat(3, 6))},
		{"a * * ", row(sym("a"), star(0), star(1))},
	} {
		r, e := regex.Parse(c.s)
		holdMade(t, c.s, r, e, c.want, api.OK)
		holdRead(t, c.s)
	}
}

func TestP7_3_Errors(t *testing.T) {
	long := strings.Repeat("a", 65)
	for e, texts := range map[api.Errno][]string{
		api.ErrForm: {
			"", " ", "\t\r\n", "|", ",", "*", "+", "?", "(", ")", "a b", "a,", ",a", "|a", "a|", "a||b", "a,,b", "a|,b", "a,|b", "(a", "a)", "((a)", "(a))", ")(", ")a(", "(,)", "(|)", "(a,)", "(a|)", "(*)", "(a)(b)", "a(b)", "(a)b",
			"a!", "!a", "!!", "()()", "()a", "*a", "a,*", "(*a)", "a*b", "a* b", "a?+b", "!()", "1", "1a", "-a", ".", "-", "a,1", "9|a",
			"a&b", "a;b", "&", "#", "@a", "{a}", "[a]", "a:b", "a/b", "'a'", "\"a\"", "<", "=", "a=b", "\u00e9", "a\u00e9", "\u00e9a", "a,\u00e9", "\xff", "a\xff", "\x00", "a\x00", "a\v", "\fa", "a\u00a0", "\u2028a", "\u0141", "\u012a", "a\u012a",
			// ahead of all that is wrong behind
			long + ",", long + " b", "," + long, "(" + long, long + "\xff", "a" + strings.Repeat("+", 20) + ")", "a" + strings.Repeat("*", 2000) + ",", long + strings.Repeat("+", 20) + "|", strings.Repeat("+", 20),
			strings.Repeat("(", api.MaxBytes), strings.Repeat(")", api.MaxBytes), strings.Repeat("(", api.MaxBytes-1) + "a", strings.Repeat(" ", api.MaxBytes), strings.Repeat(",", api.MaxBytes), strings.Repeat("a,", api.MaxBytes/2),
		},
		api.ErrName: {
			long, " " + long + " ", "(" + long + ")", "a," + long, long + "|a", long + "*", strings.Repeat("a", 64) + "9", "_" + strings.Repeat("-", 64), strings.Repeat("a.", 1000), strings.Repeat("a", api.MaxBytes),
			// ahead of the bound of nodes
			long + strings.Repeat("+", 20), "a" + strings.Repeat("+", 20) + "," + long, "a" + strings.Repeat("*", 2000) + "|(" + long + ")?",
		},
		api.ErrBound: {
			strings.Repeat(" ", api.MaxBytes+1), strings.Repeat("a", api.MaxBytes+1), "a" + strings.Repeat(" ", api.MaxBytes), strings.Repeat("\xff", api.MaxBytes+1), strings.Repeat("(", 1<<20),
			"a" + strings.Repeat("*", 1024), "a" + strings.Repeat("+", 9), "a" + strings.Repeat("+", 10), "a" + strings.Repeat("+", api.MaxBytes-1), "a" + strings.Repeat("?", 512), "(a" + strings.Repeat("+", 100) + ")|b",
			"a" + strings.Repeat(",a", 512), "a" + strings.Repeat("|a", 512), "a" + strings.Repeat(",a", 511) + "**", "(a" + strings.Repeat("|a", 256) + ")+", "!" + strings.Repeat("|()", 600),
		},
	} {
		for _, s := range texts {
			if r, got := regex.Parse(s); got != e || r.Nodes != nil {
				t.Errorf("%.300q: %v, %v; asked for %v", s, r, got, e)
			}
		}
	}
	// "(a|a|...)+" copies, so that there are twice as many, and two
	if e := holdRead(t, "(a"+strings.Repeat("|a", 255)+")+"); e != api.OK {
		t.Error(e)
	}
	if e := holdRead(t, "(a"+strings.Repeat("|a", 255)+")+*"); e != api.ErrBound {
		t.Error(e)
	}
}

func TestP7_3_Bounds(t *testing.T) {
	for _, s := range []string{
		"a" + strings.Repeat("*", 1023), "a" + strings.Repeat("+", 8), "a" + strings.Repeat("?", 511), "a" + strings.Repeat("?", 511) + "*",
		"a" + strings.Repeat(",a", 511), "a" + strings.Repeat("|a", 511) + "*", "(a" + strings.Repeat(",a", 511) + ")*", strings.Repeat("a,(", 511) + "a" + strings.Repeat(")", 511),
		"a" + strings.Repeat(" ", api.MaxBytes-1), strings.Repeat("\n", api.MaxBytes-1) + "a", "a" + strings.Repeat(" ", api.MaxBytes-2) + "*",
	} {
		if e := holdRead(t, s); e != api.OK {
			t.Errorf("%.100q: %v", s, e)
		}
	}
	// as deep as a text can be
	deep := (api.MaxBytes - 1) / 2
	r, e := regex.Parse(strings.Repeat("(", deep) + "a" + strings.Repeat(")", deep))
	holdMade(t, "deep", r, e, row(sym("a")), api.OK)
	r, e = regex.Parse(strings.Repeat("(", deep) + strings.Repeat(")", deep))
	holdMade(t, "deep, with nothing", r, e, row(empty), api.OK)
	wide := strings.Repeat("a,", 500) + "a"
	deep = (api.MaxBytes - len(wide)) / 2
	r, e = regex.Parse(strings.Repeat("(", deep) + wide + strings.Repeat(")", deep))
	holdMade(t, "deep and wide", r, e, joined(slices.Repeat([]list{{sym("a")}}, 501)...), api.OK)
}

// All rows of some parts, by other means.
func TestP7_3_ParseAll(t *testing.T) {
	found := map[api.Errno]int{}
	for _, c := range []struct {
		n     int
		parts string
	}{{5, "ab!()|,*+? "}, {7, "a()|,*"}, {4, "_9-.Z!(),| \t\r\n\v\x00"}} {
		for _, s := range upTo(c.n, c.parts) {
			found[holdRead(t, s)]++
		}
	}
	word := strings.Repeat("w", 64)
	for _, s := range upTo(6, "w.(),|+") {
		found[holdRead(t, strings.NewReplacer("w", word, ".", word+"x").Replace(s))]++
	}
	for _, e := range []api.Errno{api.OK, api.ErrForm, api.ErrName} {
		if found[e] < 1000 {
			t.Error(e, found[e])
		}
	}
	// each byte, ahead, within and behind
	for i := range 256 {
		c := string([]byte{byte(i)})
		for _, s := range []string{c, c + "a", "a" + c, "a" + c + "b", "a," + c, c + ",a", "(" + c + ")", "a" + c + c + "b", "a " + c + " b"} {
			holdRead(t, s)
		}
	}
}

// written tells by other means what Text is: what binds no more than it needs to is shut in.
func written(l list, at, need int) string {
	n, s, binds := l[at], "", 2
	switch n.Op {
	case regex.None:
		s = "!"
	case regex.Empty:
		s = "()"
	case regex.Sym:
		s = n.Sym
	case regex.Cat:
		s, binds = written(l, n.A, 1)+","+written(l, n.B, 2), 1
	case regex.Alt:
		s, binds = written(l, n.A, 0)+"|"+written(l, n.B, 1), 0
	case regex.Star:
		s = written(l, n.A, 2) + "*"
	}
	if binds < need {
		return "(" + s + ")"
	}
	return s
}

// ordered is an expression's nodes, each right behind its last part.
func ordered(l list, at int) list {
	n := l[at]
	switch n.Op {
	case regex.Cat:
		return joined(ordered(l, n.A), ordered(l, n.B))
	case regex.Alt:
		return either(ordered(l, n.A), ordered(l, n.B))
	case regex.Star:
		return many(ordered(l, n.A))
	}
	return row(n)
}

func TestP7_3_Text(t *testing.T) {
	for _, c := range []struct{ s, want string }{
		{"a, (b | c)*, d?", "a,(b|c)*,(d|())"},
		{"a", "a"},
		{"a-b.c_1", "a-b.c_1"},
		{" ! ", "!"},
		{"( )", "()"},
		{"a*", "a*"},
		{"a**", "a**"},
		{"()*", "()*"},
		{"!*", "!*"},
		{"a+", "a,a*"},
		{"a?", "a|()"},
		{"a,b,c", "a,b,c"},
		{"(a,b),c", "a,b,c"},
		{"a,(b,c)", "a,(b,c)"},
		{"(a|b)|c", "a|b|c"},
		{"a|(b|c)", "a|(b|c)"},
		{"(a,b)|c", "a,b|c"},
		{"a|(b,c)", "a|b,c"},
		{"(a|b),c", "(a|b),c"},
		{"a,(b|c)", "a,(b|c)"},
		{"(a|b),(c|d)", "(a|b),(c|d)"},
		{"(a,b),(c,d)", "a,b,(c,d)"},
		{"(a|b)|(c|d)", "a|b|(c|d)"},
		{"(a,b)*", "(a,b)*"},
		{"(a|b)*", "(a|b)*"},
		{"(a*)*", "a**"},
		{"((a))", "a"},
		{"(a,b)+", "a,b,(a,b)*"},
		{"((a|b),c|d)*,e", "((a|b),c|d)*,e"},
	} {
		r, e := regex.Parse(c.s)
		if s, f := r.Text(); s != c.want || e != api.OK || f != api.OK {
			t.Errorf("%q: %q, %v, %v", c.s, s, e, f)
		}
	}
	// parts are written in their order, wherever they stand
	if s, e := row(sym("a"), sym("b"), star(1), cat(2, 0)).regex().Text(); s != "b*,a" || e != api.OK {
		t.Error(s, e)
	}
	for e, lists := range misfits() {
		for _, l := range lists {
			if s, got := l.regex().Text(); s != "" || got != e {
				t.Errorf("%.300v: %q, %v; asked for %v", l, s, got, e)
			}
		}
	}
}

func TestP7_3_TextAll(t *testing.T) {
	for l := range few(6) {
		if s, e := l.regex().Text(); s != written(l, len(l)-1, 0) || e != api.OK {
			t.Fatalf("%v: %q, %v", l, s, e)
		}
	}
}

// holdAgain asks that an expression's text is read as the expression.
func holdAgain(t *testing.T, l list) {
	t.Helper()
	s, e := l.regex().Text()
	r, f := regex.Parse(s)
	if !slices.Equal(r.Nodes, ordered(l, len(l)-1)) || e != api.OK || f != api.OK {
		t.Fatalf("%.300v: %.300q, %v, read as %.300v, %v", l, s, e, r, f)
	}
	if again, e := r.Text(); again != s || e != api.OK {
		t.Fatalf("%.300q: written as %.300q, %v", s, again, e)
	}
}

func TestP7_4_ParseOfText(t *testing.T) {
	for l := range few(6) {
		holdAgain(t, l)
	}
	// the greatest ones
	word := row(sym(strings.Repeat("x", api.MaxName)))
	for _, make := range []func(...list) list{joined, either} {
		holdAgain(t, make(slices.Repeat([]list{word}, 512)...))
		back := word
		for range 511 {
			back = make(word, back)
		}
		holdAgain(t, back)
		holdAgain(t, many(back))
	}
	mixed := word
	for i := 0; len(mixed) < 1020; i++ {
		switch i % 3 {
		case 0:
			mixed = either(word, mixed)
		case 1:
			mixed = joined(mixed, word)
		default:
			mixed = many(mixed)
		}
	}
	holdAgain(t, mixed)
	holdAgain(t, stars(1024))
}

// goes tells whether words are those of places, from a First by Nexts to a Last.
func goes(r regex.Regex, l []string) bool {
	if len(l) == 0 {
		return r.Nullable()
	}
	at := r.First()
	for i, w := range l {
		here := slices.DeleteFunc(at, func(p int) bool { return r.Nodes[p].Sym != w })
		if i == len(l)-1 {
			return slices.ContainsFunc(here, r.Last)
		}
		at = nil
		for _, p := range here {
			at = append(at, r.Next(p)...)
		}
	}
	return false
}

func TestP7_4_Goes(t *testing.T) {
	rows := upTo(3, "ab")
	for l := range few(5) {
		for _, s := range rows {
			if r := l.regex(); r.Match(words(s)...) != goes(r, words(s)) {
				t.Fatalf("%v of %q: %v", l, s, r.Match(words(s)...))
			}
		}
	}
	rows = upTo(6, "abc")
	for _, text := range []string{"a,(b|c)*,(!|d?)", "((a,b)+|c?)*,a", "(a|b)*,a,(a|b),(a|b|c)", "(a*,b*)*,(!,c|c)?", "((a|())+,(b|()))+"} {
		r, _ := regex.Parse(text)
		for _, s := range rows {
			if r.Match(words(s)...) != goes(r, words(s)) {
				t.Fatalf("%s of %q: %v", text, s, r.Match(words(s)...))
			}
		}
	}
}
