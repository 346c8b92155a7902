package xml_test

import (
	"cmp"
	"iter"
	"regexp"
	"slices"
	"strings"
	"testing"

	"spyglass/api"
	"spyglass/names"
	"spyglass/token"
	"spyglass/tree"
	"spyglass/utf"
	"spyglass/xml"
)

// leaf is a text.
func leaf(s string) api.Tree { return api.Tree{Text: s} }

// elem is an element with children.
func elem(label string, kids ...api.Tree) api.Tree { return api.Tree{Label: label, Kids: kids} }

// with is a tree with attributes of names and values, one behind the other.
func with(t api.Tree, attrs ...string) api.Tree {
	for i := 0; i < len(attrs); i += 2 {
		t.Attrs = append(t.Attrs, api.Attr{Name: attrs[i], Value: attrs[i+1]})
	}
	return t
}

// same tells whether trees are the same, whatever their lists without elements are.
func same(a, b api.Tree) bool {
	return a.Label == b.Label && a.Text == b.Text && slices.Equal(a.Attrs, b.Attrs) && slices.EqualFunc(a.Kids, b.Kids, same)
}

// spoil writes over all that a tree has, as far as its lists reach.
func spoil(t api.Tree) {
	for i := range t.Attrs[:cap(t.Attrs)] {
		t.Attrs[:cap(t.Attrs)][i] = api.Attr{Name: "spoilt", Value: "spoilt"}
	}
	for _, k := range t.Kids {
		spoil(k)
	}
	for i := range t.Kids[:cap(t.Kids)] {
		t.Kids[:cap(t.Kids)][i] = leaf("spoilt")
	}
}

// nested is so many Opens, what stands within, and their Closes.
func nested(depth int, within string) string {
	return strings.Repeat("<a>", depth) + within + strings.Repeat("</a>", depth)
}

// What a document is, by other means: each piece is a letter, and an element that is whole turns into one.
var (
	wholeA   = regexp.MustCompile(`a[ xe]*A`)
	wholeB   = regexp.MustCompile(`b[ xe]*B`)
	document = regexp.MustCompile(`^ *e *$`)
)

// letters is pieces as letters, those that are nothing left away.
func letters(l []token.Token) string {
	var out strings.Builder
	for _, p := range l {
		switch {
		case p.Kind == token.Open && p.Empty:
			out.WriteString("e")
		case p.Kind == token.Open:
			out.WriteString(p.Name)
		case p.Kind == token.Close:
			out.WriteString(strings.ToUpper(p.Name))
		case p.Kind == token.Text && strings.Trim(p.Text, "\t\n\r ") != "":
			out.WriteString("x")
		case p.Kind == token.Text:
			out.WriteString(" ")
		}
	}
	return out.String()
}

func isDocument(s string) bool {
	for was := ""; was != s; {
		was = s
		s = wholeB.ReplaceAllString(wholeA.ReplaceAllString(s, "e"), "e")
	}
	return document.MatchString(s)
}

// answers is what mayBe answered: most rows begin alike.
var answers = map[string]bool{}

// mayBe tells whether letters can go on, with Closes or an element, so that they are a document.
func mayBe(s string) bool {
	ok, known := answers[s]
	if !known {
		open := strings.Count(s, "a") + strings.Count(s, "b") - strings.Count(s, "A") - strings.Count(s, "B")
		ok = isDocument(s) || isDocument(s+"e") || open > 0 && (mayBe(s+"A") || mayBe(s+"B"))
		answers[s] = ok
	}
	return ok
}

// placed tells by other means what is wrong with the form of pieces, and where: the elements are a and b.
func placed(l []token.Token) (int, api.Errno) {
	for i := range l {
		if !mayBe(letters(l[:i+1])) {
			return i, api.ErrForm
		}
	}
	if !isDocument(letters(l)) {
		return len(l), api.ErrForm
	}
	return 0, api.OK
}

// grown tells by other means the tree of a document's pieces: by steps, whose texts are put together.
func grown(l []token.Token) (api.Tree, api.Errno) {
	var steps []tree.Step
	depth := 0
	for _, p := range l {
		switch p.Kind {
		case token.Open:
			steps = append(steps, tree.Step{Kind: tree.Begin, Name: p.Name})
			attrs := slices.SortedFunc(slices.Values(p.Attrs), func(a, b api.Attr) int { return cmp.Compare(a.Name, b.Name) })
			for _, a := range attrs {
				steps = append(steps, tree.Step{Kind: tree.Attr, Name: a.Name, Text: a.Value})
			}
			depth++
		case token.Text:
			last := len(steps) - 1
			if depth > 0 && p.Text != "" && steps[last].Kind == tree.Text {
				steps[last].Text += p.Text
			} else if depth > 0 && p.Text != "" {
				steps = append(steps, tree.Step{Kind: tree.Text, Text: p.Text})
			}
		}
		if p.Kind == token.Close || p.Empty {
			steps = append(steps, tree.Step{Kind: tree.End})
			depth--
		}
	}
	return tree.Build(steps...)
}

// hold holds Parse of a text against other means, and answers the tree, if there is one.
func hold(t *testing.T, s string) (api.Tree, bool) {
	t.Helper()
	l, at, e := token.All([]byte(s))
	var want api.Tree
	if e == api.OK {
		at, e = placed(l)
	}
	if e == api.OK {
		want, e = grown(l)
	}
	got, place, wrong := xml.Parse([]byte(s))
	if !same(got, want) || place != at || wrong != e {
		t.Fatalf("%q: %v, %d, %v; asked for %v, %d, %v", s, got, place, wrong, want, at, e)
	}
	return got, e == api.OK
}

// rows gives all rows of up to n of some parts, as texts.
func rows(n int, parts ...string) iter.Seq[string] {
	return func(yield func(string) bool) {
		level := []string{""}
		for range n {
			var next []string
			for _, s := range level {
				for _, p := range parts {
					if !yield(s + p) {
						return
					}
					next = append(next, s+p)
				}
			}
			level = next
		}
	}
}

func TestP5_1_Trees(t *testing.T) {
	for _, c := range []struct {
		s    string
		want api.Tree
	}{
		{"<a b='1'><!-- --><c/>x<![CDATA[y]]></a>\n", with(elem("a", elem("c"), leaf("xy")), "b", "1")},
		// elements
		{"<a/>", elem("a")},
		{"<a></a>", elem("a")},
		{"<a ></a >", elem("a")},
		{"<a><a/></a>", elem("a", elem("a"))},
		{"<a><a></a></a>", elem("a", elem("a"))},
		{"<a><b/><b/><c></c></a>", elem("a", elem("b"), elem("b"), elem("c"))},
		{"<a><b><c><d/></c></b><b><c/></b></a>", elem("a", elem("b", elem("c", elem("d"))), elem("b", elem("c")))},
		{"<a><b><c>x</c></b>y<d><e/></d>z</a>", elem("a", elem("b", elem("c", leaf("x"))), leaf("y"), elem("d", elem("e")), leaf("z"))},
		// texts of an element are as they are, blanks too
		{"<a>x</a>", elem("a", leaf("x"))},
		{"<a> </a>", elem("a", leaf(" "))},
		{"<a>\r\n\t<b/>\r</a>", elem("a", leaf("\n\t"), elem("b"), leaf("\n"))},
		{"<a>&lt;&#13;&#x20;</a>", elem("a", leaf("<\r "))},
		{"<a>\u00e9\U0001f600</a>", elem("a", leaf("\u00e9\U0001f600"))},
		// texts one behind the other are one, those that are nothing none
		{"<a>x<![CDATA[y]]>z</a>", elem("a", leaf("xyz"))},
		{"<a><![CDATA[x]]><![CDATA[<]]></a>", elem("a", leaf("x<"))},
		{"<a>x<!--y-->z</a>", elem("a", leaf("xz"))},
		{"<a>x<!--1--><!--2--><![CDATA[y]]><!--3-->z</a>", elem("a", leaf("xyz"))},
		{"<a><![CDATA[]]></a>", elem("a")},
		{"<a><![CDATA[]]><b/><![CDATA[]]><!-- --><![CDATA[]]></a>", elem("a", elem("b"))},
		{"<a>x<![CDATA[]]>y<b/><![CDATA[]]>z</a>", elem("a", leaf("xy"), elem("b"), leaf("z"))},
		{"<a>x<b/>y<b></b>z</a>", elem("a", leaf("x"), elem("b"), leaf("y"), elem("b"), leaf("z"))},
		{"<a>x<b>y</b>z</a>", elem("a", leaf("x"), elem("b", leaf("y")), leaf("z"))},
		{"<a>x<b><![CDATA[]]></b>z</a>", elem("a", leaf("x"), elem("b"), leaf("z"))},
		// attributes by rising names
		{"<a b='1' c='2'/>", with(elem("a"), "b", "1", "c", "2")},
		{"<a c='2' b='1'></a>", with(elem("a"), "b", "1", "c", "2")},
		{"<a c='1' _='2' B='3' a-='4' a='5' aa='6' a.='7' a0='8'/>", with(elem("a"), "B", "3", "_", "2", "a", "5", "a-", "4", "a.", "7", "a0", "8", "aa", "6", "c", "1")},
		{"<a z='' y='&lt;&#9;\t'><b d='1' c='2'/></a>", with(elem("a", with(elem("b"), "c", "2", "d", "1")), "y", "<\t ", "z", "")},
		// what is nothing of the tree: a Decl, Comments, blanks outside
		{`<?xml version="1.0"?><a/>`, elem("a")},
		{"<?xml version=\"1.0\" encoding=\"UTF-8\"?>\n<!-- -->\n<a/>\n", elem("a")},
		{"<!----><a/><!-- --><!--<b/>-->", elem("a")},
		{"<a><!--x--></a>", elem("a")},
		{" \t\r\n<a/>\n\r\t ", elem("a")},
		{"&#32;&#9;&#xA;&#xd;<a/>&#x20;\n&#13;", elem("a")},
		{"<![CDATA[ \n]]> <a/><![CDATA[\t]]>\n<![CDATA[]]>", elem("a")},
		{"<![CDATA[]]><a><b/></a><![CDATA[]]>", elem("a", elem("b"))},
	} {
		if got, at, e := xml.Parse([]byte(c.s)); !same(got, c.want) || at != 0 || e != api.OK {
			t.Errorf("%q: %v, %d, %v", c.s, got, at, e)
		}
	}
}

func TestP5_1_Wrong(t *testing.T) {
	for _, c := range []struct {
		s  string
		at int
		e  api.Errno
	}{
		// it ends too early
		{"", 0, api.ErrForm},
		{" ", 1, api.ErrForm},
		{"<!--x-->", 1, api.ErrForm},
		{"<?xml version=\"1.0\"?>\n<!--x-->\n", 4, api.ErrForm},
		{"<a>", 1, api.ErrForm},
		{"<a>x<!-- -->", 3, api.ErrForm},
		{"<a><b/>", 2, api.ErrForm},
		{"<a><b></b>", 3, api.ErrForm},
		{"<a><a></a>", 3, api.ErrForm},
		// a Close of another name, or of none
		{"</a>", 0, api.ErrForm},
		{"</a><a>", 0, api.ErrForm},
		{"<!--x--> </a>", 2, api.ErrForm},
		{"<a></b>", 1, api.ErrForm},
		{"<a></A>", 1, api.ErrForm},
		{"<a></aa>", 1, api.ErrForm},
		{"<aa></a>", 1, api.ErrForm},
		{"<a><b></a></b>", 2, api.ErrForm},
		{"<a><b></b></b>", 3, api.ErrForm},
		{"<a><b/></b></a>", 2, api.ErrForm},
		{"<a/></a>", 1, api.ErrForm},
		{"<a></a></a>", 2, api.ErrForm},
		{"<?xml version=\"1.0\"?><a>x<!-- -->y</b>", 5, api.ErrForm},
		// an Open behind the element
		{"<a/><b/>", 1, api.ErrForm},
		{"<a/><a>", 1, api.ErrForm},
		{"<a></a><a></a>", 2, api.ErrForm},
		{"<a><b/></a>\n<!-- --><c/>", 5, api.ErrForm},
		// a text outside
		{"x", 0, api.ErrForm},
		{"x<a/>", 0, api.ErrForm},
		{"<a/>x", 1, api.ErrForm},
		{" <!-- -->\nx\n<a/>", 2, api.ErrForm},
		{"<a>x</a>&lt;", 3, api.ErrForm},
		{"<![CDATA[x]]><a/>", 0, api.ErrForm},
		{"<a/> <![CDATA[x]]>", 2, api.ErrForm},
		{"\u00a0<a/>", 0, api.ErrForm},
		{"\u2028<a/>", 0, api.ErrForm},
		{"&#133;<a/>", 0, api.ErrForm},
		{"\ufeff<a/>", 0, api.ErrForm},
		// what is wrong first
		{"<a/>x<b/>", 1, api.ErrForm},
		{"<a></b>x", 1, api.ErrForm},
		{"x</a>", 0, api.ErrForm},
		// token's errors count first, whatever stands ahead of them
		{"<a/>\xff", 4, api.ErrUTF},
		{"x<a/>\r\n\xff", 7, api.ErrUTF},
		{"<a>&</a>", 3, api.ErrForm},
		{"\r\nx<a/></ b>", 6, api.ErrForm},
		{"<a b='1' b='2'/>", 0, api.ErrForm},
		{"</a>" + strings.Repeat(" ", api.MaxBytes-3), 0, api.ErrBound},
		{"\xff" + strings.Repeat(" ", api.MaxBytes), 0, api.ErrBound},
	} {
		if got, at, e := xml.Parse([]byte(c.s)); !same(got, api.Tree{}) || at != c.at || e != c.e {
			t.Errorf("%.200q: %v, %d, %v; asked for %d, %v", c.s, got, at, e, c.at, c.e)
		}
	}
}

// The bounds of trees, and what counts ahead of them.
func TestP5_1_Bounds(t *testing.T) {
	wide := func(kids int) string { return "<a>" + strings.Repeat("<b/>", kids) + "</a>" }
	for _, c := range []struct {
		s            string
		nodes, depth int
		at           int
		e            api.Errno
	}{
		{nested(32, ""), 32, 32, 0, api.OK},
		{nested(33, ""), 0, 0, 0, api.ErrBound},
		{nested(31, "<a/>"), 32, 32, 0, api.OK},
		{nested(32, "<a/>"), 0, 0, 0, api.ErrBound},
		{nested(31, "x<!-- -->y"), 32, 32, 0, api.OK},
		{nested(32, "x"), 0, 0, 0, api.ErrBound},
		{nested(32, "<!-- --><![CDATA[]]>"), 32, 32, 0, api.OK},
		{nested(9362, ""), 0, 0, 0, api.ErrBound},
		{wide(4095), 4096, 2, 0, api.OK},
		{wide(4096), 0, 0, 0, api.ErrBound},
		{wide(16000), 0, 0, 0, api.ErrBound},
		{"<a>" + strings.Repeat("x<b/>", 2047) + "y</a>", 4096, 2, 0, api.OK},
		{"<a>" + strings.Repeat("x<b/>", 2047) + "y<!-- -->y<b/></a>", 0, 0, 0, api.ErrBound},
		{"<a>" + strings.Repeat("<![CDATA[x]]>", 4097) + "</a>", 2, 2, 0, api.OK},
		{"<a>" + strings.Repeat("<!---->", 4097) + "</a>", 1, 1, 0, api.OK},
		{"<a>" + strings.Repeat("x", api.MaxBytes-7) + "</a>", 2, 2, 0, api.OK},
		{"<a>" + strings.Repeat("x", api.MaxBytes-6) + "</a>", 0, 0, 0, api.ErrBound},
		// an element too many, and one that is not closed
		{nested(33, "") + "<a/>", 0, 0, 66, api.ErrForm},
		{nested(33, "") + "x", 0, 0, 66, api.ErrForm},
		{"<!-- -->" + nested(33, "</b>"), 0, 0, 34, api.ErrForm},
		{"<a>" + nested(33, ""), 0, 0, 67, api.ErrForm},
		{strings.Repeat("<a>", 21000), 0, 0, 21000, api.ErrForm},
		{"<c>" + wide(4096), 0, 0, 4099, api.ErrForm},
		{wide(4096) + " </a>", 0, 0, 4099, api.ErrForm},
		{strings.Repeat("<a>", 9000) + strings.Repeat("<a></a>", 5000), 0, 0, 19000, api.ErrForm},
	} {
		got, at, e := xml.Parse([]byte(c.s))
		if at != c.at || e != c.e {
			t.Errorf("%.100q: %d, %v; asked for %d, %v", c.s, at, e, c.at, c.e)
		}
		if e != api.OK && !same(got, api.Tree{}) {
			t.Errorf("%.100q: a tree beside an error", c.s)
		}
		if nodes, depth := tree.Count(got); e == api.OK && (nodes != c.nodes || depth != c.depth) {
			t.Errorf("%.100q: %d nodes, %d deep", c.s, nodes, depth)
		}
	}
}

// All rows of some pieces, by other means.
func TestP5_1_Rows(t *testing.T) {
	many := 0
	for s := range rows(6, "<a>", "</a>", "<b>", "</b>", "<b c='' a=''/>", "x", "<!-- -->") {
		if _, ok := hold(t, s); ok {
			many++
		}
	}
	for s := range rows(5, "<a b='1'>", "</a>", "<a/>", "\n", "&#32;", "<![CDATA[]]>", "<![CDATA[ ]]>", "<![CDATA[y]]>", "<!---->") {
		if _, ok := hold(t, `<?xml version="1.0"?>`+s); ok {
			many++
		}
	}
	if many < 1000 {
		t.Error(many, "documents")
	}
}

func TestP5_1_Memory(t *testing.T) {
	s := "<a c='1' b='2'>x<d e='3' f='4'><g/>y</d><h/>z<!-- -->z</a>\n"
	want := with(elem("a", leaf("x"), with(elem("d", elem("g"), leaf("y")), "e", "3", "f", "4"), elem("h"), leaf("zz")), "b", "2", "c", "1")
	room := []byte(s + "behind")
	b := room[:len(s)]
	got, _, e := xml.Parse(b)
	if string(room) != s+"behind" || e != api.OK {
		t.Errorf("%q, %v", room, e)
	}
	clear(room)
	if !same(got, want) {
		t.Fatal(got)
	}
	// what is written over one answer, or over one list, is nothing to others
	again, _, _ := xml.Parse([]byte(s))
	spoil(got)
	if !same(again, want) {
		t.Error(again)
	}
	spoil(again.Kids[1])
	want.Kids[1] = again.Kids[1]
	if !same(again, want) {
		t.Error(again)
	}
}

// What stands outside is blank where names has it so.
func TestP5_1_Blanks(t *testing.T) {
	for r := rune(0); r < 1<<12; r++ {
		if !utf.Is(r) {
			continue
		}
		c, e := names.Escape(string(r), false)
		if e != api.OK {
			t.Fatal(r, e)
		}
		for i, s := range []string{c + "<a/>", "<a/>" + c} {
			x, at, e := xml.Parse([]byte(s))
			if names.Blank(string(r)) {
				if !same(x, elem("a")) || at != 0 || e != api.OK {
					t.Errorf("%q: %v, %d, %v", s, x, at, e)
				}
			} else if at != i || e != api.ErrForm {
				t.Errorf("%q: %d, %v", s, at, e)
			}
		}
	}
}
