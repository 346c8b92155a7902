package xml_test

import (
	"slices"
	"strings"
	"testing"

	"spyglass/api"
	"spyglass/tree"
	"spyglass/utf"
	"spyglass/xml"
)

// What is written in place of characters, by other means.
var (
	escape      = strings.NewReplacer("&", "&amp;", "<", "&lt;", ">", "&gt;", "\r", "&#13;")
	escapeValue = strings.NewReplacer("&", "&amp;", "<", "&lt;", ">", "&gt;", "\r", "&#13;", "\"", "&quot;", "\t", "&#9;", "\n", "&#10;")
)

// written tells by other means the document of a tree's steps.
func written(l []tree.Step) string {
	var out strings.Builder
	var open []string
	for i, s := range l {
		if i > 0 && l[i-1].Kind <= tree.Attr && s.Kind != tree.Attr && s.Kind != tree.End {
			out.WriteString(">")
		}
		switch s.Kind {
		case tree.Begin:
			out.WriteString("<" + s.Name)
			open = append(open, s.Name)
		case tree.Attr:
			out.WriteString(" " + s.Name + "=\"" + escapeValue.Replace(s.Text) + "\"")
		case tree.Text:
			out.WriteString(escape.Replace(s.Text))
		case tree.End:
			last := len(open) - 1
			if l[i-1].Kind <= tree.Attr {
				out.WriteString("/>")
			} else {
				out.WriteString("</" + open[last] + ">")
			}
			open = open[:last]
		}
	}
	return out.String()
}

// some is trees of up to three levels, right ones and wrong ones.
func some() []api.Tree {
	few := []api.Tree{leaf("x"), leaf(" "), leaf("]]>&<\"'\r\n\t"), leaf(""), leaf("\v"), elem("a"), elem("b-._9"), elem("1"), with(elem("a"), "a", ""), with(elem("a"), "a", "]]>&<\"'\r\n\t "), with(elem("a"), "B", "1", "b", "2"), with(elem("a"), "b", "", "a", ""), with(elem("a"), "-", ""), with(elem("a"), "a", "\xff"), with(leaf("x"), "a", ""), {Label: "a", Text: "x"}, elem("")}
	out := slices.Clone(few)
	for range 2 {
		last := slices.Clone(out)
		for _, x := range last {
			out = append(out, elem("a", x), with(elem("b", x), "c", ""), elem("a", leaf("x"), x), elem("a", x, leaf("y")), elem("", x))
		}
	}
	for _, x := range few {
		for _, y := range few {
			out = append(out, elem("a", x, y), with(elem("a", elem("b", x), y), "a", ""), elem("a", x, elem("b", y)), elem("a", x, elem("b"), y))
		}
	}
	return out
}

func TestP5_2_Trees(t *testing.T) {
	for _, c := range []struct {
		t    api.Tree
		want string
	}{
		{with(elem("a", elem("c"), leaf("xy")), "b", "1"), `<a b="1"><c/>xy</a>`},
		{elem("a"), "<a/>"},
		{api.Tree{Label: "a", Attrs: []api.Attr{}, Kids: []api.Tree{}}, "<a/>"},
		{elem("a-b.c_9"), "<a-b.c_9/>"},
		{elem("a", elem("b", elem("c")), elem("b")), "<a><b><c/></b><b/></a>"},
		{elem("a", leaf(" ")), "<a> </a>"},
		{elem("a", leaf("x"), elem("b", leaf("y")), leaf("z")), "<a>x<b>y</b>z</a>"},
		{with(elem("a"), "b", "", "c", "'"), `<a b="" c="'"/>`},
		{with(elem("a", with(elem("b"), "c", "1")), "d", "2", "e", "3"), `<a d="2" e="3"><b c="1"/></a>`},
		{elem("a", leaf("&<>\"'\t\n\r]]>&lt;")), "<a>&amp;&lt;&gt;\"'\t\n&#13;]]&gt;&amp;lt;</a>"},
		{with(elem("a"), "b", "&<>\"'\t\n\r]]>&lt;"), "<a b=\"&amp;&lt;&gt;&quot;'&#9;&#10;&#13;]]&gt;&amp;lt;\"/>"},
		{with(elem("a", leaf("\u00e9\U0001f600")), "b", "\u00e9\U0001f600"), "<a b=\"\u00e9\U0001f600\">\u00e9\U0001f600</a>"},
	} {
		if b, e := xml.Write(c.t); string(b) != c.want || e != api.OK {
			t.Errorf("%v: %q, %v", c.t, b, e)
		}
	}
}

func TestP5_2_Wrong(t *testing.T) {
	// a tree within itself has no end
	round := elem("a", elem("a"))
	round.Kids[0].Kids = round.Kids
	for _, c := range []struct {
		t api.Tree
		e api.Errno
	}{
		// a text, whatever else is wrong with it
		{api.Tree{}, api.ErrForm},
		{leaf("x"), api.ErrForm},
		{leaf("\xff"), api.ErrForm},
		{with(leaf("x"), "1", "\xff"), api.ErrForm},
		{elem("", elem("a")), api.ErrForm},
		{elem("", round), api.ErrForm},
		// tree's errors, of the root and of others
		{round, api.ErrBound},
		{api.Tree{Label: "a", Text: "x"}, api.ErrForm},
		{elem("a", with(leaf("x"), "a", "")), api.ErrForm},
		{elem("1"), api.ErrName},
		{elem("a", elem("b c")), api.ErrName},
		{elem(strings.Repeat("a", api.MaxName+1)), api.ErrName},
		{with(elem("a"), "1", ""), api.ErrName},
		{with(elem("a"), "a", "\xff"), api.ErrUTF},
		{elem("a", leaf("\x00")), api.ErrUTF},
		{elem("a", leaf("")), api.ErrEmpty},
		{with(elem("a"), "b", "", "a", ""), api.ErrOrder},
		{with(elem("a"), "b", "", "b", ""), api.ErrOrder},
		{elem("a", leaf("x"), leaf("y")), api.ErrThere},
		{elem("a", leaf("x"), leaf("")), api.ErrEmpty},
		// the bound of what is written counts last
		{elem("a", leaf(strings.Repeat("x", api.MaxBytes)), leaf("y")), api.ErrThere},
	} {
		if b, e := xml.Write(c.t); len(b) != 0 || e != c.e {
			t.Errorf("%.200q, %v; asked for %v", b, e, c.e)
		}
	}
}

func TestP5_2_Bounds(t *testing.T) {
	long := func(s string, n int) string { return strings.Repeat(s, n) }
	chain, wide := elem("a"), elem("a")
	for range api.MaxDepth - 1 {
		chain = elem("a", chain)
	}
	for range api.MaxNodes - 1 {
		wide.Kids = append(wide.Kids, elem("b"))
	}
	broad := elem("a")
	for range 1000 {
		broad.Kids = append(broad.Kids, with(elem("b"), "c", long("x", 1000)))
	}
	for i, c := range []struct {
		t    api.Tree
		many int
		e    api.Errno
	}{
		{elem("a", leaf(long("x", api.MaxBytes-7))), api.MaxBytes, api.OK},
		{elem("a", leaf(long("x", api.MaxBytes-6))), 0, api.ErrBound},
		{with(elem("a"), "b", long("x", api.MaxBytes-9)), api.MaxBytes, api.OK},
		{with(elem("a"), "b", long("x", api.MaxBytes-8)), 0, api.ErrBound},
		{elem("a", leaf(long("<", 16382))), 7 + 4*16382, api.OK},
		{elem("a", leaf(long("<", 16383))), 0, api.ErrBound},
		{elem("a", leaf(long("\u00e9", 1<<15))), 0, api.ErrBound},
		{broad, 0, api.ErrBound},
		{chain, 7*(api.MaxDepth-1) + 4, api.OK},
		{elem("a", chain), 0, api.ErrBound},
		{wide, 7 + 4*(api.MaxNodes-1), api.OK},
		{elem("a", wide.Kids...), 7 + 4*(api.MaxNodes-1), api.OK},
		{elem("a", wide), 0, api.ErrBound},
	} {
		if b, e := xml.Write(c.t); len(b) != c.many || e != c.e {
			t.Error(i, len(b), e)
		}
	}
}

// All of some trees, by other means.
func TestP5_2_Some(t *testing.T) {
	for _, x := range some() {
		want := ""
		l, wrong := tree.Steps(x)
		if x.Label == "" {
			wrong = api.ErrForm
		}
		if wrong == api.OK {
			want = written(l)
		}
		if b, e := xml.Write(x); string(b) != want || e != wrong {
			t.Fatalf("%v: %q, %v; asked for %q, %v", x, b, e, want, wrong)
		}
	}
}

func TestP5_2_Memory(t *testing.T) {
	kids := []api.Tree{with(elem("b"), "c", "<", "d", "1"), leaf("x"), leaf("behind")}[:2]
	x := with(elem("a", kids...), "e", "2")
	x.Kids = kids
	want := tree.Copy(x)
	first, _ := xml.Write(x)
	clear(first[:cap(first)])
	if !same(x, want) || kids[:3][2].Text != "behind" {
		t.Error(x)
	}
	if b, e := xml.Write(x); string(b) != `<a e="2"><b c="&lt;" d="1"/>x</a>` || e != api.OK {
		t.Errorf("%q, %v", b, e)
	}
}

func TestP5_3_ParseOfWrite(t *testing.T) {
	many := 0
	for _, x := range some() {
		b, e := xml.Write(x)
		if e != api.OK {
			continue
		}
		many++
		if again, at, e := xml.Parse(b); !same(again, x) || at != 0 || e != api.OK {
			t.Fatalf("%v: %q, read as %v, %d, %v", x, b, again, at, e)
		}
	}
	if many < 100 {
		t.Error(many, "trees")
	}
}

// Each character is read as it was written, in a text and in a value.
func TestP5_3_Characters(t *testing.T) {
	for r := rune(0); r < 1<<17; r++ {
		if !utf.Is(r) {
			continue
		}
		x := with(elem("a", leaf(string(r))), "b", string(r))
		b, e := xml.Write(x)
		if again, _, f := xml.Parse(b); !same(again, x) || e != api.OK || f != api.OK {
			t.Fatalf("%d: %q, read as %v, %v, %v", r, b, again, e, f)
		}
	}
}

// holdAgain asks that a document's tree is written so that it is read, and written, as the same again.
func holdAgain(t *testing.T, s string, x api.Tree) {
	t.Helper()
	b, e := xml.Write(x)
	if e != api.OK {
		t.Fatalf("%q: %v, %v", s, x, e)
	}
	again, at, e := xml.Parse(b)
	if !same(again, x) || at != 0 || e != api.OK {
		t.Fatalf("%q: %v, written as %q, read as %v, %d, %v", s, x, b, again, at, e)
	}
	if c, e := xml.Write(again); string(c) != string(b) || e != api.OK {
		t.Fatalf("%q: written as %q, and as %q, %v", s, b, c, e)
	}
}

func TestP5_3_WriteOfParse(t *testing.T) {
	for s := range rows(5, "<a>", "</a>", "<b y='\t&#9;\"' x=\"'&lt;>\"/>", "]]&gt;\r\n&#13;", " ", "<![CDATA[<&]]>", "<![CDATA[]]>", "<!--<-->") {
		if x, _, e := xml.Parse([]byte(s)); e == api.OK {
			holdAgain(t, s, x)
		}
	}
}

// way is how a document may be written: its beginning and its end, a text, a value, what stands among children, and an element without children.
type way struct {
	begin, end    string
	text, value   func(string) string
	among, hollow string
}

// ways is all of some beginnings with all of some texts, and so on.
func ways() []way {
	references := func(s string) string {
		var out strings.Builder
		for _, r := range s {
			out.WriteString("&#" + decimal(r) + ";")
		}
		return out.String()
	}
	parted := func(s string) string {
		var out []string
		for _, r := range s {
			out = append(out, escape.Replace(string(r)))
		}
		return strings.Join(out, "<!-- -->")
	}
	data := func(s string) string {
		// A 13 is read as 10 there.
		s = strings.ReplaceAll(strings.ReplaceAll(s, "]]>", "]]]]><![CDATA[>"), "\r", "]]>&#13;<![CDATA[")
		return "<![CDATA[" + s + "]]>"
	}
	quoted := func(s string) string { return " \n=\t\"" + escapeValue.Replace(s) + "\"" }
	single := func(s string) string { return "='" + references(s) + "'" }
	var out []way
	for _, outside := range [][2]string{{"", ""}, {" \r\n", "\r\t"}, {"<?xml version=\"1.0\"?>\n<!--<b>-->&#13;", "<![CDATA[ ]]><!----> "}} {
		for _, text := range []func(string) string{escape.Replace, references, parted, data} {
			for _, value := range []func(string) string{quoted, single} {
				for _, among := range []string{"", "<!--x-->", "<![CDATA[]]>"} {
					for _, hollow := range []string{"/>", "\n/>", "></x>", "><!-- --></x\t>"} {
						out = append(out, way{outside[0], outside[1], text, value, among, hollow})
					}
				}
			}
		}
	}
	return out
}

// decimal is a number's digits.
func decimal(r rune) string {
	if r < 10 {
		return string('0' + r)
	}
	return decimal(r/10) + decimal(r%10)
}

// write is a tree as it is written so, its attributes backwards.
func (w way) write(t api.Tree) string {
	if t.Label == "" {
		return w.text(t.Text)
	}
	out := "<" + t.Label
	for _, a := range slices.Backward(t.Attrs) {
		out += "\r\n" + a.Name + w.value(a.Value)
	}
	if len(t.Kids) == 0 && w.among == "" {
		return out + strings.ReplaceAll(w.hollow, "x", t.Label)
	}
	out += ">" + w.among
	for _, k := range t.Kids {
		out += w.write(k) + w.among
	}
	return out + "</" + t.Label + ">"
}

func TestP5_3_Ways(t *testing.T) {
	l := ways()
	for _, x := range some() {
		b, e := xml.Write(x)
		if e != api.OK {
			continue
		}
		for _, w := range l {
			s := w.begin + w.write(x) + w.end
			got, at, e := xml.Parse([]byte(s))
			if !same(got, x) || at != 0 || e != api.OK {
				t.Fatalf("%q: %v, %d, %v; asked for %v", s, got, at, e, x)
			}
			if c, e := xml.Write(got); string(c) != string(b) || e != api.OK {
				t.Fatalf("%q: written as %q, %v; asked for %q", s, c, e, b)
			}
		}
	}
}
