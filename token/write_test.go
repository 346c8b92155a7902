package token_test

import (
	"slices"
	"strings"
	"testing"

	"spyglass/api"
	"spyglass/token"
	"spyglass/utf"
)

func TestP3_2_Written(t *testing.T) {
	for _, c := range []struct {
		l []token.Token
		s string
	}{
		{nil, ""},
		{[]token.Token{decl("")}, `<?xml version="1.0"?>`},
		{[]token.Token{decl("UTF-8"), text("\n")}, "<?xml version=\"1.0\" encoding=\"UTF-8\"?>\n"},
		{[]token.Token{open("a")}, "<a>"},
		{[]token.Token{empty(open("a"))}, "<a/>"},
		{[]token.Token{open("a", "b", "1")}, `<a b="1">`},
		{[]token.Token{empty(open("a", "c", "1", "b", "2"))}, `<a c="1" b="2"/>`},
		{[]token.Token{open("a", "b", "")}, `<a b="">`},
		{[]token.Token{open("a", "b", "<>&\"'\t\n\r \u00e9")}, `<a b="&lt;&gt;&amp;&quot;'&#9;&#10;&#13; ` + "\u00e9" + `">`},
		{[]token.Token{closed("a")}, "</a>"},
		{[]token.Token{text("")}, ""},
		{[]token.Token{text("<>&\"'\t\n\r \u00e9")}, "&lt;&gt;&amp;\"'\t\n&#13; \u00e9"},
		{[]token.Token{text("]]>"), text("]]"), text(">")}, "]]&gt;]]&gt;"},
		{[]token.Token{comment("")}, "<!---->"},
		{[]token.Token{comment("-a<&\">\t\n- \u00e9")}, "<!---a<&\">\t\n- \u00e9-->"},
		// they need not be a document's, but for the Decl
		{[]token.Token{closed("a"), closed("b"), open("c"), text("x"), comment("y")}, "</a></b><c>x<!--y-->"},
		{[]token.Token{open("a", "b", "1"), text("x&y"), closed("a")}, `<a b="1">x&amp;y</a>`},
		// what does not count is not asked
		{[]token.Token{{Kind: token.Decl, Name: "1", Attrs: []api.Attr{{}}, Empty: true}}, `<?xml version="1.0"?>`},
		{[]token.Token{{Kind: token.Open, Name: "a", Text: "\xff"}}, "<a>"},
		{[]token.Token{{Kind: token.Close, Name: "a", Text: "\xff", Attrs: []api.Attr{{}, {}}, Empty: true}}, "</a>"},
		{[]token.Token{{Kind: token.Text, Text: "x", Name: "1", Attrs: []api.Attr{{}, {}}, Empty: true}}, "x"},
		{[]token.Token{{Kind: token.Comment, Text: "x", Name: "1", Attrs: []api.Attr{{Name: "a", Value: "\xff"}}, Empty: true}}, "<!--x-->"},
	} {
		if b, e := token.Write(c.l...); string(b) != c.s || e != api.OK {
			t.Errorf("%v: %q, %v", c.l, b, e)
		}
	}
}

// wrongTokens is tokens, each with what is wrong with it first.
func wrongTokens() map[api.Errno][]token.Token {
	long := strings.Repeat("a", api.MaxName+1)
	return map[api.Errno][]token.Token{
		api.ErrArg: {
			{}, {Kind: -1}, {Kind: 6}, {Kind: 1 << 40}, {Kind: 0, Name: "1", Text: "\xff", Attrs: []api.Attr{{}, {}}}, {Kind: 6, Text: "--"},
			decl("x"), decl("utf-8"), decl("UTF-8 "), decl("\xff"), decl("UTF-16"),
		},
		api.ErrName: {
			open(""), open("1"), open("a b"), open("a>"), open("\u00e9"), open("\xff"), open(long), empty(open("")),
			closed(""), closed("1"), closed("a "), closed("\xff"), closed(long),
			open("a", "", "1"), open("a", "1", "1"), open("a", "b c", "1"), open("a", "b=", "1"), open("a", long, "1"), open("a", "\xff", "1"),
			// ahead of two of one name, and of a value
			open("1", "b", "1", "b", "1"), open("1", "b", "\xff"), open("a", "", "", "", ""), open("a", "b", "", "b", "", "c d", ""), open("a", "b", "\xff", "", ""), open("a", "", "\xff"),
		},
		api.ErrThere: {
			open("a", "b", "1", "b", "2"), open("a", "b", "1", "c", "1", "b", "1"), empty(open("a", "a", "", "b", "", "b", "")),
			// ahead of a value
			open("a", "b", "\xff", "b", ""), open("a", "c", "\xff", "b", "", "b", ""),
		},
		api.ErrUTF: {
			text("\xff"), text("a\x00"), text("<\xed\xa0\x80"), comment("\xff"), comment("a\xef\xbf\xbf"),
			open("a", "b", "\xff"), open("a", "b", "", "c", "\v"), empty(open("a", "b", "<\xc3")),
			// ahead of how a Comment is written
			comment("--\xff"), comment("\r\x00"), comment("\xff-"),
		},
		api.ErrForm: {
			comment("--"), comment("-"), comment("a-"), comment("a--b"), comment("--a"), comment("\r"), comment("a\r\nb"), comment("---"), comment("\u00e9-"),
		},
	}
}

func TestP3_2_Wrong(t *testing.T) {
	long := text(strings.Repeat("a", api.MaxBytes+1))
	for want, l := range wrongTokens() {
		for _, c := range l {
			for _, row := range [][]token.Token{
				{c}, {decl(""), c}, {open("a"), c}, {c, closed("a")},
				// the first one counts, and each ahead of the bound
				{c, {}}, {c, open("")}, {c, text("\xff")}, {c, comment("--")}, {c, open("a", "b", "", "b", "")},
				{long, c}, {c, long}, {long, long, c, long},
			} {
				if b, e := token.Write(row...); len(b) != 0 || e != want {
					t.Errorf("%.200v: %d bytes, %v; asked for %v", row, len(b), e, want)
				}
			}
		}
	}
}

func TestP3_2_DeclFirst(t *testing.T) {
	for _, ahead := range []token.Token{decl(""), decl("UTF-8"), open("a"), closed("a"), text(""), text("x"), comment("")} {
		for _, d := range []token.Token{decl(""), decl("UTF-8"), decl("x")} {
			if b, e := token.Write(ahead, d); len(b) != 0 || e != api.ErrArg {
				t.Errorf("%v behind %v: %q, %v", d, ahead, b, e)
			}
		}
	}
}

func TestP3_2_Bound(t *testing.T) {
	full := strings.Repeat("a", api.MaxBytes)
	for _, c := range []struct {
		l    []token.Token
		many int
	}{
		{[]token.Token{text(full)}, api.MaxBytes},
		{[]token.Token{text(full), text("")}, api.MaxBytes},
		{[]token.Token{text(full + "a")}, 0},
		{[]token.Token{text(full), text("a")}, 0},
		{[]token.Token{text("a"), text(full)}, 0},
		{[]token.Token{text(full[3:]), open("a")}, api.MaxBytes},
		{[]token.Token{text(full[2:]), open("a")}, 0},
		{[]token.Token{comment(full[7:])}, api.MaxBytes},
		{[]token.Token{comment(full[6:])}, 0},
		{[]token.Token{open("a", "b", full[8:])}, api.MaxBytes},
		{[]token.Token{open("a", "b", full[7:])}, 0},
		// what is written is counted, not what is told
		{[]token.Token{text(strings.Repeat("<", api.MaxBytes/4))}, api.MaxBytes},
		{[]token.Token{text(strings.Repeat("<", api.MaxBytes/4+1))}, 0},
		{[]token.Token{text(strings.Repeat("\u00e9", api.MaxBytes/2+1))}, 0},
		{slices.Repeat([]token.Token{empty(open("a"))}, api.MaxBytes/4), api.MaxBytes},
		{slices.Repeat([]token.Token{empty(open("a"))}, api.MaxBytes/4+1), 0},
		{slices.Repeat([]token.Token{text(full)}, 1000), 0},
	} {
		want := api.OK
		if c.many == 0 {
			want = api.ErrBound
		}
		if b, e := token.Write(c.l...); len(b) != c.many || e != want {
			t.Errorf("%.200v: %d bytes, %v", c.l, len(b), e)
		}
	}
}

func TestP3_2_Memory(t *testing.T) {
	l := []token.Token{open("a", "b", "1", "c", "2"), text("<"), closed("a")}
	first, _ := token.Write(l[:2]...)
	clear(first)
	if !same(l, []token.Token{open("a", "b", "1", "c", "2"), text("<"), closed("a")}) {
		t.Error(l)
	}
	if b, e := token.Write(l...); string(b) != `<a b="1" c="2">&lt;</a>` || e != api.OK {
		t.Errorf("%q, %v", b, e)
	}
}

// parted tells whether no Text is nothing, and no two stand one behind the other.
func parted(l []token.Token) bool {
	for i, t := range l {
		if t.Kind == token.Text && (t.Text == "" || i > 0 && l[i-1].Kind == token.Text) {
			return false
		}
	}
	return true
}

func TestP3_3_AllOfWrite(t *testing.T) {
	kinds := []token.Token{
		decl(""), decl("UTF-8"), open("a"), empty(open("a")), open("b", "x", "<\"'\t\n\r &amp;", "y", ""), empty(open("c.-_", "z", ">")),
		closed("a"), closed("c.-_"), text(" "), text("]]>\r\n<&'\"&lt;\t"), text("\u00e9\U0001f600"), comment(""), comment("-x]]>&lt;<a>\n"),
	}
	level := [][]token.Token{nil}
	for range 4 {
		var next [][]token.Token
		for _, l := range level {
			for _, k := range kinds {
				if k.Kind == token.Decl && len(l) > 0 {
					continue
				}
				next = append(next, append(slices.Clip(l), k))
			}
		}
		for _, l := range next {
			b, e := token.Write(l...)
			if e != api.OK {
				t.Fatal(l, e)
			}
			if again, at, e := token.All(b); parted(l) && (!same(again, l) || at != 0 || e != api.OK) {
				t.Fatalf("%v: %q, read as %v, %d, %v", l, b, again, at, e)
			}
		}
		level = next
	}
}

// Each character is read as it was written, wherever it may stand.
func TestP3_3_Characters(t *testing.T) {
	for r := rune(0); r < 1<<17; r++ {
		if !utf.Is(r) {
			continue
		}
		l := []token.Token{open("a", "b", "x"+string(r)), text(string(r)), closed("a")}
		if r != '-' && r != '\r' {
			l = append(l, comment("x"+string(r)))
		}
		b, e := token.Write(l...)
		if again, _, f := token.All(b); !same(again, l) || e != api.OK || f != api.OK {
			t.Fatalf("%d: %q, read as %v, %v, %v", r, b, again, e, f)
		}
	}
}

func TestP3_3_WriteOfAll(t *testing.T) {
	again := func(s string) {
		l, _, e := token.All([]byte(s))
		if e != api.OK || !parted(l) {
			return
		}
		b, e := token.Write(l...)
		if next, _, f := token.All(b); !same(next, l) || e != api.OK || f != api.OK {
			t.Fatalf("%q: %v, written as %q, %v, read as %v, %v", s, l, b, e, next, f)
		}
	}
	for s := range rows("", 5, "<a", "</a", " b='", "'", "/>", ">", "&#13;", "\r", "\"", "x") {
		again(s)
	}
	for s := range rows("<?xml version=\"1.0\"?>", 4, "<![CDATA[", "]]>", "]", "&amp;", "<!--", "-", "-->", "\r\n", "<a\nb=\"\t&#9;&quot;'\"/>", "&gt;") {
		again(s)
	}
}
