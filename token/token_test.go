package token_test

import (
	"reflect"
	"regexp"
	"slices"
	"strings"
	"testing"

	"spyglass/api"
	"spyglass/names"
	"spyglass/token"
)

// Tokens, as tests write them.
func decl(text string) token.Token    { return token.Token{Kind: token.Decl, Text: text} }
func closed(name string) token.Token  { return token.Token{Kind: token.Close, Name: name} }
func text(s string) token.Token       { return token.Token{Kind: token.Text, Text: s} }
func comment(text string) token.Token { return token.Token{Kind: token.Comment, Text: text} }

// open is an Open with attributes of names and values, one behind the other.
func open(name string, attrs ...string) token.Token {
	t := token.Token{Kind: token.Open, Name: name}
	for i := 0; i < len(attrs); i += 2 {
		t.Attrs = append(t.Attrs, api.Attr{Name: attrs[i], Value: attrs[i+1]})
	}
	return t
}

func empty(t token.Token) token.Token {
	t.Empty = true
	return t
}

// same tells whether tokens are the same, whatever their lists without elements are.
func same(a, b []token.Token) bool {
	return slices.EqualFunc(a, b, func(x, y token.Token) bool {
		attrs := slices.Equal(x.Attrs, y.Attrs)
		x.Attrs, y.Attrs = nil, nil
		return attrs && reflect.DeepEqual(x, y)
	})
}

// What pieces are, by other means: each expression's groups are what is told of a piece.
var (
	nameText  = `([a-zA-Z_][a-zA-Z0-9_.-]{0,63})`
	attrText  = `[ \t\n]+` + nameText + `[ \t\n]*=[ \t\n]*(?:"([^"<]*)"|'([^'<]*)')`
	attrPiece = regexp.MustCompile(attrText)
	pieces    = []struct {
		kind int
		form *regexp.Regexp
	}{
		{token.Decl, regexp.MustCompile(`^<\?xml version="1\.0"(?: encoding="(UTF-8)")?\?>`)},
		{token.Comment, regexp.MustCompile(`^<!--((?:-?[^-])*)-->`)},
		{token.Text, regexp.MustCompile(`^<!\[CDATA\[((?s:.*?))\]\]>`)},
		{token.Close, regexp.MustCompile(`^</` + nameText + `[ \t\n]*>`)},
		{token.Open, regexp.MustCompile(`^<` + nameText + `((?:` + attrText + `)*)[ \t\n]*(/?)>`)},
		{token.Text, regexp.MustCompile(`^([^<]+)`)},
	}
	ends = regexp.MustCompile(`\r\n?`)
)

// opened is the Open of what an expression found.
func opened(m []string) (token.Token, bool) {
	t := token.Token{Kind: token.Open, Name: m[1], Empty: m[len(m)-1] != ""}
	ok, seen := true, map[string]bool{}
	for _, a := range attrPiece.FindAllStringSubmatch(m[2], -1) {
		value, e := names.Unescape(strings.NewReplacer("\t", " ", "\n", " ").Replace(a[2] + a[3]))
		ok = ok && e == api.OK && !seen[a[1]]
		seen[a[1]] = true
		t.Attrs = append(t.Attrs, api.Attr{Name: a[1], Value: value})
	}
	return t, ok
}

// read tells by other means what All answers of characters within bounds.
func read(s string) ([]token.Token, int, api.Errno) {
	s = ends.ReplaceAllString(s, "\n")
	var out []token.Token
next:
	for at := 0; at < len(s); {
		for i, p := range pieces {
			m := p.form.FindStringSubmatch(s[at:])
			if m == nil || p.kind == token.Decl && at > 0 {
				continue
			}
			t, ok := token.Token{Kind: p.kind}, true
			switch {
			case p.kind == token.Open:
				t, ok = opened(m)
			case p.kind == token.Close:
				t.Name = m[1]
			case i == len(pieces)-1:
				var e api.Errno
				t.Text, e = names.Unescape(m[1])
				ok = e == api.OK && !strings.Contains(m[1], "]]>")
			default:
				t.Text = m[1]
			}
			if !ok {
				return nil, at, api.ErrForm
			}
			out = append(out, t)
			at += len(m[0])
			continue next
		}
		return nil, at, api.ErrForm
	}
	return out, 0, api.OK
}

// rows gives all rows of up to n of some parts, as texts, with something ahead.
func rows(ahead string, n int, parts ...string) func(func(string) bool) {
	return func(yield func(string) bool) {
		level := []string{ahead}
		for range n {
			var next []string
			for _, s := range level {
				for _, p := range parts {
					if !yield(s + p) {
						return
					}
					next = append(next, s+p)
				}
			}
			level = next
		}
	}
}

// hold holds All of a text against what is read by other means.
func hold(t *testing.T, s string) {
	t.Helper()
	l, at, e := token.All([]byte(s))
	if want, place, wrong := read(s); !same(l, want) || at != place || e != wrong {
		t.Fatalf("%q: %v, %d, %v; asked for %v, %d, %v", s, l, at, e, want, place, wrong)
	}
}

// pair is a document, and its pieces.
type pair struct {
	s    string
	want []token.Token
}

func holdPairs(t *testing.T, l []pair) {
	t.Helper()
	for _, c := range l {
		if got, at, e := token.All([]byte(c.s)); !same(got, c.want) || at != 0 || e != api.OK {
			t.Errorf("%q: %v, %d, %v", c.s, got, at, e)
		}
		hold(t, c.s)
	}
}

func TestP3_1_Kinds(t *testing.T) {
	for i, k := range []int{token.Decl, token.Open, token.Close, token.Text, token.Comment} {
		if k != i+1 {
			t.Error(i, k)
		}
	}
}

func TestP3_1_Pieces(t *testing.T) {
	holdPairs(t, []pair{
		{"", nil},
		{"<a b='1'>x&amp;y</a>", []token.Token{open("a", "b", "1"), text("x&y"), closed("a")}},
		// a Decl
		{`<?xml version="1.0"?>`, []token.Token{decl("")}},
		{`<?xml version="1.0" encoding="UTF-8"?>`, []token.Token{decl("UTF-8")}},
		{`<?xml version="1.0"?><a/>`, []token.Token{decl(""), empty(open("a"))}},
		{"<?xml version=\"1.0\"?>\n\n<a/>", []token.Token{decl(""), text("\n\n"), empty(open("a"))}},
		// Comments
		{"<!---->", []token.Token{comment("")}},
		{"<!--a-->", []token.Token{comment("a")}},
		{"<!---a-->", []token.Token{comment("-a")}},
		{"<!-- - > -> a-b- -->", []token.Token{comment(" - > -> a-b- ")}},
		{"<!--<a b='&'>]]><![CDATA[&lt;-->", []token.Token{comment("<a b='&'>]]><![CDATA[&lt;")}},
		{"<!--\u00e9\n\t-->-->", []token.Token{comment("\u00e9\n\t"), text("-->")}},
		// Texts between marks
		{"<![CDATA[]]>", []token.Token{text("")}},
		{"<![CDATA[a]]>", []token.Token{text("a")}},
		{"<![CDATA[]]]]>", []token.Token{text("]]")}},
		{"<![CDATA[]>]]>", []token.Token{text("]>")}},
		{"<![CDATA[<a>&lt;&<!--\"\t]]>", []token.Token{text("<a>&lt;&<!--\"\t")}},
		{"<![CDATA[<![CDATA[]]>]]&gt;", []token.Token{text("<![CDATA["), text("]]>")}},
		{"<![CDATA[a]]><![CDATA[b]]>c", []token.Token{text("a"), text("b"), text("c")}},
		// Closes
		{"</a>", []token.Token{closed("a")}},
		{"</a-b.c_9 \t\n >", []token.Token{closed("a-b.c_9")}},
		{"</a></b>", []token.Token{closed("a"), closed("b")}},
		// Texts
		{"a", []token.Token{text("a")}},
		{" \t\n", []token.Token{text(" \t\n")}},
		{"&lt;&#65;&#13;&#x9;", []token.Token{text("<A\r\t")}},
		{"]]&gt;]] >]]&#62;&#93;]>", []token.Token{text("]]>]] >]]>]]>")}},
		{"a>b\"c'/>?>", []token.Token{text("a>b\"c'/>?>")}},
		{"]]<!---->>", []token.Token{text("]]"), comment(""), text(">")}},
	})
}

func TestP3_1_Opens(t *testing.T) {
	holdPairs(t, []pair{
		{"<a>", []token.Token{open("a")}},
		{"<a/>", []token.Token{empty(open("a"))}},
		{"<a />", []token.Token{empty(open("a"))}},
		{"<a \n\t>", []token.Token{open("a")}},
		{"<_-.9/>", []token.Token{empty(open("_-.9"))}},
		{"<xml><a>", []token.Token{open("xml"), open("a")}},
		{"<a b='1'>", []token.Token{open("a", "b", "1")}},
		{"<a b=\"1\"/>", []token.Token{empty(open("a", "b", "1"))}},
		{"<a b='1' />", []token.Token{empty(open("a", "b", "1"))}},
		{"<a\tb='1'\n\n c=\"2\">", []token.Token{open("a", "b", "1", "c", "2")}},
		{"<a b \t=\n '1'>", []token.Token{open("a", "b", "1")}},
		{"<a b=''>", []token.Token{open("a", "b", "")}},
		{"<a b=\"\" c=''>", []token.Token{open("a", "b", "", "c", "")}},
		{"<a c='1' b='2'>", []token.Token{open("a", "c", "1", "b", "2")}},
		{"<a b='1' B='2' bb='3'>", []token.Token{open("a", "b", "1", "B", "2", "bb", "3")}},
		{"<a a='a'>", []token.Token{open("a", "a", "a")}},
		{"<a b='\"' c=\"'\">", []token.Token{open("a", "b", "\"", "c", "'")}},
		{"<a b='>/>]]>--'>", []token.Token{open("a", "b", ">/>]]>--")}},
		{"<a b='&quot;&apos;&lt;&amp;lt;'>", []token.Token{open("a", "b", "\"'<&lt;")}},
		// bytes turn, and what references stand for does not
		{"<a b='\t\n x'>", []token.Token{open("a", "b", "   x")}},
		{"<a b='&#9;&#10;&#13;&#x20;'>", []token.Token{open("a", "b", "\t\n\r ")}},
		{"<a b='\t&#9;'>\t&#9;", []token.Token{open("a", "b", " \t"), text("\t\t")}},
		{"<a b='\u00e9\U0001f600'>\u00e9\U0001f600", []token.Token{open("a", "b", "\u00e9\U0001f600"), text("\u00e9\U0001f600")}},
	})
}

func TestP3_1_Lines(t *testing.T) {
	holdPairs(t, []pair{
		{"\r", []token.Token{text("\n")}},
		{"\r\n", []token.Token{text("\n")}},
		{"\r\r\n\n\r", []token.Token{text("\n\n\n\n")}},
		{"a\rb\r\nc\n\rd", []token.Token{text("a\nb\nc\n\nd")}},
		{"&#13;\n&#13;&#10;\r", []token.Token{text("\r\n\r\n\n")}},
		{"<a\rb\r\n='\r\n\r'\r\n/>", []token.Token{empty(open("a", "b", "  "))}},
		{"</a\r\n\r>", []token.Token{closed("a")}},
		{"<!--\r\n\r-->", []token.Token{comment("\n\n")}},
		{"<![CDATA[\r\n\r&#13;]]>", []token.Token{text("\n\n&#13;")}},
	})
	// places are counted behind it, but where a byte is no character's
	for _, c := range []struct {
		s  string
		at int
		e  api.Errno
	}{
		{"<a/>\r\n<", 5, api.ErrForm},
		{"<a/>\r<", 5, api.ErrForm},
		{"\r\n\r\n</a>\r\r\n<b", 8, api.ErrForm},
		{"<a\r\n/>\r\n\r\n<b>&\r\n", 10, api.ErrForm},
		{"\r\n\r\n\xff", 4, api.ErrUTF},
		{"<a\r\nb='\r\n'>\r\n<\r\n\x00", 16, api.ErrUTF},
	} {
		if l, at, e := token.All([]byte(c.s)); len(l) != 0 || at != c.at || e != c.e {
			t.Errorf("%q: %v, %d, %v", c.s, l, at, e)
		}
	}
}

// wrongPieces is what no piece begins with.
var wrongPieces = []string{
	"<", "<>", "< a>", "<1a>", "<-a/>", "<a", "<a ", "<a/", "<a/ >", "<a / >", "<a/b>", "<a:b>", "<a&lt;>", "<\u00e9>", "<a\u00e9>", "<&#97;>",
	"<a b>", "<a b=>", "<a b=1>", "<a b=c>", "<a b='1>", "<a b=\"1'>", "<a b='1\">", "<a='1'>", "<a 'b'='1'>", "<a b'1'>", "<a b=='1'>", "<a b= >", "<a b='1'c='2'>", "<a b='1'/c='2'>", "<a b='1'' >",
	"<a b='1' b='2'>", "<a b='1' b='1'/>", "<a b='1' c='2' d='' b='3'>", "<a b='<'>", "<a b='1<'>", "<a b='&'>", "<a b='&<'>", "<a b='&amp'>", "<a b='&nbsp;'>", "<a b='&#0;'>", "<a b='1' c>", "<a b='1' 9='2'>", "<a /b='1'>", "<a b\u00e9='1'>", "<a,b='1'>", "<a b='1' =>",
	"</", "</>", "</ a>", "</a", "</a ", "</a b>", "</a/>", "</a b='1'>", "</1>", "</a<", "</a:b>", "<//a>", "</\u00e9>",
	"<!", "<!-", "<!--", "<!->", "<!-->", "<!--->", "<!---", "<!--a", "<!--a-", "<!--a--", "<!--a->", "<!--a--->", "<!----->", "<!--a-- -->", "<!--a--b-->", "<!--a--\n>", "<! ---->", "<!- --->",
	"<![CDATA[", "<![CDATA[a", "<![CDATA[a]", "<![CDATA[a]]", "<![CDATA[a]] >", "<![CDATA[a]>", "<![CDATA a]]>", "<![CDATA[", "<![cdata[a]]>", "<! [CDATA[a]]>", "<![CDATA [a]]>", "<!DOCTYPE a>", "<!a>",
	"<?a?>", "<?", "<?xm?>", "<?XML version=\"1.0\"?>",
	"]]>", "a]]>", "]]]>", "a]]>b<c>", "&", "a&b;", "&amp", "&#0;", "&#;", "&#x110000;", "a & b", "&<a>", "&\u00e9;", "&lt",
}

func TestP3_1_Wrong(t *testing.T) {
	for _, s := range wrongPieces {
		for _, ahead := range []string{"", "<a b='1'>", "<!-- - -->", "</a>", "<?xml version=\"1.0\"?>", "x<![CDATA[]]]>", "\u00e9\t<a/>"} {
			if l, at, e := token.All([]byte(ahead + s)); len(l) != 0 || at != len(ahead) || e != api.ErrForm {
				t.Errorf("%q: %v, %d, %v", ahead+s, l, at, e)
			}
		}
		// the first one counts
		for _, behind := range []string{"</", "<a b='1' b='1'>"} {
			if l, at, e := token.All([]byte("x" + behind + s)); len(l) != 0 || at != 1 || e != api.ErrForm {
				t.Errorf("%q: %v, %d, %v", "x"+behind+s, l, at, e)
			}
		}
	}
}

func TestP3_1_WrongDecl(t *testing.T) {
	for _, s := range []string{
		`<?xml`, `<?xml?>`, `<?xml ?>`, `<?xml version="1.0">`, `<?xml version="1.0"/>`, `<?xml version="1.0"?`, `<?xml version="1.0" ?>`, `<?xml  version="1.0"?>`, `<?xml version='1.0'?>`, `<?xml version="1.1"?>`, `<?xml version="1.0"encoding="UTF-8"?>`, `<?xml version="1.0" encoding="utf-8"?>`, `<?xml version="1.0" encoding='UTF-8'?>`, `<?xml version="1.0" encoding="UTF-8" ?>`, `<?xml version="1.0" encoding="UTF-16"?>`, `<?xml encoding="UTF-8"?>`, `<?xml version="1.0" standalone="yes"?>`, `<?xmla version="1.0"?>`, `<?xml/>`, "<?xml\nversion=\"1.0\"?>",
	} {
		if l, at, e := token.All([]byte(s)); len(l) != 0 || at != 0 || e != api.ErrForm {
			t.Errorf("%q: %v, %d, %v", s, l, at, e)
		}
		hold(t, s)
	}
	// it is one at the place 0 alone
	for _, s := range []string{`<?xml version="1.0"?>`, `<?xml version="1.0" encoding="UTF-8"?>`} {
		for _, ahead := range []string{" ", "\n", "<!---->", "<a/>", s} {
			if l, at, e := token.All([]byte(ahead + s)); len(l) != 0 || at != len(ahead) || e != api.ErrForm {
				t.Errorf("%q: %v, %d, %v", ahead+s, l, at, e)
			}
		}
	}
}

func TestP3_1_Names(t *testing.T) {
	for n, want := range map[int]api.Errno{1: api.OK, 63: api.OK, 64: api.OK, 65: api.ErrForm, 128: api.ErrForm, 60000: api.ErrForm} {
		name := strings.Repeat("n", n)
		for _, s := range []string{"<" + name + ">", "<" + name + " b=''/>", "</" + name + ">", "<a " + name + "='1'>", "<a b='1' " + name + " ='1'/>"} {
			l, at, e := token.All([]byte(s))
			if at != 0 || e != want || (len(l) == 1) != (want == api.OK) {
				t.Errorf("%q: %d, %v", s, at, e)
			}
		}
	}
}

func TestP3_1_UTF(t *testing.T) {
	for _, c := range []struct {
		s  string
		at int
	}{
		{"\xff", 0}, {"a<\xff", 2}, {"<a>\x00", 3}, {"<a b='\xc3'>", 6}, {"<!--\xed\xa0\x80-->", 4}, {"<![CDATA[\xef\xbf\xbf]]>", 9}, {"</a\v>", 3},
		// ahead of each other error, wherever that is
		{"<<<&]]>\xff", 7}, {"<a b='1' b='1'>\u00e9\x80\xff", 17},
	} {
		if l, at, e := token.All([]byte(c.s)); len(l) != 0 || at != c.at || e != api.ErrUTF {
			t.Errorf("%q: %v, %d, %v", c.s, l, at, e)
		}
	}
}

func TestP3_1_Bound(t *testing.T) {
	for _, c := range []struct {
		s    string
		at   int
		e    api.Errno
		many int
	}{
		{strings.Repeat("a", api.MaxBytes), 0, api.OK, 1},
		{strings.Repeat("a", api.MaxBytes+1), 0, api.ErrBound, 0},
		{strings.Repeat("<a/>", api.MaxBytes/4), 0, api.OK, api.MaxBytes / 4},
		{strings.Repeat("<a/>", api.MaxBytes/4) + "\n", 0, api.ErrBound, 0},
		// bytes are counted, as they are: not characters, nor lines
		{strings.Repeat("\u00e9", api.MaxBytes/2), 0, api.OK, 1},
		{strings.Repeat("\u00e9", api.MaxBytes/2) + "a", 0, api.ErrBound, 0},
		{strings.Repeat("\r\n", api.MaxBytes/2), 0, api.OK, 1},
		{strings.Repeat("\r\n", api.MaxBytes/2+1), 0, api.ErrBound, 0},
		// ahead of each other error
		{strings.Repeat("a", api.MaxBytes) + "\xff", 0, api.ErrBound, 0},
		{strings.Repeat("a", api.MaxBytes) + "<", 0, api.ErrBound, 0},
		{strings.Repeat("a", api.MaxBytes-1) + "\xff", api.MaxBytes - 1, api.ErrUTF, 0},
		{strings.Repeat("a", api.MaxBytes-1) + "<", api.MaxBytes - 1, api.ErrForm, 0},
	} {
		if l, at, e := token.All([]byte(c.s)); len(l) != c.many || at != c.at || e != c.e {
			t.Errorf("%d bytes: %d pieces, %d, %v", len(c.s), len(l), at, e)
		}
	}
}

// The longest documents of some kinds: what is asked of each piece is not asked of all of them.
func TestP3_1_Long(t *testing.T) {
	fill := func(s string) string { return strings.Repeat(s, (api.MaxBytes-100)/len(s)) }
	attrs := ""
	for i := range 4000 {
		attrs += " a" + strings.Repeat("-", i%4) + "." + string([]byte{byte('a' + i%26), byte('a' + i/26%26), byte('a' + i/676)}) + "=''"
	}
	for _, s := range []string{
		fill("&amp;"), fill("&"), fill("<!--"), fill("<![CDATA["), fill("<"), fill("]]"), fill("<a "), "<a" + fill(" "), "<a" + fill(" ") + "/>", "<a b='" + fill("<"), "<a b='" + fill("&lt;") + "'/>", "<!--" + fill("-"), "<!--" + fill("- ") + "-->",
		"<a" + attrs + ">", "<a" + attrs + " " + strings.Fields(attrs)[0] + ">",
	} {
		hold(t, s)
	}
}

func TestP3_1_AllRows(t *testing.T) {
	for s := range rows("", 5, "<", ">", "/", "!--", "-", "a", " ", "='", "'", "&lt;") {
		hold(t, s)
	}
	for s := range rows("", 4, "<![CDATA[", "]]>", "]", ">", "&", "\r", "\n", "<a", "<!--", "--", "-->", "</", "\u00e9") {
		hold(t, s)
	}
	for s := range rows("<a", 5, " ", "\t\r", "b", "c.", "=", "'", "\"", "/", ">", "&#9;", "<") {
		hold(t, s)
	}
	for s := range rows("<a b='1'", 4, " b='2'", " c='3'", "\nd", " = ", "''", "\"'\"", "/>", ">", "</a", " ") {
		hold(t, s)
	}
	for s := range rows("<?xml", 5, " version=\"1.0\"", " ", " encoding=\"UTF-8\"", "?>", "?", ">", "<?xml", "<a/>") {
		hold(t, s)
	}
}

// What is handed in stays as it is, and what is answered stays, whatever becomes of that.
func TestP3_1_Memory(t *testing.T) {
	s := "<a b='1' c='2'>x&amp;y\r\n<!--z--><a b='1' c='2'></a>"
	b := []byte(s + "<!!")
	l, _, e := token.All(b[:len(s)])
	if e != api.OK || string(b) != s+"<!!" {
		t.Fatalf("%q, %v", b, e)
	}
	clear(b)
	_ = append(l[0].Attrs, api.Attr{Name: "q"})
	l[0].Attrs[0].Value = "other"
	want := []token.Token{open("a", "b", "other", "c", "2"), text("x&y\n"), comment("z"), open("a", "b", "1", "c", "2"), closed("a")}
	if !same(l, want) {
		t.Error(l)
	}
}
