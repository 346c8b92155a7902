package names_test

import (
	"regexp"
	"strconv"
	"strings"
	"testing"
	"unicode/utf8"

	"spyglass/api"
	"spyglass/names"
	"spyglass/utf"
)

// name tells by other means what a name is.
var name = regexp.MustCompile(`^[a-zA-Z_][a-zA-Z0-9_.-]{0,63}$`)

// ref tells by other means how a reference is written.
var ref = regexp.MustCompile(`^&(?:(amp|lt|gt|quot|apos)|#([0-9]{1,8})|#x([0-9a-fA-F]{1,8}));`)

// inexact is texts that are not of characters alone.
var inexact = []string{
	"\x00", "\x08", "\x0b", "\x0c", "\x1f", "\x80", "\xc3", "\xc1\xa1", "\xc0\xbc", "\xed\xa0\x80", "\xef\xbf\xbe", "\xf4\x90\x80\x80", "\xff",
}

// rows gives all rows of up to n of some parts, as texts.
func rows(n int, parts ...string) func(func(string) bool) {
	return func(yield func(string) bool) {
		var more func(s string, n int) bool
		more = func(s string, n int) bool {
			if !yield(s) {
				return false
			}
			for _, p := range parts {
				if n > 0 && !more(s+p, n-1) {
					return false
				}
			}
			return true
		}
		more("", n)
	}
}

// characters tells whether a text is of characters alone.
func characters(s string) bool {
	_, e := utf.Check([]byte(s))
	return e == api.OK
}

// read tells by other means what Unescape answers.
func read(s string) (string, api.Errno) {
	if !characters(s) {
		return "", api.ErrUTF
	}
	words := map[string]string{"amp": "&", "lt": "<", "gt": ">", "quot": "\"", "apos": "'"}
	out := ""
	for s != "" {
		if s[0] == '<' {
			return "", api.ErrForm
		}
		if s[0] != '&' {
			out, s = out+s[:1], s[1:]
			continue
		}
		m := ref.FindStringSubmatch(s)
		if m == nil {
			return "", api.ErrRef
		}
		n, base := m[2], 10
		if m[3] != "" {
			n, base = m[3], 16
		}
		c := words[m[1]]
		if c == "" {
			v, err := strconv.ParseInt(n, base, 64)
			if err != nil || v > utf8.MaxRune || !utf.Is(rune(v)) {
				return "", api.ErrRef
			}
			c = string(rune(v))
		}
		out, s = out+c, s[len(m[0]):]
	}
	return out, api.OK
}

func TestP2_1_Is(t *testing.T) {
	for _, s := range []string{
		"a", "z", "A", "Z", "_", "__", "_9", "a0", "a9", "a-", "a.", "a-b.c_9", "x--", "A...", "type", "a1b2",
		strings.Repeat("a", 63), strings.Repeat("a", 64), "_" + strings.Repeat("-", 63),
	} {
		if !names.Is(s) {
			t.Errorf("no name: %q", s)
		}
	}
	for _, s := range []string{
		"", " ", "0", "9", "-", ".", "-a", ".a", "9a", "a b", " a", "a ", "a\n", "\na", "a:b", ":", "a/b", "a@", "@a", "[", "`", "{", "a{", "a\x00",
		"\u00e9", "a\u00e9", "\u00e9a", "\u0130", "a\u0130", "\u0161", "a\u0141", "a\u2d2d", "\xe1", "a\xe1", "\xc1\xa1", "a\xff", "\U00010041", "a\ufffd",
		strings.Repeat("a", 65), strings.Repeat("a", 64) + "-", strings.Repeat("a", 1000),
		// what has 64 characters, and more bytes
		strings.Repeat("a", 63) + "\u00e9",
	} {
		if names.Is(s) {
			t.Errorf("a name: %q", s)
		}
	}
}

func TestP2_1_IsOfAllBytes(t *testing.T) {
	for i := range 256 {
		a := string([]byte{byte(i)})
		if names.Is(a) != name.MatchString(a) {
			t.Errorf("%q", a)
		}
		for j := range 256 {
			s := a + string([]byte{byte(j)})
			if names.Is(s) != name.MatchString(s) {
				t.Errorf("%q", s)
			}
		}
		for _, n := range []int{1, 62, 63, 64} {
			for _, s := range []string{a + strings.Repeat("b", n), strings.Repeat("b", n) + a, strings.Repeat("b", n/2) + a + strings.Repeat("b", n-n/2)} {
				if names.Is(s) != name.MatchString(s) {
					t.Errorf("%q", s)
				}
			}
		}
	}
}

func TestP2_1_IsOfAllCharacters(t *testing.T) {
	for r := rune(0); r <= utf8.MaxRune; r++ {
		if names.Is(string(r)) != name.MatchString(string(r)) || names.Is("a"+string(r)) != name.MatchString("a"+string(r)) {
			t.Fatal(r)
		}
	}
}

func TestP2_1_Blank(t *testing.T) {
	for _, s := range []string{"", "\t", "\n", "\r", " ", " \t\r\n", "\n\n", strings.Repeat(" ", 1000)} {
		if !names.Blank(s) {
			t.Errorf("no blanks: %q", s)
		}
	}
	for _, s := range []string{"a", " a", "a ", " a ", "\v", "\f", "\x00", " \x00", "\u00a0", "\u0085", "\u2028", "\u3000", "\u0120", "\u0109", "\u0a20", " \xff", "\x89", "\xa0"} {
		if names.Blank(s) {
			t.Errorf("blanks: %q", s)
		}
	}
	for i := range 256 {
		c := string([]byte{byte(i)})
		want := i == 9 || i == 10 || i == 13 || i == 32
		if names.Blank(c) != want || names.Blank(" "+c) != want || names.Blank(c+"\n") != want {
			t.Errorf("%q", c)
		}
	}
}

func TestP2_2_Escape(t *testing.T) {
	for _, c := range []struct{ s, text, value string }{
		{"", "", ""},
		{"a<b\"", "a&lt;b\"", "a&lt;b&quot;"},
		{"&", "&amp;", "&amp;"},
		{"<", "&lt;", "&lt;"},
		{">", "&gt;", "&gt;"},
		{"\r", "&#13;", "&#13;"},
		{"\"", "\"", "&quot;"},
		{"\t", "\t", "&#9;"},
		{"\n", "\n", "&#10;"},
		{"'", "'", "'"},
		{" ", " ", " "},
		{"plain; #65 text", "plain; #65 text", "plain; #65 text"},
		{"&amp;", "&amp;amp;", "&amp;amp;"},
		{"]]>", "]]&gt;", "]]&gt;"},
		{"\r\n", "&#13;\n", "&#13;&#10;"},
		{"\u00e9<\u20ac>\U0001f600\x7f", "\u00e9&lt;\u20ac&gt;\U0001f600\x7f", "\u00e9&lt;\u20ac&gt;\U0001f600\x7f"},
		// characters whose numbers end as those of marks
		{"\u0126\u013c\u013e\u010d\u0122\u0109\u010a", "\u0126\u013c\u013e\u010d\u0122\u0109\u010a", "\u0126\u013c\u013e\u010d\u0122\u0109\u010a"},
		{"\ufffd", "\ufffd", "\ufffd"},
	} {
		if s, e := names.Escape(c.s, false); s != c.text || e != api.OK {
			t.Errorf("%q: %q, %v", c.s, s, e)
		}
		if s, e := names.Escape(c.s, true); s != c.value || e != api.OK {
			t.Errorf("%q, a value: %q, %v", c.s, s, e)
		}
	}
}

func TestP2_2_EscapeOfAllCharacters(t *testing.T) {
	text := strings.NewReplacer("&", "&amp;", "<", "&lt;", ">", "&gt;", "\r", "&#13;")
	value := strings.NewReplacer("&", "&amp;", "<", "&lt;", ">", "&gt;", "\r", "&#13;", "\"", "&quot;", "\t", "&#9;", "\n", "&#10;")
	for r := rune(0); r <= utf8.MaxRune; r++ {
		if !utf.Is(r) {
			continue
		}
		s, e := names.Escape(string(r), false)
		v, f := names.Escape(string(r), true)
		if s != text.Replace(string(r)) || v != value.Replace(string(r)) || e != api.OK || f != api.OK {
			t.Fatal(r, s, v, e, f)
		}
	}
}

func TestP2_2_ErrUTF(t *testing.T) {
	for _, x := range inexact {
		for _, s := range []string{x, "a" + x, x + "a", "<&" + x, x + "<", "&" + x, "&amp;" + x, "&;<" + x + "\""} {
			for _, value := range []bool{false, true} {
				if out, e := names.Escape(s, value); out != "" || e != api.ErrUTF {
					t.Errorf("%q: %q, %v", s, out, e)
				}
			}
			if out, e := names.Unescape(s); out != "" || e != api.ErrUTF {
				t.Errorf("%q: %q, %v", s, out, e)
			}
		}
	}
}

func TestP2_2_Unescape(t *testing.T) {
	for _, c := range []struct {
		s, out string
		e      api.Errno
	}{
		{"", "", api.OK},
		{"plain", "plain", api.OK},
		{"&#65;&#x42;&apos;", "AB'", api.OK},
		{"&amp;&lt;&gt;&quot;&apos;", "&<>\"'", api.OK},
		{"a&amp;b;c", "a&b;c", api.OK},
		{"a>b\"'\t\n\r;#", "a>b\"'\t\n\r;#", api.OK},
		{"\u00e9&amp;\u20ac&#8364;\U0001f600&#x1F600;&#x1f600;", "\u00e9&\u20ac\u20ac\U0001f600\U0001f600\U0001f600", api.OK},
		// once is all that is read
		{"&amp;lt;", "&lt;", api.OK},
		{"&#38;#60;", "&#60;", api.OK},
		{"&#60;&#x3c;&#x3C;&#38;", "<<<&", api.OK},
		{"&amp;;", "&;", api.OK},
		// digits: from one to eight
		{"&#9;&#xA;&#xd;&#32;", "\t\n\r ", api.OK},
		{"&#00000065;&#x00000041;", "AA", api.OK},
		{"&#000000065;", "", api.ErrRef},
		{"&#x000000041;", "", api.ErrRef},
		{"&#;", "", api.ErrRef},
		{"&#x;", "", api.ErrRef},
		{"&#6a;", "", api.ErrRef},
		{"&#a;", "", api.ErrRef},
		{"&#xg;", "", api.ErrRef},
		{"&#x4G;", "", api.ErrRef},
		{"&#X41;", "", api.ErrRef},
		{"&#0x41;", "", api.ErrRef},
		{"&#x0x41;", "", api.ErrRef},
		{"&#xx41;", "", api.ErrRef},
		{"&x41;", "", api.ErrRef},
		{"&65;", "", api.ErrRef},
		{"&##65;", "", api.ErrRef},
		{"&#+65;", "", api.ErrRef},
		{"&#-65;", "", api.ErrRef},
		{"&#x+41;", "", api.ErrRef},
		{"&#6_5;", "", api.ErrRef},
		{"&#x4_1;", "", api.ErrRef},
		{"&#65.;", "", api.ErrRef},
		{"&#6 5;", "", api.ErrRef},
		{"&# 65;", "", api.ErrRef},
		{"&#65 ;", "", api.ErrRef},
		{"&#\u0666;", "", api.ErrRef},
		// numbers: of characters alone
		{"&#1114111;", "\U0010ffff", api.OK},
		{"&#x10FFFF;", "\U0010ffff", api.OK},
		{"&#1114112;", "", api.ErrRef},
		{"&#x110000;", "", api.ErrRef},
		{"&#0;", "", api.ErrRef},
		{"&#x0;", "", api.ErrRef},
		{"&#00000000;", "", api.ErrRef},
		{"&#8;", "", api.ErrRef},
		{"&#xB;", "", api.ErrRef},
		{"&#31;", "", api.ErrRef},
		{"&#xD7FF;&#xE000;&#xFFFD;&#x10000;", "\ud7ff\ue000\ufffd\U00010000", api.OK},
		{"&#xD800;", "", api.ErrRef},
		{"&#xDFFF;", "", api.ErrRef},
		{"&#xFFFE;", "", api.ErrRef},
		{"&#xffff;", "", api.ErrRef},
		{"&#99999999;", "", api.ErrRef},
		{"&#x7FFFFFFF;", "", api.ErrRef},
		{"&#x80000000;", "", api.ErrRef},
		{"&#x80000041;", "", api.ErrRef},
		{"&#xFFFFFFFF;", "", api.ErrRef},
		{"&#xFFFFFFBF;", "", api.ErrRef},
		// words: of the five alone, as they are
		{"&", "", api.ErrRef},
		{"&;", "", api.ErrRef},
		{"&&amp;", "", api.ErrRef},
		{"&amp", "", api.ErrRef},
		{"&amp&amp;", "", api.ErrRef},
		{"& amp;", "", api.ErrRef},
		{"&amp ;", "", api.ErrRef},
		{"&am;", "", api.ErrRef},
		{"&ampp;", "", api.ErrRef},
		{"&AMP;", "", api.ErrRef},
		{"&Lt;", "", api.ErrRef},
		{"&nbsp;", "", api.ErrRef},
		{"&#amp;", "", api.ErrRef},
		{"a & b", "", api.ErrRef},
		{"a&b;c", "", api.ErrRef},
		{"&#65", "", api.ErrRef},
		{"&amp;&#65", "", api.ErrRef},
		{"a&", "", api.ErrRef},
		// the first of both, from the left
		{"<", "", api.ErrForm},
		{"a<", "", api.ErrForm},
		{"a<&", "", api.ErrForm},
		{"a&<", "", api.ErrRef},
		{"&lt;<&", "", api.ErrForm},
		{"&<;", "", api.ErrRef},
		{"&amp<", "", api.ErrRef},
		{"\u00e9\u20ac<", "", api.ErrForm},
		{"\u00e9\u20ac&", "", api.ErrRef},
		{"<&amp;", "", api.ErrForm},
	} {
		if s, e := names.Unescape(c.s); s != c.out || e != c.e {
			t.Errorf("%q: %q, %v", c.s, s, e)
		}
	}
}

func TestP2_2_UnescapeOfAllNumbers(t *testing.T) {
	for r := rune(0); r < utf8.MaxRune+300; r++ {
		want, wrong := "", api.ErrRef
		if utf.Is(r) {
			want, wrong = string(r), api.OK
		}
		for _, n := range []string{strconv.Itoa(int(r)), "x" + strconv.FormatInt(int64(r), 16)} {
			if s, e := names.Unescape("&#" + n + ";"); s != want || e != wrong {
				t.Fatal(n, s, e)
			}
		}
	}
}

func TestP2_2_UnescapeOfAllRows(t *testing.T) {
	for s := range rows(5, "&", "#", "x", ";", "a", "amp", "lt", "gt", "41", "0", "<", "\u00e9", "\xe9") {
		out, e := names.Unescape(s)
		if want, wrong := read(s); out != want || e != wrong {
			t.Fatalf("%q: %q, %v", s, out, e)
		}
	}
	for s := range rows(4, "&#", "&#x", "&quot;", "&apos", ";", "9", "F", "00000", "X", "_", "-") {
		out, e := names.Unescape(s)
		if want, wrong := read(s); out != want || e != wrong {
			t.Fatalf("%q: %q, %v", s, out, e)
		}
	}
}

func TestP2_3(t *testing.T) {
	check := func(s string) {
		for _, value := range []bool{false, true} {
			out, e := names.Escape(s, value)
			if e != api.OK || strings.Contains(out, "<") || value && strings.ContainsAny(out, "\"\t\n") {
				t.Fatalf("%q: %q, %v", s, out, e)
			}
			if again, e := names.Unescape(out); again != s || e != api.OK {
				t.Fatalf("%q: %q, again %q, %v", s, out, again, e)
			}
		}
	}
	for s := range rows(4, "&", "<", ">", "\"", "'", "\t", "\n", "\r", " ", ";", "#", "amp;", "x41;", "\u00e9") {
		check(s)
	}
	for r := rune(0); r <= utf8.MaxRune; r++ {
		if utf.Is(r) {
			check(string(r))
		}
	}
}

// No limit of a text is one of what is written for characters; and reading takes no more than going through once.
func TestP2_2_Long(t *testing.T) {
	s := strings.Repeat("&\"<\u00e9\t", api.MaxBytes)
	for _, value := range []bool{false, true} {
		out, e := names.Escape(s, value)
		if e != api.OK {
			t.Fatal(e)
		}
		if again, e := names.Unescape(out); again != s || e != api.OK {
			t.Fatal(len(again), e)
		}
	}
	if out, e := names.Unescape(s + ";"); out != "" || e != api.ErrRef {
		t.Fatal(len(out), e)
	}
}
