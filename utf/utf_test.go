package utf_test

import (
	"bytes"
	"iter"
	"math"
	"slices"
	"testing"
	"unicode/utf8"

	"spyglass/api"
	"spyglass/utf"
)

// edges is the first and the last character of each range, and those at which the number of bytes turns.
var edges = []rune{
	9, 10, 13, 32, 55295, 57344, 65533, 65536, 1114111,
	127, 128, 2047, 2048,
}

// strangers is numbers just outside the ranges, and far off.
var strangers = []rune{
	8, 11, 12, 14, 31, 55296, 57343, 65534, 65535, 1114112,
	0, -1, 0xdc00, 0x1fffff, 0x200000, math.MinInt32, math.MaxInt32,
}

// part is what an iterator tells at once.
type part struct {
	at int
	r  rune
}

func parts(l iter.Seq2[int, rune]) []part {
	var out []part
	for at, r := range l {
		out = append(out, part{at, r})
	}
	return out
}

// known tells by other means whether a number is a character.
func known(r rune) bool {
	if r < 32 {
		return r == '\t' || r == '\n' || r == '\r'
	}
	return utf8.ValidRune(r) && r != 0xfffe && r != 0xffff
}

// first tells by other means what stands at the beginning of bytes.
func first(b []byte) (rune, int) {
	r, n := utf8.DecodeRune(b)
	if r == utf8.RuneError && n <= 1 || !known(r) {
		return 0, 0
	}
	return r, n
}

// characters tells all characters, by other means.
func characters(yield func(rune) bool) {
	for r := rune(0); r <= utf8.MaxRune; r++ {
		if known(r) && !yield(r) {
			return
		}
	}
}

// rowsOfBytes gives rows of up to four bytes, out of those at which something turns.
func rowsOfBytes(yield func([]byte) bool) {
	kinds := []byte{0, 9, 11, 'a', 127, 128, 143, 144, 159, 160, 189, 190, 191, 192, 193, 194, 223, 224, 237, 239, 240, 244, 245, 248, 255}
	var more func(b []byte) bool
	more = func(b []byte) bool {
		if !yield(b) {
			return false
		}
		if len(b) == 4 {
			return true
		}
		for _, c := range kinds {
			if !more(append(slices.Clip(b), c)) {
				return false
			}
		}
		return true
	}
	more(nil)
}

func TestP1_1_Is(t *testing.T) {
	for _, r := range edges {
		if !utf.Is(r) {
			t.Error("no character:", r)
		}
	}
	for _, r := range strangers {
		if utf.Is(r) {
			t.Error("a character:", r)
		}
	}
	for r := rune(-300); r < utf8.MaxRune+300; r++ {
		if utf.Is(r) != known(r) {
			t.Fatal(r, utf.Is(r))
		}
	}
}

func TestP1_1_Decode(t *testing.T) {
	for _, c := range []struct {
		s  string
		at int
		r  rune
		n  int
		e  api.Errno
	}{
		{"a", 0, 'a', 1, api.OK},
		{"\xc3\xa9", 0, 233, 2, api.OK},
		{"a\u00e9\u20ac\U0001f600", 1, 233, 2, api.OK},
		{"a\u00e9\u20ac\U0001f600", 3, 0x20ac, 3, api.OK},
		{"a\u00e9\u20ac\U0001f600", 6, 0x1f600, 4, api.OK},
		// what stands behind is not asked
		{"a\xff", 0, 'a', 1, api.OK},
		{"\xff\xc2\x80\x80", 1, 128, 2, api.OK},
		// places that are none
		{"", 0, 0, 0, api.ErrArg},
		{"a", 1, 0, 0, api.ErrArg},
		{"a", -1, 0, 0, api.ErrArg},
		{"\xff", 1, 0, 0, api.ErrArg},
		{"a", math.MaxInt, 0, 0, api.ErrArg},
		{"a", math.MinInt, 0, 0, api.ErrArg},
		// bytes within a character, and none's
		{"a\u00e9", 2, 0, 0, api.ErrUTF},
		{"\x80", 0, 0, 0, api.ErrUTF},
		{"\xbf", 0, 0, 0, api.ErrUTF},
		{"\xf8\x88\x80\x80\x80", 0, 0, 0, api.ErrUTF},
		{"\xfe", 0, 0, 0, api.ErrUTF},
		{"\xff", 0, 0, 0, api.ErrUTF},
		// cut off, by the end or by another byte
		{"\xc3", 0, 0, 0, api.ErrUTF},
		{"\xe2\x82", 0, 0, 0, api.ErrUTF},
		{"\xf0\x9f\x98", 0, 0, 0, api.ErrUTF},
		{"\xc3a", 0, 0, 0, api.ErrUTF},
		{"\xc3\xc3", 0, 0, 0, api.ErrUTF},
		{"\xe2\x82a", 0, 0, 0, api.ErrUTF},
		{"\xe2a\x82", 0, 0, 0, api.ErrUTF},
		{"\xf0\x9f\x98a", 0, 0, 0, api.ErrUTF},
		{"\xf0\x9f\xc3\x98", 0, 0, 0, api.ErrUTF},
		// too many for their number
		{"\xc0\x80", 0, 0, 0, api.ErrUTF},
		{"\xc1\xbf", 0, 0, 0, api.ErrUTF},
		{"\xc1\xa1", 0, 0, 0, api.ErrUTF},
		{"\xe0\x80\x89", 0, 0, 0, api.ErrUTF},
		{"\xe0\x9f\xbf", 0, 0, 0, api.ErrUTF},
		{"\xf0\x80\x80\x89", 0, 0, 0, api.ErrUTF},
		{"\xf0\x8f\xbf\xbd", 0, 0, 0, api.ErrUTF},
	} {
		r, n, e := utf.Decode([]byte(c.s), c.at)
		if r != c.r || n != c.n || e != c.e {
			t.Errorf("%q at %d: %d, %d bytes, %v", c.s, c.at, r, n, e)
		}
	}
	if _, _, e := utf.Decode(nil, 0); e != api.ErrArg {
		t.Error(e)
	}
}

// The bytes of numbers just outside the ranges, as characters would have them.
func TestP1_1_DecodeStrangers(t *testing.T) {
	for _, s := range []string{
		"\x00", "\x08", "\x0b", "\x0c", "\x0e", "\x1f",
		"\xed\xa0\x80", "\xed\xbf\xbf", "\xef\xbf\xbe", "\xef\xbf\xbf", "\xf4\x90\x80\x80", "\xf7\xbf\xbf\xbf",
	} {
		if r, n, e := utf.Decode([]byte(s), 0); r != 0 || n != 0 || e != api.ErrUTF {
			t.Errorf("%q: %d, %d bytes, %v", s, r, n, e)
		}
	}
}

func TestP1_1_DecodeAllRows(t *testing.T) {
	for b := range rowsOfBytes {
		if len(b) == 0 {
			continue
		}
		r, n := first(b)
		r1, n1, e := utf.Decode(b, 0)
		if r1 != r || n1 != n || (e == api.OK) != (n > 0) || e != api.OK && e != api.ErrUTF {
			t.Fatalf("%x: %d, %d bytes, %v", b, r1, n1, e)
		}
	}
}

func TestP1_1_Encode(t *testing.T) {
	for _, c := range []struct {
		l []rune
		s string
	}{
		{nil, ""},
		{[]rune{}, ""},
		{[]rune{233}, "\xc3\xa9"},
		{[]rune{9, 10, 13, 32}, "\t\n\r "},
		{[]rune{127, 128}, "\x7f\xc2\x80"},
		{[]rune{2047, 2048}, "\xdf\xbf\xe0\xa0\x80"},
		{[]rune{55295, 57344}, "\xed\x9f\xbf\xee\x80\x80"},
		{[]rune{65533, 65536}, "\xef\xbf\xbd\xf0\x90\x80\x80"},
		{[]rune{1114111}, "\xf4\x8f\xbf\xbf"},
		{[]rune{'b', 233, 0x20ac, 0x1f600, 'b'}, "b\u00e9\u20ac\U0001f600b"},
	} {
		b, e := utf.Encode(c.l...)
		if string(b) != c.s || e != api.OK {
			t.Errorf("%v: %x, %v", c.l, b, e)
		}
	}
	for _, r := range strangers {
		for _, l := range [][]rune{{r}, {r, 'a'}, {'a', r}, {'a', r, 'a'}, {r, r}} {
			if b, e := utf.Encode(l...); len(b) != 0 || e != api.ErrUTF {
				t.Errorf("%v: %x, %v", l, b, e)
			}
		}
	}
	for r := range characters {
		b, e := utf.Encode(r)
		if string(b) != string(r) || e != api.OK {
			t.Fatalf("%d: %x, %v", r, b, e)
		}
	}
}

func TestP1_2_Check(t *testing.T) {
	for _, c := range []struct {
		s  string
		at int
		e  api.Errno
	}{
		{"", 0, api.OK},
		{"a", 1, api.OK},
		{"\xc0\x80", 0, api.ErrUTF},
		{"a\u00e9\u20ac\U0001f600\n", 11, api.OK},
		{"a\u00e9\xc3", 3, api.ErrUTF},
		{"a\u00e9\xc3b", 3, api.ErrUTF},
		{"\u20ac\xe2\x82", 3, api.ErrUTF},
		{"\U0001f600\xf0\x9f\x98", 4, api.ErrUTF},
		{"ab\x00", 2, api.ErrUTF},
		{"\x80a", 0, api.ErrUTF},
		{"a\xff\xff", 1, api.ErrUTF},
		{"abc\xed\xa0\x80", 3, api.ErrUTF},
		{"abc\xef\xbf\xbf", 3, api.ErrUTF},
	} {
		if at, e := utf.Check([]byte(c.s)); at != c.at || e != c.e {
			t.Errorf("%q: %d, %v", c.s, at, e)
		}
	}
	if at, e := utf.Check(nil); at != 0 || e != api.OK {
		t.Error(at, e)
	}
	// no limit of a text is one of its bytes
	long := bytes.Repeat([]byte("\u20ac"), api.MaxBytes)
	if at, e := utf.Check(long); at != len(long) || e != api.OK {
		t.Error(at, e)
	}
	if at, e := utf.Check(append(long, 0xe2)); at != len(long) || e != api.ErrUTF {
		t.Error(at, e)
	}
}

func TestP1_2_All(t *testing.T) {
	for _, c := range []struct {
		s string
		l []part
	}{
		{"", nil},
		{"a", []part{{0, 'a'}}},
		{"a\u00e9\u20ac\U0001f600\n", []part{{0, 'a'}, {1, 233}, {3, 0x20ac}, {6, 0x1f600}, {10, '\n'}}},
		{"a\u00e9\xc3b", []part{{0, 'a'}, {1, 233}}},
		{"\x00a", nil},
		{"a\xed\xa0\x80a", []part{{0, 'a'}}},
	} {
		all := utf.All([]byte(c.s))
		for range 2 {
			if l := parts(all); !slices.Equal(l, c.l) {
				t.Errorf("%q: %v", c.s, l)
			}
		}
	}
	if all := utf.All(nil); all == nil || parts(all) != nil {
		t.Error("something of nothing")
	}
}

// What is written into the bytes behind asking is not seen.
func TestP1_2_AllAsTheyWere(t *testing.T) {
	b := []byte("a\u00e9b")
	all := utf.All(b)
	want := []part{{0, 'a'}, {1, 233}, {3, 'b'}}
	copy(b, "\xffxyz")
	if l := parts(all); !slices.Equal(l, want) {
		t.Error(l)
	}
	copy(b, "a\u00e9b")
	var l []part
	for at, r := range utf.All(b) {
		l = append(l, part{at, r})
		copy(b, "\xff\xff\xff\xff")
	}
	if !slices.Equal(l, want) {
		t.Error(l)
	}
}

func TestP1_2_AllLeft(t *testing.T) {
	all := utf.All([]byte("abc"))
	for want := range 4 {
		var l []part
		for at, r := range all {
			if len(l) == want {
				break
			}
			l = append(l, part{at, r})
		}
		if len(l) != want {
			t.Error(want, l)
		}
	}
}

func TestP1_3_NoBeginning(t *testing.T) {
	for r := range characters {
		b, _ := utf.Encode(r)
		for n := 1; n < len(b); n++ {
			if _, _, e := utf.Decode(b[:n], 0); e != api.ErrUTF {
				t.Fatalf("%x is a beginning of %x", b[:n], b)
			}
			if _, _, e := utf.Decode(b, n); e != api.ErrUTF {
				t.Fatalf("%x is an end of %x", b[n:], b)
			}
		}
		for _, c := range []byte{0, 'a', 128, 191, 195, 255} {
			if r1, n, e := utf.Decode(append(slices.Clip(b), c), 0); r1 != r || n != len(b) || e != api.OK {
				t.Fatalf("%x with %x behind: %d, %d bytes, %v", b, c, r1, n, e)
			}
		}
	}
}

func TestP1_3_Decoded(t *testing.T) {
	l := slices.Collect(characters)
	b, e := utf.Encode(l...)
	if e != api.OK {
		t.Fatal(e)
	}
	if at, e := utf.Check(b); at != len(b) || e != api.OK {
		t.Fatal(at, e)
	}
	at := 0
	for place, r := range utf.All(b) {
		if place != at || r != l[0] {
			t.Fatal(place, at, r, l[0])
		}
		r1, n, e := utf.Decode(b, at)
		if r1 != r || e != api.OK {
			t.Fatal(at, r1, n, e)
		}
		at, l = at+n, l[1:]
	}
	if len(l) > 0 || at != len(b) {
		t.Fatal(at, len(l))
	}
}

func TestP1_3_Accepted(t *testing.T) {
	for b := range rowsOfBytes {
		end, e := utf.Check(b)
		var l []rune
		for _, p := range parts(utf.All(b)) {
			l = append(l, p.r)
		}
		again, bad := utf.Encode(l...)
		if bad != api.OK || !bytes.Equal(again, b[:end]) || (e == api.OK) != (end == len(b)) {
			t.Fatalf("%x: %d, %v; again %x, %v", b, end, e, again, bad)
		}
	}
}

// R2: what is handed in stays, and what stands behind its length is not seen.
func TestR2(t *testing.T) {
	whole := []byte("a\u20acb")
	b := slices.Clone(whole)
	if _, _, e := utf.Decode(b[:3], 1); e != api.ErrUTF {
		t.Error(e)
	}
	if at, e := utf.Check(b[:3]); at != 1 || e != api.ErrUTF {
		t.Error(at, e)
	}
	if l := parts(utf.All(b[:3])); !slices.Equal(l, []part{{0, 'a'}}) {
		t.Error(l)
	}
	l := []rune{'a', 0x20ac, 'b'}
	if _, e := utf.Encode(l[:2]...); e != api.OK {
		t.Error(e)
	}
	if !bytes.Equal(b, whole) || !slices.Equal(l, []rune{'a', 0x20ac, 'b'}) {
		t.Error(b, l)
	}
	x, _ := utf.Encode(l...)
	clear(x)
	if y, _ := utf.Encode(l...); !bytes.Equal(y, whole) {
		t.Error(y)
	}
}
