// Package utf is layer 1: see shared/doc/01-utf.md. It turns characters into bytes, and bytes into characters.
package utf

import (
	"bytes"
	"iter"

	"spyglass/api"
)

// span is characters from first to last.
type span struct{ first, last rune }

// spans is all numbers that are characters.
var spans = [...]span{{9, 10}, {13, 13}, {32, 55295}, {57344, 65533}, {65536, 1114111}}

// row is the characters of one number of bytes: all below a number that the row ahead has not, and what their first byte may be.
type row struct {
	below       rune
	first, last byte
}

// rows stand by how many bytes a character has: one, two, three, four.
var rows = [...]row{{1 << 7, 0, 127}, {1 << 11, 192, 223}, {1 << 16, 224, 239}, {1 << 21, 240, 247}}

// What each byte behind the first one is made of: a mark, and bits of the number.
const (
	mark = 128
	bits = 6
	mask = 1<<bits - 1
)

// Is tells whether a number is a character.
func Is(r rune) bool {
	within := func(s span) bool { return s.first <= r && r <= s.last }
	for _, s := range spans {
		if within(s) {
			return true
		}
	}
	return false
}

// Decode is the character that stands at a place, and how many bytes it has.
func Decode(b []byte, at int) (rune, int, api.Errno) {
	if at < 0 || at >= len(b) {
		return 0, 0, api.ErrArg
	}
	r, n := begin(b[at])
	if n == 0 || n > len(b)-at {
		return 0, 0, api.ErrUTF
	}
	for _, c := range b[at+1 : at+n] {
		if c&^mask != mark {
			return 0, 0, api.ErrUTF
		}
		r = r<<bits | rune(c&mask)
	}
	// More bytes than the number needs are not its bytes.
	if !Is(r) || size(r) != n {
		return 0, 0, api.ErrUTF
	}
	return r, n, api.OK
}

// Encode is characters as bytes, one behind the other.
func Encode(l ...rune) ([]byte, api.Errno) {
	out := make([]byte, 0, len(l))
	for _, r := range l {
		if !Is(r) {
			return nil, api.ErrUTF
		}
		out = put(out, r)
	}
	return out, api.OK
}

// Check is the first place where no character stands, or how many bytes there are.
func Check(b []byte) (int, api.Errno) {
	end := walk(b, func(int, rune) bool { return true })
	if end < len(b) {
		return end, api.ErrUTF
	}
	return end, api.OK
}

// All gives the characters, up to the first place where none stands, and their places.
func All(b []byte) iter.Seq2[int, rune] {
	// The caller may write into b between asking and going through.
	own := bytes.Clone(b)
	return func(yield func(int, rune) bool) { walk(own, yield) }
}

// walk tells characters and their places while more are wanted, and answers the place behind the last one that it passed.
func walk(b []byte, more func(int, rune) bool) int {
	at := 0
characters:
	for at < len(b) {
		r, n, e := Decode(b, at)
		switch {
		case e != api.OK, !more(at, r):
			break characters
		}
		at += n
	}
	return at
}

// begin is what a first byte holds of its number, and how many bytes there are with it; none, if it is no first byte.
func begin(c byte) (rune, int) {
	for i, w := range rows {
		if w.first <= c && c <= w.last {
			return rune(c - w.first), i + 1
		}
	}
	return 0, 0
}

// size is how many bytes a character has.
func size(r rune) int {
	n := 1
	for n < len(rows) && r >= rows[n-1].below {
		n++
	}
	return n
}

// put is bytes with those of a character behind them.
func put(b []byte, r rune) []byte {
	n := size(r)
	shift := bits * (n - 1)
	b = append(b, rows[n-1].first|byte(r>>shift))
	for shift > 0 {
		shift -= bits
		b = append(b, mark|byte(r>>shift)&mask)
	}
	return b
}
