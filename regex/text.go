package regex

import (
	"slices"

	"spyglass/api"
	"spyglass/names"
)

// Parse is the regular expression of a text.
func Parse(s string) (Regex, api.Errno) {
	if len(s) > api.MaxBytes {
		return Regex{}, api.ErrBound
	}
	r := reader{left: s}
	if !r.expression() || !names.Blank(r.left) {
		return Regex{}, api.ErrForm
	}
	if r.long {
		return Regex{}, api.ErrName
	}
	return r.maker.made()
}

// reader reads a text from the left, and makes what is read: its methods tell whether there stood what they read.
type reader struct {
	left  string
	long  bool // that a word had too many bytes
	maker maker
}

func (r *reader) expression() bool { return r.parted('|', Alt, r.sequence) }

func (r *reader) sequence() bool { return r.parted(',', Cat, r.item) }

// parted reads parts with a mark between each two, and makes pairs of a kind of them.
func (r *reader) parted(mark byte, kind int, part func() bool) bool {
	if !part() {
		return false
	}
	for r.take(mark) {
		a := r.maker.last()
		if !part() {
			return false
		}
		r.maker.pair(kind, a)
	}
	return true
}

func (r *reader) item() bool {
	begin := len(r.maker.nodes)
	if !r.atom() {
		return false
	}
marks:
	for {
		a := r.maker.last()
		switch {
		case r.take('*'):
			r.maker.star()
		case r.take('+'):
			r.maker.copy(r.maker.nodes[begin:], a+1-begin)
			r.maker.star()
			r.maker.pair(Cat, a)
		case r.take('?'):
			r.maker.add(Node{Op: Empty})
			r.maker.pair(Alt, a)
		default:
			break marks
		}
	}
	return true
}

func (r *reader) atom() bool {
	switch {
	case r.take('!'):
		r.maker.add(Node{Op: None})
		return true
	case r.take('('):
		if r.take(')') {
			r.maker.add(Node{Op: Empty})
			return true
		}
		return r.expression() && r.take(')')
	}
	return r.word()
}

func (r *reader) word() bool {
	r.skip()
	if r.left == "" || !names.Is(r.left[:1]) {
		return false
	}
	end := 1
	// A letter with just one byte behind is a name, whatever the length of the word.
	for end < len(r.left) && names.Is("a"+r.left[end:end+1]) {
		end++
	}
	r.long = r.long || end > api.MaxName
	r.maker.add(Node{Op: Sym, Sym: r.left[:end]})
	r.left = r.left[end:]
	return true
}

// take reads a mark, if it stands there.
func (r *reader) take(mark byte) bool {
	r.skip()
	if r.left == "" || r.left[0] != mark {
		return false
	}
	r.left = r.left[1:]
	return true
}

// skip reads the blanks that stand there.
func (r *reader) skip() {
	for r.left != "" && names.Blank(r.left[:1]) {
		r.left = r.left[1:]
	}
}

// Text is the text of a regular expression.
func (r Regex) Text() (string, api.Errno) {
	if e := Check(r); e != api.OK {
		return "", e
	}
	texts := up(r.Nodes, func(at int, told []string) string {
		// part is a part's text, shut in if the part is of one of some kinds.
		part := func(p int, shut ...int) string {
			if slices.Contains(shut, r.Nodes[p].Op) {
				return "(" + told[p] + ")"
			}
			return told[p]
		}
		switch n := r.Nodes[at]; n.Op {
		case Empty:
			return "()"
		case Sym:
			return n.Sym
		case Cat:
			return part(n.A, Alt) + "," + part(n.B, Cat, Alt)
		case Alt:
			return part(n.A) + "|" + part(n.B, Alt)
		case Star:
			return part(n.A, Cat, Alt) + "*"
		}
		return "!"
	})
	return texts[len(texts)-1], api.OK
}
