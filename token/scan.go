package token

import (
	"strings"

	"spyglass/api"
	"spyglass/names"
)

// place is a place in a document.
type place struct {
	doc string
	at  int
}

// more tells whether something stands there.
func (p *place) more() bool { return p.at < len(p.doc) }

// skip goes behind a mark, if it stands there.
func (p *place) skip(mark string) bool {
	if !strings.HasPrefix(p.doc[p.at:], mark) {
		return false
	}
	p.at += len(mark)
	return true
}

// until is what stands ahead of the next such mark, and goes behind this, if there is one.
func (p *place) until(mark string) (string, bool) {
	s, _, ok := strings.Cut(p.doc[p.at:], mark)
	if ok {
		p.at += len(s) + len(mark)
	}
	return s, ok
}

// run is the bytes of a kind that stand there, and goes behind them.
func (p *place) run(kind func(string) bool) string {
	from := p.at
	for p.more() && kind(p.doc[p.at:p.at+1]) {
		p.at++
	}
	return p.doc[from:p.at]
}

// blanks goes behind blanks, and tells whether there was one.
func (p *place) blanks() bool { return p.run(names.Blank) != "" }

// name is the name that stands there, and goes behind it, if it is one.
func (p *place) name() (string, bool) {
	s := p.run(named)
	return s, names.Is(s)
}

// quoted is what stands there between two marks of one kind, and goes behind it, if it is so.
func (p *place) quoted() (string, bool) {
	for _, mark := range []string{`"`, `'`} {
		if p.skip(mark) {
			return p.until(mark)
		}
	}
	return "", false
}

// named tells whether a byte may stand in a name.
func named(c string) bool { return names.Is("_" + c) }

// scanner goes through a document, and reads its pieces.
type scanner struct {
	place
	marks []mark
}

// mark is what some pieces begin with, and what reads them from behind it on: the piece, or false, if there is none.
type mark struct {
	text string
	read func(*scanner) (Token, bool)
}

// marks is all marks, each ahead of those with which it begins itself.
func marks() []mark {
	return []mark{
		{declBegin, (*scanner).readDecl},
		{commentBegin, (*scanner).readComment},
		{dataBegin, (*scanner).readData},
		{closeBegin, (*scanner).readClose},
		{openBegin, (*scanner).readOpen},
	}
}

// piece is the piece that stands there, if there is one.
func (s *scanner) piece() (Token, bool) {
	for _, m := range s.marks {
		if s.skip(m.text) {
			return m.read(s)
		}
	}
	return s.readText()
}

func (s *scanner) readDecl() (Token, bool) {
	// Elsewhere it would be an Open, but for its name, which is none.
	if s.at != len(declBegin) || !s.skip(version) {
		return Token{}, false
	}
	t := Token{Kind: Decl}
	if s.skip(encodingAttr) {
		t.Text = encoding
	}
	return t, s.skip(declEnd)
}

func (s *scanner) readComment() (Token, bool) {
	text, ok := s.until(commentDash)
	return Token{Kind: Comment, Text: text}, ok && s.skip(end)
}

func (s *scanner) readData() (Token, bool) {
	text, ok := s.until(dataEnd)
	return Token{Kind: Text, Text: text}, ok
}

func (s *scanner) readClose() (Token, bool) {
	name, ok := s.name()
	s.blanks()
	return Token{Kind: Close, Name: name}, ok && s.skip(end)
}

func (s *scanner) readOpen() (Token, bool) {
	t := Token{Kind: Open}
	var ok bool
	if t.Name, ok = s.name(); !ok {
		return Token{}, false
	}
	for s.blanks() && !s.ends() {
		a, ok := s.readAttr()
		if !ok {
			return Token{}, false
		}
		t.Attrs = append(t.Attrs, a)
	}
	t.Empty = s.skip(emptyEnd)
	return t, (t.Empty || s.skip(end)) && !twice(t.Attrs)
}

// ends tells whether the end of an Open stands there.
func (s *scanner) ends() bool {
	rest := s.doc[s.at:]
	return strings.HasPrefix(rest, emptyEnd) || strings.HasPrefix(rest, end)
}

func (s *scanner) readAttr() (api.Attr, bool) {
	name, ok := s.name()
	if !ok {
		return api.Attr{}, false
	}
	s.blanks()
	if !s.skip("=") {
		return api.Attr{}, false
	}
	s.blanks()
	raw, ok := s.quoted()
	if !ok {
		return api.Attr{}, false
	}
	// The bytes turn ahead of references, which may stand for 9 and 10 themselves; a < is no text's for names.
	value, e := names.Unescape(strings.NewReplacer("\t", " ", "\n", " ").Replace(raw))
	return api.Attr{Name: name, Value: value}, e == api.OK
}

func (s *scanner) readText() (Token, bool) {
	raw, _, _ := strings.Cut(s.doc[s.at:], openBegin)
	s.at += len(raw)
	if strings.Contains(raw, dataEnd) {
		return Token{}, false
	}
	text, e := names.Unescape(raw)
	return Token{Kind: Text, Text: text}, e == api.OK
}
