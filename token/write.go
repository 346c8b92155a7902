package token

import (
	"strings"

	"spyglass/api"
	"spyglass/names"
	"spyglass/utf"
)

// written is a token as it is written, or what is wrong with it; first tells whether it is the first one.
func written(t Token, first bool) (string, api.Errno) {
	switch t.Kind {
	case Decl:
		return writtenDecl(t.Text, first)
	case Open:
		return writtenOpen(t)
	case Close:
		return writtenClose(t.Name)
	case Text:
		return names.Escape(t.Text, false)
	case Comment:
		return writtenComment(t.Text)
	}
	return "", api.ErrArg
}

func writtenDecl(text string, first bool) (string, api.Errno) {
	switch {
	case first && text == "":
		return declBegin + version + declEnd, api.OK
	case first && text == encoding:
		return declBegin + version + encodingAttr + declEnd, api.OK
	}
	return "", api.ErrArg
}

func writtenOpen(t Token) (string, api.Errno) {
	if e := checkNames(t); e != api.OK {
		return "", e
	}
	var out strings.Builder
	out.WriteString(openBegin + t.Name)
	for _, a := range t.Attrs {
		value, e := names.Escape(a.Value, true)
		if e != api.OK {
			return "", e
		}
		out.WriteString(" " + a.Name + `="` + value + `"`)
	}
	if t.Empty {
		return out.String() + emptyEnd, api.OK
	}
	return out.String() + end, api.OK
}

// checkNames is what is wrong with the names of an Open.
func checkNames(t Token) api.Errno {
	if !names.Is(t.Name) {
		return api.ErrName
	}
	for _, a := range t.Attrs {
		if !names.Is(a.Name) {
			return api.ErrName
		}
	}
	if twice(t.Attrs) {
		return api.ErrThere
	}
	return api.OK
}

func writtenClose(name string) (string, api.Errno) {
	if !names.Is(name) {
		return "", api.ErrName
	}
	return closeBegin + name + end, api.OK
}

func writtenComment(text string) (string, api.Errno) {
	if _, e := utf.Check([]byte(text)); e != api.OK {
		return "", e
	}
	// It would be read as another one, or as none.
	if strings.Contains(text, commentDash) || strings.Contains(text, "\r") || strings.HasSuffix(text, "-") {
		return "", api.ErrForm
	}
	return commentBegin + text + commentEnd, api.OK
}
