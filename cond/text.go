package cond

import (
	"strconv"

	"leasehold/api"
)

// Text is e in words that Parse takes, if e is such a one; what is no expression has none.
func Text(e Expr) string {
	return string(appendText(nil, e))
}

// appendText goes on in one text from part to part: of many parts in one another none is copied again and again.
func appendText(b []byte, e Expr) []byte {
	switch {
	case e.Op == opValue:
		return appendValue(b, e.V)
	case e.Op == opName:
		return append(b, e.Name...)
	case parts(e.Op) == 0 || len(e.L) < parts(e.Op):
		return b
	}
	b = append(b, '(')
	switch {
	case e.Op == opNot:
		b = append(b, "not "...)
		b = appendText(b, e.L[0])
	case e.Op == opSign:
		b = append(b, '-')
		b = appendBehindSign(b, e.L[0])
	default:
		b = appendText(b, e.L[0])
		b = append(b, ' ')
		b = append(b, words[e.Op]...)
		b = append(b, ' ')
		b = appendText(b, e.L[1])
	}
	return append(b, ')')
}

// appendBehindSign puts what may not stand behind a sign by itself in a bracket of its own.
func appendBehindSign(b []byte, e Expr) []byte {
	if e.Op != opValue || e.V.Kind == api.Int {
		return appendText(b, e)
	}
	b = append(b, '(')
	b = appendText(b, e)
	return append(b, ')')
}

// appendValue tells nothing of a value of no Kind.
func appendValue(b []byte, v api.Value) []byte {
	switch v.Kind {
	case api.Int:
		return strconv.AppendInt(b, v.N, 10)
	case api.Bool:
		return strconv.AppendBool(b, v.N != 0)
	case api.Text:
		b = append(b, '"')
		b = append(b, v.S...)
		return append(b, '"')
	}
	return b
}

// Names is e's names, each once.
func Names(e Expr) []string {
	f := finder{seen: map[string]struct{}{}}
	f.look(e)
	return f.found
}

// finder keeps names in the order in which they come.
type finder struct {
	found []string
	seen  map[string]struct{}
}

// look keeps those of e that are new.
func (f *finder) look(e Expr) {
	if e.Op == opName {
		f.keep(e.Name)
	}
	for _, part := range e.L {
		f.look(part)
	}
}

// keep keeps a name that is new.
func (f *finder) keep(name string) {
	if _, is := f.seen[name]; is {
		return
	}
	f.seen[name] = struct{}{}
	f.found = append(f.found, name)
}
