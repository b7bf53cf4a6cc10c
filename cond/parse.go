package cond

import (
	"strconv"
	"strings"

	"leasehold/api"
	"leasehold/vars"
)

// mostDigits is how many a number has at most: none is then beyond 64 bits.
const mostDigits = 9

// What a word is.
const (
	noWord = iota // it can be nowhere
	theEnd
	numberWord
	textWord
	truthWord
	nameWord
	markWord // a bracket, or an operator
)

// word is one of a condition's, from its first byte till ahead of to.
type word struct {
	kind, from, to int
}

// wordAt is the one that begins at from, which is no blank.
func wordAt(s string, from int) word {
	switch {
	case from == len(s):
		return word{theEnd, from, from}
	case ofWord(s[from]):
		to := from
		for to < len(s) && ofWord(s[to]) {
			to++
		}
		return word{kindOf(s[from:to]), from, to}
	case s[from] == '"':
		return textAt(s, from)
	}
	n := markLength(s[from:])
	if n == 0 {
		return word{noWord, from, from}
	}
	return word{markWord, from, from + n}
}

// ofWord tells whether c is a byte of which numbers, names and the like are made.
func ofWord(c byte) bool {
	return 'a' <= c && c <= 'z' || isDigit(c) || c == '_'
}

// isDigit tells whether c is a digit.
func isDigit(c byte) bool {
	return '0' <= c && c <= '9'
}

// kindOf is what a word of letters, digits and _ is.
func kindOf(s string) int {
	switch {
	case s == "or" || s == "and" || s == "not":
		return markWord
	case s == "true" || s == "false":
		return truthWord
	case len(s) <= mostDigits && strings.Trim(s, "0123456789") == "":
		return numberWord
	case !isDigit(s[0]) && s[0] != '_' && vars.Name(s):
		return nameWord
	}
	return noWord
}

// textAt is the text that begins at from.
func textAt(s string, from int) word {
	for k := from + 1; k < len(s) && ' ' <= s[k] && s[k] <= '~'; k++ {
		if s[k] == '"' {
			return word{textWord, from, k + 1}
		}
	}
	return word{noWord, from, from}
}

// markLength is how many bytes the bracket or operator has with which s begins; 0: it begins with none.
func markLength(s string) int {
	switch {
	case len(s) > 1 && s[1] == '=' && strings.IndexByte("=!<>", s[0]) >= 0:
		return 2
	case strings.IndexByte("()<>+-*/%", s[0]) >= 0:
		return 1
	}
	return 0
}

// parser goes through s from the left, and stands at a word; behind its first error at one that nothing takes.
type parser struct {
	s    string
	at   word
	deep int // of how many brackets, nots and signs it is inside
	err  error
}

// Parse is the condition that s tells.
func Parse(s string) (Expr, error) {
	if len(s) > api.MaxCond {
		return Expr{}, &api.At{Pos: api.MaxCond, Err: api.ErrLong}
	}
	p := &parser{s: s}
	p.next()
	e := p.or()
	if p.at.kind != theEnd {
		p.fail(api.ErrSyntax)
	}
	if p.err != nil {
		return Expr{}, p.err
	}
	return e, nil
}

// fail keeps the first error, around the place of the word at hand.
func (p *parser) fail(err error) {
	if p.err == nil {
		p.err = &api.At{Pos: p.at.from, Err: err}
		p.at.kind = noWord
	}
}

// next goes on to the next word.
func (p *parser) next() {
	if p.err != nil {
		return
	}
	from := p.at.to
	for from < len(p.s) && p.s[from] == ' ' {
		from++
	}
	p.at = wordAt(p.s, from)
}

// text is the word at hand.
func (p *parser) text() string {
	return p.s[p.at.from:p.at.to]
}

// is tells whether the word at hand is that bracket or operator.
func (p *parser) is(mark string) bool {
	return p.at.kind == markWord && p.text() == mark
}

// operator is the one of first to last at hand; 0: there is none of these.
func (p *parser) operator(first, last int) int {
	for op := first; op <= last; op++ {
		if p.is(words[op]) {
			return op
		}
	}
	return 0
}

// row is a row of parts with first to last between them.
func (p *parser) row(first, last int, part func() Expr) Expr {
	e := part()
	for op := p.operator(first, last); op != 0; op = p.operator(first, last) {
		p.next()
		right := part()
		e = Expr{Op: op, L: []Expr{e, right}}
	}
	return e
}

// deeper is the part behind the word at hand: a bracket, a not or a sign.
func (p *parser) deeper(part func() Expr) Expr {
	if p.deep == api.MaxDeep {
		p.fail(api.ErrDeep)
		return Expr{}
	}
	p.deep++
	p.next()
	e := part()
	p.deep--
	return e
}

// or is the weakest there is: a whole condition.
func (p *parser) or() Expr {
	return p.row(opOr, opOr, p.and)
}

func (p *parser) and() Expr {
	return p.row(opAnd, opAnd, p.not)
}

func (p *parser) not() Expr {
	if !p.is(words[opNot]) {
		return p.compared()
	}
	return Expr{Op: opNot, L: []Expr{p.deeper(p.not)}}
}

func (p *parser) compared() Expr {
	left := p.sum()
	op := p.operator(opEqual, opNotLess)
	if op == 0 {
		return left
	}
	p.next()
	right := p.sum()
	return Expr{Op: op, L: []Expr{left, right}}
}

func (p *parser) sum() Expr {
	return p.row(opPlus, opMinus, p.product)
}

func (p *parser) product() Expr {
	return p.row(opTimes, opRest, p.signed)
}

func (p *parser) signed() Expr {
	if !p.is(words[opSign]) {
		return p.single()
	}
	return Expr{Op: opSign, L: []Expr{p.deeper(p.behindSign)}}
}

// behindSign is what a sign may stand ahead of.
func (p *parser) behindSign() Expr {
	if p.at.kind == textWord || p.at.kind == truthWord {
		p.fail(api.ErrSyntax)
	}
	return p.signed()
}

// single is a value, a name, or what stands in a bracket.
func (p *parser) single() Expr {
	if p.is("(") {
		return p.bracket()
	}
	e := Expr{Op: opValue}
	switch s := p.text(); p.at.kind {
	case numberWord:
		n, _ := strconv.ParseInt(s, 10, 64)
		e.V = vars.Number(n)
	case textWord:
		e.V = vars.Word(s[1 : len(s)-1])
	case truthWord:
		e.V = vars.Flag(s == "true")
	case nameWord:
		e = Expr{Op: opName, Name: s}
	default:
		p.fail(api.ErrSyntax)
	}
	p.next()
	return e
}

// bracket is what stands in one.
func (p *parser) bracket() Expr {
	e := p.deeper(p.or)
	if !p.is(")") {
		p.fail(api.ErrSyntax)
	}
	p.next()
	return e
}
