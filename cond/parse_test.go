package cond

import (
	"errors"
	"slices"
	"strings"
	"testing"

	"leasehold/api"
	"leasehold/vars"
)

// xs is n times s.
func xs(n int, s string) string { return strings.Repeat(s, n) }

// val, num, wrd, yes and no are expressions of a value, nam is one of a name, op one of parts.
func val(v api.Value) Expr         { return Expr{Op: 1, V: v} }
func num(n int64) Expr             { return val(vars.Number(n)) }
func wrd(s string) Expr            { return val(vars.Word(s)) }
func yes() Expr                    { return val(vars.Flag(true)) }
func no() Expr                     { return val(vars.Flag(false)) }
func nam(s string) Expr            { return Expr{Op: 2, Name: s} }
func op(o int, parts ...Expr) Expr { return Expr{Op: o, L: parts} }

// sameTree tells whether a and b are the same in each field of each part.
func sameTree(a, b Expr) bool {
	return a.Op == b.Op && a.V == b.V && a.Name == b.Name && slices.EqualFunc(a.L, b.L, sameTree)
}

// parsed is what a condition that has to be one tells.
func parsed(t *testing.T, s string) Expr {
	t.Helper()
	e, err := Parse(s)
	if err != nil {
		t.Fatalf("%q: %v", s, err)
	}
	return e
}

// tells checks what s is parsed to.
func tells(t *testing.T, s string, want Expr) {
	t.Helper()
	if e, err := Parse(s); err != nil || !sameTree(e, want) {
		t.Errorf("%q: %v, %v, not %v", s, e, err, want)
	}
}

// refused checks that s tells that error right around that place, and nothing beside.
func refused(t *testing.T, s string, pos int, want error) {
	t.Helper()
	e, err := Parse(s)
	at, is := err.(*api.At)
	if !is || at.Pos != pos || at.Err != want || !errors.Is(err, want) || !sameTree(e, Expr{}) {
		t.Errorf("%q: %v, %v, not %d, %v", s, e, err, pos, want)
	}
}

// number is a source of numbers in no plain order, the same each time.
type number uint32

func (x *number) below(n int) int {
	*x ^= *x << 13
	*x ^= *x >> 17
	*x ^= *x << 5
	return int(uint32(*x) >> 8 % uint32(n))
}

// P5.1

func TestParseOfSingleWords(t *testing.T) {
	for s, want := range map[string]Expr{
		"0": num(0), "7": num(7), "007": num(7), "999999999": num(999999999), "000000001": num(1), "080": num(80),
		"true": yes(), "false": no(),
		`""`: wrd(""), `"a"`: wrd("a"), `" "`: wrd(" "), `"  or (1"`: wrd("  or (1"), `"!~'\"`: wrd(`!~'\`),
		`"` + xs(61, "x") + `"`: wrd(xs(61, "x")), `"` + xs(78, "y") + `"`: wrd(xs(78, "y")),
		"a": nam("a"), "z9_": nam("z9_"), "a_b": nam("a_b"), xs(24, "z"): nam(xs(24, "z")),
		"orx": nam("orx"), "an": nam("an"), "nota": nam("nota"), "true1": nam("true1"), "falsey": nam("falsey"), "not_": nam("not_"), "and2": nam("and2"),
		"  a": nam("a"), "a  ": nam("a"), "(a)": nam("a"), " ( ( a ) ) ": nam("a"), "(7)": num(7), `("x")`: wrd("x"),
		xs(79, " ") + "a": nam("a"), "a" + xs(79, " "): nam("a"),
	} {
		tells(t, s, want)
	}
}

func TestParseOfEachOp(t *testing.T) {
	a, b := nam("a"), nam("b")
	for k, s := range []string{"or", "and", "not", "==", "!=", "<", "<=", ">", ">=", "+", "-", "*", "/", "%"} {
		if s == "not" {
			continue
		}
		for _, x := range []string{"a " + s + " b", " a  " + s + "   b ", "(a)" + s + "(b)", "((a)" + s + "(b))"} {
			tells(t, x, op(3+k, a, b))
		}
		if k > 2 {
			tells(t, "a"+s+"b", op(3+k, a, b))
			tells(t, "1"+s+"2", op(3+k, num(1), num(2)))
			tells(t, `"x"`+s+`"y"`, op(3+k, wrd("x"), wrd("y")))
		}
	}
	for _, x := range []string{"not a", "not(a)", " not  a", "(not a)"} {
		tells(t, x, op(5, a))
	}
	for _, x := range []string{"-a", "- a", "-(a)", "(-a)", " -a "} {
		tells(t, x, op(17, a))
	}
	for s, want := range map[string]Expr{
		"-1": op(17, num(1)), "--1": op(17, op(17, num(1))), "- - a": op(17, op(17, a)), "-999999999": op(17, num(999999999)),
		`-("x")`: op(17, wrd("x")), "-(true)": op(17, yes()), "-(not a)": op(17, op(5, a)), "-(a or b)": op(17, op(3, a, b)), "-(-(1))": op(17, op(17, num(1))),
		"not true": op(5, yes()), `not "x"`: op(5, wrd("x")), "not 1": op(5, num(1)), "not -a": op(5, op(17, a)),
	} {
		tells(t, s, want)
	}
}

func TestParseOfWhatIsStronger(t *testing.T) {
	a, b, c := nam("a"), nam("b"), nam("c")
	for s, want := range map[string]Expr{
		"a or b or c":          op(3, op(3, a, b), c),
		"a and b and c":        op(4, op(4, a, b), c),
		"a or b and c":         op(3, a, op(4, b, c)),
		"a and b or c":         op(3, op(4, a, b), c),
		"(a or b) and c":       op(4, op(3, a, b), c),
		"a or (b or c)":        op(3, a, op(3, b, c)),
		"not a and b":          op(4, op(5, a), b),
		"a and not b or c":     op(3, op(4, a, op(5, b)), c),
		"not not a":            op(5, op(5, a)),
		"not a == b":           op(5, op(6, a, b)),
		"(not a) == b":         op(6, op(5, a), b),
		"a == (not b)":         op(6, a, op(5, b)),
		"a < b and b < c":      op(4, op(8, a, b), op(8, b, c)),
		"(a < b) < c":          op(8, op(8, a, b), c),
		"a < (b < c)":          op(8, a, op(8, b, c)),
		"a + b < b + c":        op(8, op(12, a, b), op(12, b, c)),
		"a - b - c":            op(13, op(13, a, b), c),
		"a - b + c":            op(12, op(13, a, b), c),
		"a - (b - c)":          op(13, a, op(13, b, c)),
		"a + b * c":            op(12, a, op(14, b, c)),
		"a * b + c":            op(12, op(14, a, b), c),
		"a / b % c * a":        op(14, op(16, op(15, a, b), c), a),
		"a * -b":               op(14, a, op(17, b)),
		"-a * b":               op(14, op(17, a), b),
		"-a - -b":              op(13, op(17, a), op(17, b)),
		"a--b":                 op(13, a, op(17, b)),
		"-(a - b)":             op(17, op(13, a, b)),
		"a or not b == c - -1": op(3, a, op(5, op(6, b, op(13, c, op(17, num(1)))))),
		"not(a)or(b)":          op(3, op(5, a), b),
		`a=="b"and"c"!=b`:      op(4, op(6, a, wrd("b")), op(7, wrd("c"), b)),
	} {
		tells(t, s, want)
	}
}

func TestParseOfWhatIsTooLong(t *testing.T) {
	for _, n := range []int{81, 82, 1000, 100000} {
		for _, s := range []string{"a", " ", "(", "1", `"`, "\x00"} {
			refused(t, xs(n, s), 80, api.ErrLong)
		}
	}
	refused(t, xs(80, " "), 80, api.ErrSyntax)
	refused(t, xs(80, "a"), 0, api.ErrSyntax)
	parsed(t, xs(39, "1+")+"22")
	parsed(t, "a"+xs(40, " ")+"=="+xs(36, " ")+"b")
}

func TestParseOfWhatCantBe(t *testing.T) {
	for _, k := range []struct {
		s   string
		pos int
	}{
		// The end.
		{"", 0}, {" ", 1}, {"a or", 4}, {"a or  ", 6}, {"not", 3}, {"-", 1}, {"(", 1}, {"(a", 2}, {"(a ", 3}, {"a ==", 4}, {"a*", 2}, {"((a)", 4},
		// A word where it can't be.
		{"a b", 2}, {"1 2", 2}, {"a 1", 2}, {`"a""b"`, 3}, {`1"x"`, 1}, {`"x"y`, 3}, {"a true", 2}, {"a not b", 2}, {"a (b)", 2}, {"(a) b", 4}, {"(a)(b)", 3},
		{")", 0}, {"a)", 1}, {"()", 1}, {"(a))", 3}, {"(a or)", 5},
		{"or", 0}, {"and a", 0}, {"a or or b", 5}, {"a or and b", 5}, {"not or", 4}, {"not and a", 4}, {"+a", 0}, {"a + + b", 4}, {"a * / b", 4}, {"* a", 0}, {"== a", 0}, {"a == == b", 5}, {"a == < b", 5},
		{"a < b < c", 6}, {"a == b != c", 7}, {"a + b >= c * 2 <= d", 15}, {"(a < b == c)", 7}, {"not a < b < c", 10}, {"a or b > c > d", 11},
		{"a == not b", 5}, {"1 + not a", 4}, {"a * not b", 4}, {"- not a", 2}, {"-not", 1},
		{`-"x"`, 1}, {`- "x`, 2}, {"-true", 1}, {"--false", 2}, {"- or", 2}, {"-)", 1}, {"-*a", 1}, {"a * -true", 5}, {`a - -"x"`, 5},
		// Words that can be nowhere.
		{"1234567890", 0}, {"0000000000", 0}, {"1a", 0}, {"9_", 0}, {"1_0", 0}, {"a == 12ab", 5}, {"_", 0}, {"_a", 0}, {"a or _1", 5}, {xs(25, "a"), 0}, {"(" + xs(25, "a"), 1}, {xs(24, "a") + "1", 0}, {xs(20, "not"), 0},
		// Signs that begin none.
		{"A", 0}, {"aB", 1}, {"a == B", 5}, {"a = b", 2}, {"a=b", 1}, {"=", 0}, {"!", 0}, {"a ! b", 2}, {"a ! = b", 2}, {"a = = b", 2}, {"!a", 0}, {"a === b", 4}, {"a <== b", 4}, {"a =< b", 2}, {"a <> b", 3}, {"a < = b", 4},
		{"a\tor b", 1}, {"\ta", 0}, {"a\n", 1}, {"a\x00", 1}, {"a\x80", 1}, {"\xff", 0}, {"a\u00a0", 1}, {"\u00e4", 0}, {"a & b", 2}, {"a, b", 1}, {"a.b", 1}, {"'a'", 0}, {"[a]", 0}, {"a-B", 2}, {"a|b", 1}, {"12B", 2}, {"a{", 1}, {"`a`", 0}, {"1234567890B", 0},
		// Texts without an end.
		{`"`, 0}, {`"a`, 0}, {`a == "x`, 5}, {`a "x`, 2}, {`"a" + "`, 6}, {`"a"b"`, 3}, {"\"a\tb\"", 0}, {"\"a\x1fb\"", 0}, {"\"a\x7f\"", 0}, {"\"a\x80\"", 0}, {"\"\u00e4\"", 0}, {"a == \"\n\"", 5}, {"\"a\x00\"", 0},
		// The first of several.
		{`1 2 "`, 2}, {"a b c", 2}, {") (", 0}, {"a or ! b =", 5}, {"a = 12ab", 2}, {`"a" "b`, 4},
	} {
		refused(t, k.s, k.pos, api.ErrSyntax)
	}
}

func TestParseOfEachByte(t *testing.T) {
	for c := range 256 {
		s := string([]byte{byte(c)})
		inside := "\"" + s + "\""
		switch {
		case c == '"':
			refused(t, inside, 2, api.ErrSyntax)
		case c < 0x20 || c > 0x7e:
			refused(t, inside, 0, api.ErrSyntax)
		default:
			tells(t, inside, wrd(s))
		}
		letter := 'a' <= c && c <= 'z'
		digit := '0' <= c && c <= '9'
		switch {
		case letter:
			tells(t, s, nam(s))
		case digit:
			tells(t, s, num(int64(c-'0')))
		case c == ' ' || c == '(' || c == '-':
			refused(t, s, 1, api.ErrSyntax)
		default:
			refused(t, s, 0, api.ErrSyntax)
		}
		switch {
		case letter || digit || c == '_':
			tells(t, "x"+s, nam("x"+s))
		case c == ' ':
			tells(t, "x"+s, nam("x"))
		case strings.Contains("+-*/%<>", s):
			refused(t, "x"+s, 2, api.ErrSyntax)
		default:
			refused(t, "x"+s, 1, api.ErrSyntax)
		}
	}
}

func TestParseOfWhatIsTooDeep(t *testing.T) {
	for _, n := range []int{1, 11, 12} {
		parsed(t, xs(n, "(")+"a"+xs(n, ")"))
		parsed(t, xs(n, "-")+"a")
		parsed(t, xs(n, "not ")+"a")
	}
	for _, k := range []struct {
		s   string
		pos int
		err error
	}{
		{xs(13, "("), 12, api.ErrDeep}, {xs(13, "-"), 12, api.ErrDeep}, {xs(13, "not "), 48, api.ErrDeep}, {xs(80, "("), 12, api.ErrDeep},
		{xs(12, "(") + "-a", 12, api.ErrDeep}, {xs(12, "(") + "not a", 12, api.ErrDeep}, {xs(12, "-") + "(a)", 12, api.ErrDeep}, {xs(12, "not ") + "(a)", 48, api.ErrDeep}, {xs(12, "not ") + "-a", 48, api.ErrDeep},
		{xs(6, "-(") + "a + -b", 16, api.ErrDeep}, {xs(6, "not(") + "a or not b", 29, api.ErrDeep},
		{xs(12, "(") + "a == (b", 17, api.ErrDeep}, {xs(12, "(") + "  (", 14, api.ErrDeep},
		{xs(12, "(") + "a" + xs(12, ")") + "+" + xs(13, "(") + "b", 26 + 12, api.ErrDeep},
		// Where it can't be at all, it does not matter how deep it is.
		{xs(12, "-") + "not a", 12, api.ErrSyntax}, {xs(12, "(") + "a(b", 13, api.ErrSyntax}, {xs(12, "(") + "a not", 14, api.ErrSyntax}, {xs(12, "(") + "1 + not a", 16, api.ErrSyntax},
		{xs(12, "("), 12, api.ErrSyntax}, {xs(12, "(") + ")", 12, api.ErrSyntax}, {xs(12, "-") + `"x"`, 12, api.ErrSyntax}, {xs(12, "(") + `"`, 12, api.ErrSyntax},
		// The first from the left.
		{xs(13, "(") + `"`, 12, api.ErrDeep}, {"= " + xs(13, "("), 0, api.ErrSyntax}, {xs(5, "(") + ")" + xs(13, "("), 5, api.ErrSyntax},
	} {
		refused(t, k.s, k.pos, k.err)
	}
	// What has ended is not stood in any more.
	for _, s := range []string{
		xs(12, "(") + "a" + xs(12, ")") + "+" + xs(12, "(") + "b" + xs(12, ")"),
		xs(12, "-") + "a - " + xs(12, "-") + "b",
		xs(8, "not ") + "a and " + xs(9, "not ") + "b",
		xs(11, "(") + "-a * -b" + xs(11, ")"), xs(11, "(") + "not a or not b" + xs(11, ")"), xs(12, "(") + "a - b" + xs(12, ")"),
	} {
		parsed(t, s)
	}
}

// reading is a second one of the language: word by word, without trees.
type reading struct {
	operand bool   // one stood last
	after   byte   // what an operand that is wanted stands behind: l (where a not may stand), s (a sign), or else
	open    []byte // the brackets, nots and signs that the next word stands in: ( n s
	rows    []bool // outside, and of each open bracket: a comparison stood in this row
}

// end takes those of kind from the end of what is open.
func (r *reading) end(kind byte) {
	for len(r.open) > 0 && r.open[len(r.open)-1] == kind {
		r.open = r.open[:len(r.open)-1]
	}
}

// begin takes a word where an operand is wanted.
func (r *reading) begin(w string) error {
	kind := byte(0)
	switch {
	case w == "(" || w == "-":
		kind = w[0]
	case w == "not" && r.after == 'l':
		kind = 'n'
	case w == "true" || w == `"x y"`:
		if r.after == 's' {
			return api.ErrSyntax
		}
	case w != "b" && w != "17":
		return api.ErrSyntax
	}
	switch {
	case kind == 0:
		r.operand = true
		r.end('s')
		return nil
	case len(r.open) == 12:
		return api.ErrDeep
	case kind == '(':
		r.after = 'l'
		r.rows = append(r.rows, false)
	case kind == '-':
		kind, r.after = 's', 's'
	}
	r.open = append(r.open, kind)
	return nil
}

// goOn takes a word behind an operand.
func (r *reading) goOn(w string) error {
	last := len(r.rows) - 1
	switch w {
	case "or", "and":
		r.end('n')
		r.operand, r.after, r.rows[last] = false, 'l', false
		return nil
	case "==", "!=", "<", "<=", ">", ">=":
		if !r.rows[last] {
			r.operand, r.after, r.rows[last] = false, 'c', true
			return nil
		}
	case "+", "-", "*", "/", "%":
		r.operand, r.after = false, 'c'
		return nil
	case ")":
		if last > 0 {
			r.end('n')
			r.open, r.rows = r.open[:len(r.open)-1], r.rows[:last]
			r.end('s')
			return nil
		}
	}
	return api.ErrSyntax
}

// take takes a word; the empty one is the end.
func (r *reading) take(w string) error {
	switch {
	case w == "" && r.operand && len(r.rows) == 1:
		return nil
	case w == "":
		return api.ErrSyntax
	case r.operand:
		return r.goOn(w)
	}
	return r.begin(w)
}

// copied is r in memory of its own, to try a word on.
func (r reading) copied() reading {
	r.open, r.rows = slices.Clone(r.open), slices.Clone(r.rows)
	return r
}

// spaced is s with w behind, and a blank between where it needs one, or by chance; and where w then begins.
func spaced(x *number, s, w string) (string, int) {
	s += xs(x.below(2), " ")
	if s != "" && (ofWord(s[len(s)-1]) && ofWord(w[0]) || strings.Contains("<>!=", s[len(s)-1:]) && w[0] == '=') {
		s += " "
	}
	return s + w, len(s)
}

// fitting is a word that fits, or now and then any one.
func fitting(x *number, r reading) string {
	words := []string{"(", "(", "(", ")", ")", "-", "-", "not", "not", "b", "b", "17", "true", `"x y"`, "or", "and", "==", "!=", "<", "<=", ">", ">=", "+", "*", "/", "%", "1x", "_", "!", "\"\x7f", "A"}
	for {
		w := words[x.below(len(words))]
		try := r.copied()
		if try.take(w) != api.ErrSyntax || x.below(40) == 0 {
			return w
		}
	}
}

// sentence is words one behind the other that mostly fit, and the first fault of them, as the reading tells it.
func sentence(x *number) (s string, pos int, fault error) {
	r := reading{after: 'l', rows: []bool{false}}
	for range 1 + x.below(30) {
		w := fitting(x, r)
		s, pos = spaced(x, s, w)
		if fault = r.take(w); fault != nil {
			return s + xs(x.below(2), ") a"), pos, fault
		}
	}
	for r.operand && len(r.rows) > 1 && x.below(20) > 0 {
		s += ")"
		r.take(")")
	}
	return s, len(s), r.take("")
}

// TestParseAgainstASecondReading holds the first fault of many conditions against what the reading tells.
func TestParseAgainstASecondReading(t *testing.T) {
	x := number(88172645)
	var fine, syntax, deep int
	for range 60000 {
		s, pos, fault := sentence(&x)
		switch {
		case len(s) > 80:
			continue
		case fault == nil:
			fine++
			parsed(t, s)
			continue
		case fault == api.ErrDeep:
			deep++
		default:
			syntax++
		}
		refused(t, s, pos, fault)
	}
	if fine < 5000 || syntax < 5000 || deep < 300 {
		t.Errorf("too few of some kind: %d, %d, %d", fine, syntax, deep)
	}
}

// tree is one of no more than that many parts in one another.
func tree(x *number, deep int) Expr {
	o := 1 + x.below(17)
	if deep == 0 {
		o = 1 + x.below(2)
	}
	switch {
	case o == 1:
		return []Expr{num(int64(x.below(30))), wrd(xs(x.below(3), "x")), yes(), no()}[x.below(4)]
	case o == 2:
		return nam(string(rune('a' + x.below(5))))
	case o == 5 || o == 17:
		return op(o, tree(x, deep-1))
	}
	return op(o, tree(x, deep-1), tree(x, deep-1))
}

// strength is how strong what e is made with is.
func strength(e Expr) int {
	return []int{0, 8, 8, 1, 2, 3, 4, 4, 4, 4, 4, 4, 5, 5, 6, 6, 6, 7}[e.Op]
}

// written is e with the fewest brackets, in one if it is weaker than least.
func written(e Expr, least int) string {
	own := strength(e)
	signs := []string{3: " or ", " and ", "", " == ", " != ", "<", " <= ", ">", " >= ", "+", " - ", "*", "/ ", " %"}
	s := e.Name
	switch {
	case e.Op == 1 && e.V.Kind == api.Int:
		s = string([]byte{byte('0' + e.V.N/10), byte('0' + e.V.N%10)})
	case e.Op == 1 && e.V.Kind == api.Text:
		s = `"` + e.V.S + `"`
	case e.Op == 1:
		s = []string{"false", "true"}[e.V.N]
	case e.Op == 5:
		s = "not " + written(e.L[0], own)
	case e.Op == 17 && e.L[0].Op == 1 && e.L[0].V.Kind != api.Int:
		s = "-" + written(e.L[0], 9)
	case e.Op == 17:
		s = "-" + written(e.L[0], own)
	case own == 4:
		s = written(e.L[0], 5) + signs[e.Op] + written(e.L[1], 5)
	case e.Op > 2:
		s = written(e.L[0], own) + signs[e.Op] + written(e.L[1], own+1)
	}
	if own < least {
		return "(" + s + ")"
	}
	return s
}

func TestParseOfTreesWrittenDown(t *testing.T) {
	x := number(123456789)
	held := 0
	for range 40000 {
		e := tree(&x, x.below(6))
		if s := written(e, 0); len(s) <= 80 {
			tells(t, s, e)
			held++
		}
	}
	if held < 10000 {
		t.Errorf("%d only", held)
	}
}

func TestParseOfAnyBytesEnds(t *testing.T) {
	x := number(2463534242)
	for range 50000 {
		b := make([]byte, x.below(90))
		for k := range b {
			b[k] = byte(x.below(256)) >> x.below(3)
		}
		e, err := Parse(string(b))
		if err != nil && !sameTree(e, Expr{}) {
			t.Fatalf("%q: %v beside %v", b, e, err)
		}
	}
}

// eachList calls f with each list of e.
func eachList(e Expr, f func(l []Expr)) {
	for _, part := range e.L {
		eachList(part, f)
	}
	f(e.L)
}

func TestParseHandsOutNewMemory(t *testing.T) {
	s := "a + b * -c or not (d == 1 and e)"
	first, second := parsed(t, s), parsed(t, s)
	want := parsed(t, s)
	eachList(first, func(l []Expr) { _ = append(l, nam("more"), nam("still")) })
	if !sameTree(first, want) {
		t.Error("what is appended to a list shows in another one")
	}
	eachList(first, func(l []Expr) {
		l = l[:cap(l)]
		for k := range l {
			l[k] = nam("scribbled")
		}
	})
	if !sameTree(second, want) || !sameTree(parsed(t, s), want) {
		t.Error("two answers share memory")
	}
}
