package cond

import (
	"errors"
	"math"
	"math/big"
	"slices"
	"strings"
	"testing"

	"leasehold/api"
	"leasehold/vars"
)

// P5.2

// comes checks what e comes to: a value and no error, or an error alone and nothing beside.
func comes(t *testing.T, what string, e Expr, l []api.Var, want api.Value, fault error) {
	t.Helper()
	if got, err := Eval(e, l); got != want || err != fault {
		t.Errorf("%s: %v, %v, not %v, %v", what, got, err, want, fault)
	}
}

// some are variables of each Kind.
func some() []api.Var {
	return []api.Var{
		{Name: "f", Value: vars.Flag(false)},
		{Name: "n", Value: vars.Number(7)},
		{Name: "s", Value: vars.Word("abc")},
		{Name: "t", Value: vars.Flag(true)},
		{Name: "z", Value: vars.Number(0)},
	}
}

func TestEvalOfValuesAndNames(t *testing.T) {
	for _, v := range []api.Value{vars.Number(0), vars.Number(-5), vars.Number(math.MinInt64), vars.Flag(true), vars.Flag(false), vars.Word(""), vars.Word(xs(60, "x")), vars.Word(xs(78, "x"))} {
		comes(t, "a value", val(v), some(), v, nil)
		comes(t, "a name", nam("v"), []api.Var{{Name: "u", Value: vars.Number(1)}, {Name: "v", Value: v}}, v, nil)
		comes(t, "the first of a name", nam("v"), []api.Var{{Name: "v", Value: v}, {Name: "v", Value: vars.Number(99)}}, v, nil)
		comes(t, "a value that has parts", Expr{Op: 1, V: v, Name: "zz", L: []Expr{nam("zz")}}, nil, v, nil)
	}
	comes(t, "no such name", nam("x"), some(), api.Value{}, api.ErrNone)
	comes(t, "a name of no variables", nam("n"), nil, api.Value{}, api.ErrNone)
	comes(t, "no name", nam(""), some(), api.Value{}, api.ErrNone)
	comes(t, "a part of a name", nam("nn"), some(), api.Value{}, api.ErrNone)
	comes(t, "a name that is a part", nam("n"), []api.Var{{Name: "nn", Value: vars.Number(1)}}, api.Value{}, api.ErrNone)
}

// turned is n gone round in 64 bits.
func turned(n *big.Int) api.Value {
	var low big.Int
	low.And(n, new(big.Int).SetUint64(math.MaxUint64))
	return vars.Number(int64(low.Uint64()))
}

// edges is each number where bits turn over, with those beside it.
func edges() []int64 {
	l := []int64{math.MaxInt64, math.MinInt64, math.MaxInt64 - 1, math.MinInt64 + 1, math.MaxInt64 / 3, 999999999, 10, 7}
	for _, k := range []int{0, 1, 2, 3, 8, 31, 32, 33, 61, 62} {
		for d := range int64(3) {
			n := int64(1)<<k + d - 1
			l = append(l, n, -n)
		}
	}
	return l
}

func TestEvalOfNumbers(t *testing.T) {
	for _, a := range edges() {
		x := big.NewInt(a)
		comes(t, "a sign", op(17, num(a)), nil, turned(new(big.Int).Neg(x)), nil)
		for _, b := range edges() {
			y := big.NewInt(b)
			want := []api.Value{12: turned(new(big.Int).Add(x, y)), 13: turned(new(big.Int).Sub(x, y)), 14: turned(new(big.Int).Mul(x, y)), 15: {}, 16: {}}
			var fault error
			if b == 0 {
				fault = api.ErrZero
			} else {
				want[15], want[16] = turned(new(big.Int).Quo(x, y)), turned(new(big.Int).Rem(x, y))
			}
			for o := 12; o <= 14; o++ {
				comes(t, "numbers", op(o, num(a), num(b)), nil, want[o], nil)
			}
			comes(t, "a division", op(15, num(a), num(b)), nil, want[15], fault)
			comes(t, "a rest", op(16, num(a), num(b)), nil, want[16], fault)
			c := x.Cmp(y)
			for o, is := range []bool{6: c == 0, 7: c != 0, 8: c < 0, 9: c <= 0, 10: c > 0, 11: c >= 0} {
				if o >= 6 {
					comes(t, "an order of numbers", op(o, num(a), num(b)), nil, vars.Flag(is), nil)
				}
			}
		}
	}
}

func TestEvalOfKnownNumbers(t *testing.T) {
	for s, want := range map[string]int64{"7 / 2": 3, "-7 / 2": -3, "7 / -2": -3, "-7 / -2": 3, "7 % 2": 1, "-7 % 2": -1, "7 % -2": 1, "-7 % -2": -1, "1 - 2": -1, "2 - 1": 1, "999999999 * 999999999": 999999998000000001, "-0": 0, "--5": 5, "2 + 3 * 4": 14, "(2 + 3) * 4": 20, "10 - 3 - 2": 5, "100 / 10 / 2": 5, "n * n - n": 42, "0 / 5": 0, "0 % 5": 0} {
		comes(t, s, parsed(t, s), some(), vars.Number(want), nil)
	}
}

func TestEvalOfTexts(t *testing.T) {
	l := []string{"", "a", "b", "aa", "ab", "B", "Z", "~", " ", "10", "9", "\x00", "\xff", "a\x00", "\u00e4", xs(60, "a"), xs(60, "a") + "b", xs(59, "a") + "b"}
	for _, a := range l {
		for _, b := range l {
			c := slices.Compare([]byte(a), []byte(b))
			for o, is := range []bool{6: c == 0, 7: c != 0, 8: c < 0, 9: c <= 0, 10: c > 0, 11: c >= 0} {
				if o >= 6 {
					comes(t, "an order of texts", op(o, wrd(a), wrd(b)), nil, vars.Flag(is), nil)
				}
			}
		}
	}
}

func TestEvalOfTextsTogether(t *testing.T) {
	for _, k := range []struct{ a, b, want string }{
		{"", "", ""}, {"a", "", "a"}, {"", "b", "b"}, {"ab", "cd", "abcd"}, {"\xff", "\x00", "\xff\x00"},
		{xs(30, "a"), xs(29, "b"), xs(30, "a") + xs(29, "b")}, {xs(30, "a"), xs(30, "b"), xs(30, "a") + xs(30, "b")}, {xs(30, "a"), xs(31, "b"), xs(30, "a") + xs(30, "b")},
		{xs(60, "a"), "b", xs(60, "a")}, {"b", xs(60, "a"), "b" + xs(59, "a")}, {xs(78, "a"), "", xs(60, "a")}, {"", xs(78, "a"), xs(60, "a")}, {xs(1000, "a"), xs(1000, "b"), xs(60, "a")},
		{xs(59, "a"), "\u00e4", xs(59, "a") + "\xc3"},
	} {
		comes(t, "together", op(12, wrd(k.a), wrd(k.b)), nil, vars.Word(k.want), nil)
	}
	comes(t, "a row", parsed(t, `s + "" + "de" + s`), some(), vars.Word("abcdeabc"), nil)
}

// TestEvalOfEachKind goes through each Op between values of each Kind.
func TestEvalOfEachKind(t *testing.T) {
	kinds := []api.Value{api.Int: vars.Number(1), api.Bool: vars.Flag(true), api.Text: vars.Word("x")}
	for k, a := range kinds[1:] {
		fault := func(o int) error {
			if (o == 5) == (k+1 == api.Bool) && (o == 17) == (k+1 == api.Int) {
				return nil
			}
			return api.ErrType
		}
		for _, o := range []int{5, 17} {
			if _, err := Eval(op(o, val(a)), nil); err != fault(o) {
				t.Errorf("Op %d of Kind %d: %v", o, k+1, err)
			}
		}
	}
	for o := 3; o <= 16; o++ {
		if o == 5 {
			continue
		}
		for i, a := range kinds[1:] {
			for k, b := range kinds[1:] {
				fits := i == k
				switch {
				case o == 3:
					fits = i+1 == api.Bool // the second one is not looked at
				case o == 4:
					fits = fits && i+1 == api.Bool
				case o >= 8 && o <= 12:
					fits = fits && i+1 != api.Bool
				case o > 12:
					fits = fits && i+1 == api.Int
				}
				got, err := Eval(op(o, val(a), val(b)), nil)
				if fits != (err == nil) || !fits && (err != api.ErrType || got != api.Value{}) {
					t.Errorf("Op %d of Kinds %d and %d: %v, %v", o, i+1, k+1, got, err)
				}
			}
		}
	}
}

func TestEvalOfBools(t *testing.T) {
	all := []bool{false, true}
	for _, a := range all {
		x := val(vars.Flag(a))
		comes(t, "not", op(5, x), nil, vars.Flag(!a), nil)
		for _, b := range all {
			y := val(vars.Flag(b))
			comes(t, "or", op(3, x, y), nil, vars.Flag(a || b), nil)
			comes(t, "and", op(4, x, y), nil, vars.Flag(a && b), nil)
			comes(t, "==", op(6, x, y), nil, vars.Flag(a == b), nil)
			comes(t, "!=", op(7, x, y), nil, vars.Flag(a != b), nil)
		}
	}
}

func TestEvalLooksNoFurtherThanItHasTo(t *testing.T) {
	for s, want := range map[string]bool{"t or x": true, "f and x": false, "t or 1 / 0 == 1": true, "f and 1 / z == 1": false, "t or n": true, "f and n": false, "f or t or x": true, "t and f and x": false, "f and x or t": true, "t or x and x": true, "not (t or x)": false, "t or not n": true} {
		comes(t, s, parsed(t, s), some(), vars.Flag(want), nil)
	}
	for s, fault := range map[string]error{"f or x": api.ErrNone, "t and x": api.ErrNone, "f or n": api.ErrType, "t and s": api.ErrType, "f or 1 / 0 == 1": api.ErrZero, "t and z % z == 1": api.ErrZero, "n or t": api.ErrType, "z and t": api.ErrType, "x or t": api.ErrNone, "x and f": api.ErrNone, "1 / 0 == 1 or t": api.ErrZero, "f or f or x": api.ErrNone, "t and t and n": api.ErrType} {
		comes(t, s, parsed(t, s), some(), api.Value{}, fault)
	}
}

func TestEvalsFirstFault(t *testing.T) {
	for s, fault := range map[string]error{
		"x": api.ErrNone, "not x": api.ErrNone, "-x": api.ErrNone, "x + 1": api.ErrNone, "1 + x": api.ErrNone, "x == 1": api.ErrNone, "1 < x": api.ErrNone,
		"not n": api.ErrType, "not s": api.ErrType, "-s": api.ErrType, "-t": api.ErrType, "--t": api.ErrType, `-("x")`: api.ErrType,
		"n / 0": api.ErrZero, "n % z": api.ErrZero, "0 / 0": api.ErrZero, "n / (z * 5)": api.ErrZero, "-(n / z)": api.ErrZero, "not (1 / 0)": api.ErrZero,
		"s / 0": api.ErrType, "t % 0": api.ErrType, "0 / s": api.ErrType, "n / f": api.ErrType,
		// A fault of a part is there ahead of the whole's.
		"s - x": api.ErrNone, "t < x": api.ErrNone, "n == x": api.ErrNone, "s / (1 / 0)": api.ErrZero, "s + 1 / 0": api.ErrZero,
		// From the left.
		"x + 1 / 0": api.ErrNone, "1 / 0 + x": api.ErrZero, "(s - s) + x": api.ErrType, "x + (s - s)": api.ErrNone, "(n + s) / (1 / 0)": api.ErrType, "(1 / 0) - (s - s)": api.ErrZero, "(1 / 0 == x) == x": api.ErrZero, "not t == s": api.ErrType,
	} {
		comes(t, s, parsed(t, s), some(), api.Value{}, fault)
	}
}

func TestEvalOfWhatIsNoExpression(t *testing.T) {
	for _, o := range []int{0, -1, -17, 18, 19, 100, math.MaxInt, math.MinInt} {
		for n := range 4 {
			comes(t, "another Op", op(o, slices.Repeat([]Expr{yes()}, n)...), nil, api.Value{}, api.ErrType)
			comes(t, "another Op", op(o, slices.Repeat([]Expr{nam("x")}, n)...), nil, api.Value{}, api.ErrType)
		}
	}
	for o := 3; o <= 17; o++ {
		for _, part := range []Expr{yes(), no(), num(1), wrd("x")} {
			comes(t, "no parts", op(o), nil, api.Value{}, api.ErrType)
			comes(t, "no parts", Expr{Op: o, V: part.V, Name: "n", L: []Expr{}}, some(), api.Value{}, api.ErrType)
			if o != 5 && o != 17 {
				comes(t, "one part", op(o, part), nil, api.Value{}, api.ErrType)
			}
		}
	}
	comes(t, "more parts", op(12, num(1), num(2), nam("x")), nil, vars.Number(3), nil)
	comes(t, "more parts", op(5, no(), nam("x")), nil, vars.Flag(true), nil)
	comes(t, "inside", op(5, op(0)), nil, api.Value{}, api.ErrType)
	comes(t, "inside", op(12, nam("x"), op(12)), nil, api.Value{}, api.ErrNone)
	comes(t, "not looked at", op(3, yes(), op(99)), nil, vars.Flag(true), nil)
	for _, kind := range []int{0, 4, -1} {
		v := val(api.Value{Kind: kind, N: 1})
		for _, o := range []int{3, 4, 5, 8, 9, 10, 11, 12, 13, 14, 15, 16, 17} {
			comes(t, "a value of no Kind", op(o, v, v), nil, api.Value{}, api.ErrType)
		}
	}
}

func TestHolds(t *testing.T) {
	for s, want := range map[string]bool{"1 < 2 and not false": true, "t": true, "f": false, "true": true, "false": false, "n == 7": true, "n != 7": false, `s + "d" >= "abcd"`: true, "t or x": true, "not t": false, "f or f": false, "(n > 5) == t": true} {
		if got, err := Holds(s, some()); got != want || err != nil {
			t.Errorf("%q: %v, %v", s, got, err)
		}
	}
	for s, fault := range map[string]error{"n": api.ErrType, "s": api.ErrType, "1": api.ErrType, "0": api.ErrType, `"true"`: api.ErrType, "n + 1": api.ErrType, "x": api.ErrNone, "not x": api.ErrNone, "t and x": api.ErrNone, "n / z": api.ErrZero, "n / z == 1": api.ErrZero, "t < t": api.ErrType} {
		if got, err := Holds(s, some()); got || err != fault {
			t.Errorf("%q: %v, %v, not %v", s, got, err, fault)
		}
	}
	for _, k := range []struct {
		s   string
		pos int
		err error
	}{{"", 0, api.ErrSyntax}, {"t or", 4, api.ErrSyntax}, {"x x", 2, api.ErrSyntax}, {"n =", 2, api.ErrSyntax}, {xs(81, "t"), 80, api.ErrLong}, {xs(13, "("), 12, api.ErrDeep}} {
		got, err := Holds(k.s, some())
		at, is := err.(*api.At)
		if got || !is || at.Pos != k.pos || at.Err != k.err || !errors.Is(err, k.err) {
			t.Errorf("%q: %v, %v, not %d, %v", k.s, got, err, k.pos, k.err)
		}
	}
	if got, err := Holds("t", nil); got || err != api.ErrNone {
		t.Errorf("without variables: %v, %v", got, err)
	}
}

func TestTextOfKnownOnes(t *testing.T) {
	for s, want := range map[string]string{
		"a": "a", "(((a)))": "a", "1": "1", "007": "7", "999999999": "999999999", "true": "true", "false": "false", `""`: `""`, `" a  "`: `" a  "`, `"(not a)"`: `"(not a)"`,
		"a or b": "(a or b)", "a and b": "(a and b)", "not a": "(not a)", "a==b": "(a == b)", "a!=b": "(a != b)", "a<b": "(a < b)", "a<=b": "(a <= b)", "a>b": "(a > b)", "a>=b": "(a >= b)",
		"a+b": "(a + b)", "a-b": "(a - b)", "a*b": "(a * b)", "a/b": "(a / b)", "a%b": "(a % b)", "-a": "(-a)", "- 1": "(-1)", "--a": "(-(-a))", "-(a*b)": "(-(a * b))", "-(not a)": "(-(not a))",
		"not not a": "(not (not a))", "not true": "(not true)", `not "x"`: `(not "x")`,
		"a or b and not c": "(a or (b and (not c)))", "(a or b) and c": "((a or b) and c)", "a-b-c": "((a - b) - c)", "a-(b-c)": "(a - (b - c))",
		// A sign may not stand ahead of these by itself.
		`-("x")`: `(-("x"))`, "-(true)": "(-(true))", "-((false))": "(-(false))", `--("")`: `(-(-("")))`,
	} {
		if got := Text(parsed(t, s)); got != want {
			t.Errorf("%q: %q, not %q", s, got, want)
		}
	}
}

// deepest is how many brackets, nots and signs at most the parts of Text's e stand in.
func deepest(e Expr) int {
	n := 0
	for _, part := range e.L {
		n = max(n, deepest(part))
	}
	switch {
	case e.Op == 17 && e.L[0].Op == 1 && e.L[0].V.Kind != api.Int:
		return 3
	case e.Op == 5 || e.Op == 17:
		return n + 2
	case e.Op > 2:
		return n + 1
	}
	return 0
}

func TestTextIsParsedBack(t *testing.T) {
	x := number(362436069)
	back, deep := 0, 0
	for range 40000 {
		e := tree(&x, x.below(7))
		s := written(e, 0)
		if _, err := Parse(s); err != nil {
			continue
		}
		s = Text(e)
		switch {
		case len(s) > 80:
		case deepest(e) > 12:
			deep++
			if _, err := Parse(s); !errors.Is(err, api.ErrDeep) {
				t.Errorf("%q: %v", s, err)
			}
		default:
			back++
			tells(t, s, e)
		}
	}
	if back < 10000 {
		t.Errorf("%d only, %d too deep", back, deep)
	}
	// At the edges of how long and how deep it may be.
	for _, s := range []string{`"` + xs(78, "x") + `"`, xs(24, "a"), xs(4, "not ") + "-(a)", "-(-(-(-(-(-1)))))", xs(5, "not ") + "(a or b)", xs(12, "(") + "a" + xs(12, ")"), "a+b+c+d+e+f+g+h+i"} {
		e := parsed(t, s)
		tells(t, Text(e), e)
	}
}

func TestTextOfWhatWasNotParsed(t *testing.T) {
	for _, e := range []Expr{{}, op(18, yes(), no()), op(-1), op(3), op(3, yes()), op(5), op(17), op(16, num(1)), val(api.Value{Kind: 9}), val(api.Value{})} {
		if got := Text(e); got != "" {
			t.Errorf("%v: %q", e, got)
		}
	}
	if got := Text(num(math.MinInt64)); got != "-9223372036854775808" {
		t.Errorf("%q", got)
	}
}

func TestNames(t *testing.T) {
	for s, want := range map[string][]string{
		"1": nil, "true or false": nil, `"a" + "b" == "c"`: nil,
		"a": {"a"}, "-a": {"a"}, "not a": {"a"}, "a + a": {"a"}, "b + a": {"b", "a"}, "a or b or a or c": {"a", "b", "c"},
		"c * (b - a) == -(a + d) and not e": {"c", "b", "a", "d", "e"}, "z == 1 or y == 2 and x == 3 or z": {"z", "y", "x"}, `ordinary + "x" == "ordinary" + a_1`: {"ordinary", "a_1"}, "t or f": {"t", "f"},
	} {
		if got := Names(parsed(t, s)); !slices.Equal(got, want) {
			t.Errorf("%q: %q, not %q", s, got, want)
		}
	}
	var parts []Expr
	var want []string
	for k := range 30000 {
		s := strings.Repeat("x", 1+k%200) + string(rune('a'+k%26))
		parts = append(parts, nam(s))
		if !slices.Contains(want, s) {
			want = append(want, s)
		}
	}
	if got := Names(op(3, parts...)); !slices.Equal(got, want) {
		t.Errorf("of many: %d, not %d", len(got), len(want))
	}
	if got := Names(Expr{}); len(got) > 0 {
		t.Errorf("of nothing: %q", got)
	}
	e := parsed(t, "a or b")
	first, second := Names(e), Names(e)
	_ = append(first[:1], "more", "still")
	first[0] = "scribbled"
	if !slices.Equal(second, []string{"a", "b"}) || !slices.Equal(Names(e), second) {
		t.Errorf("two answers share memory: %q", second)
	}
}

func TestCallsChangeNothingHandedIn(t *testing.T) {
	s := `n * 2 == 14 and (not f or s + "d" > "abc") and -n < 0`
	e, want := parsed(t, s), parsed(t, s)
	l := append(some(), api.Var{Name: "x", Value: vars.Number(1)})
	for range 2 {
		comes(t, s, e, l[:5], vars.Flag(true), nil)
		Text(e)
		Names(e)
		Holds(s, l[:5])
		comes(t, "what lies behind", nam("x"), l[:5], api.Value{}, api.ErrNone)
	}
	if !sameTree(e, want) || !slices.Equal(l[:5], some()) || l[5].Name != "x" {
		t.Error("an argument is changed")
	}
}

func TestOfManyInOneAnother(t *testing.T) {
	e, left := op(5, nam("t")), op(4, nam("t"), yes())
	for range 1<<16 - 2 {
		e, left = op(5, e), op(4, left, yes())
	}
	comes(t, "nots", e, some(), vars.Flag(false), nil)
	comes(t, "ands", left, some(), vars.Flag(true), nil)
	for _, x := range []Expr{e, left} {
		if s := Text(x); strings.Count(s, "(") != 1<<16-1 || len(s) < 1<<18 {
			t.Errorf("%d bytes", len(s))
		}
		if l := Names(x); !slices.Equal(l, []string{"t"}) {
			t.Error(l)
		}
	}
}

// TestOfAnyExpression checks that the calls end, whatever they are given, and tell nothing beside an error.
func TestOfAnyExpression(t *testing.T) {
	x := number(521288629)
	value := func() api.Value {
		return api.Value{Kind: x.below(6) - 1, N: int64(x.below(5) - 2), S: xs(x.below(3), "\"")}
	}
	var build func(deep int) Expr
	build = func(deep int) Expr {
		e := Expr{Op: x.below(21) - 1, V: value(), Name: xs(x.below(3), "a")}
		for range min(deep, x.below(4)) {
			e.L = append(e.L, build(deep-1))
		}
		return e
	}
	for range 30000 {
		l := []api.Var{{Name: "a", Value: value()}, {Name: "", Value: value()}, {Name: "a", Value: value()}}
		e := build(5)
		v, err := Eval(e, l[:x.below(4)])
		if err != nil && (v != api.Value{} || err != api.ErrNone && err != api.ErrType && err != api.ErrZero) {
			t.Fatalf("%v: %v, %v", e, v, err)
		}
		Text(e)
		Names(e)
	}
}
