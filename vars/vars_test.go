package vars

import (
	"bytes"
	"errors"
	"math"
	"slices"
	"sort"
	"strconv"
	"strings"
	"testing"

	"leasehold/api"
	"leasehold/num"
)

// nv, fv and wv are variables of a number, a flag and a word.
func nv(name string, n int64) api.Var  { return api.Var{Name: name, Value: Number(n)} }
func fv(name string, f bool) api.Var   { return api.Var{Name: name, Value: Flag(f)} }
func wv(name string, s string) api.Var { return api.Var{Name: name, Value: Word(s)} }

// of is a variable of any value at all.
func of(name string, kind int, n int64, s string) api.Var {
	return api.Var{Name: name, Value: api.Value{Kind: kind, N: n, S: s}}
}

// many is n variables whose names rise.
func many(n int) []api.Var {
	var l []api.Var
	for k := range n {
		l = append(l, nv("v"+strconv.Itoa(1000000+k), int64(k)))
	}
	return l
}

// xs is n bytes of x.
func xs(n int) string { return strings.Repeat("x", n) }

// wrong is an error as a test wants it: around a place, or alone where pos is -1.
type wrong struct {
	pos int
	err error
}

// is tells whether err is just as wanted: a sentinel alone, or a *api.At right around it.
func (w wrong) is(err error) bool {
	if w.pos < 0 {
		return err == w.err
	}
	at, ok := err.(*api.At)
	return ok && at.Pos == w.pos && at.Err == w.err && errors.Is(err, w.err)
}

// scribble writes over all of a list's memory, its spare room too.
func scribble(l []api.Var) {
	l = l[:cap(l)]
	for k := range l {
		l[k] = wv("scribbled", "over")
	}
}

// roomy is l with spare room behind it, and all of that memory.
func roomy(l []api.Var) (part, all []api.Var) {
	all = append(slices.Clone(l), nv("spare", 1), nv("room", 2), nv("behind", 3))
	return all[:len(l)], all
}

// number is a source of numbers in no plain order, the same each time.
type number uint32

func (x *number) below(n int) int {
	*x ^= *x << 13
	*x ^= *x >> 17
	*x ^= *x << 5
	return int(uint32(*x) >> 8 % uint32(n))
}

// P4.1

func TestNameOfEachByte(t *testing.T) {
	const right = "abcdefghijklmnopqrstuvwxyz0123456789_-"
	for x := range 256 {
		c := string([]byte{byte(x)})
		want := strings.Contains(right, c)
		for _, s := range []string{c, c + "a", "a" + c, "a" + c + "b", xs(23) + c, c + xs(23), xs(12) + c + xs(11)} {
			if Name(s) != want {
				t.Errorf("%q: %t", s, !want)
			}
		}
		if Name(xs(24) + c) {
			t.Errorf("%q is a name of 25 bytes", xs(24)+c)
		}
	}
}

func TestNameOfEachLength(t *testing.T) {
	for n := range 100 {
		if want := n >= 1 && n <= 24; Name(xs(n)) != want {
			t.Errorf("%d bytes: %t", n, !want)
		}
	}
	for _, s := range []string{"\u00e9", "a\u00e9", "\uff41", "a b", " a", "a ", "a\n", "a\x00", "a.b", "a/b"} {
		if Name(s) {
			t.Errorf("%q is a name", s)
		}
	}
}

func TestValues(t *testing.T) {
	for _, n := range []int64{0, 1, -1, 2, math.MaxInt64, math.MinInt64} {
		if got := Number(n); got != (api.Value{Kind: api.Int, N: n}) {
			t.Errorf("the number %d: %v", n, got)
		}
	}
	if got := Flag(true); got != (api.Value{Kind: api.Bool, N: 1}) {
		t.Errorf("yes: %v", got)
	}
	if got := Flag(false); got != (api.Value{Kind: api.Bool}) {
		t.Errorf("no: %v", got)
	}
	for _, s := range []string{"", "a", "\xff\x00", xs(60), xs(61)} {
		if got := Word(s); got != (api.Value{Kind: api.Text, S: s}) {
			t.Errorf("the word %q: %v", s, got)
		}
	}
}

func TestCheckTakes(t *testing.T) {
	right := [][]api.Var{
		nil,
		{},
		{nv("a", 0)}, {nv("a", 1)}, {nv("a", -1)}, {nv("a", math.MaxInt64)}, {nv("a", math.MinInt64)},
		{fv("a", true)}, {fv("a", false)},
		{wv("a", "")}, {wv("a", "a")}, {wv("a", "\xff\x00\n")}, {wv("a", xs(60))},
		{nv(xs(24), 0)},
		{nv("-", 0), nv("0", 0), nv("9", 0), nv("_", 0), nv("a", 0), nv("z", 0)},
		{nv("a", 0), nv("a-", 0), nv("a-z", 0), nv("a0", 0), nv("aa", 0), nv("b", 0)},
		{nv("a", 1), fv("b", true), wv("c", "x"), nv("d", 1)},
		many(11), many(12),
	}
	for k, l := range right {
		if err := Check(l); err != nil {
			t.Errorf("list %d: %v", k, err)
		}
	}
}

// alone are variables of which just one thing is amiss.
var alone = []struct {
	v   api.Var
	err error
}{
	{nv("", 1), api.ErrName}, {nv("A", 1), api.ErrName}, {nv("b ", 1), api.ErrName}, {nv("b\u00e9", 1), api.ErrName},
	{nv("b"+xs(24), 1), api.ErrName}, {wv("b.", ""), api.ErrName}, {fv("b\x00", true), api.ErrName},
	{of("b", 0, 0, ""), api.ErrType}, {of("b", 4, 0, ""), api.ErrType}, {of("b", -1, 0, ""), api.ErrType},
	{of("b", math.MaxInt, 0, ""), api.ErrType}, {of("b", math.MinInt, 0, ""), api.ErrType}, {of("b", 1<<32+1, 0, ""), api.ErrType},
	{of("b", api.Bool, 2, ""), api.ErrType}, {of("b", api.Bool, -1, ""), api.ErrType},
	{of("b", api.Bool, math.MinInt64, ""), api.ErrType}, {of("b", api.Bool, 1<<32, ""), api.ErrType},
	{of("b", api.Bool, 0, "x"), api.ErrType}, {of("b", api.Bool, 1, "x"), api.ErrType}, {of("b", api.Bool, 1, "\x00"), api.ErrType},
	{of("b", api.Int, 0, "x"), api.ErrType}, {of("b", api.Int, 7, "\x00"), api.ErrType},
	{of("b", api.Text, 1, ""), api.ErrType}, {of("b", api.Text, -1, "x"), api.ErrType}, {of("b", api.Text, 1<<32, "x"), api.ErrType},
	{wv("b", xs(61)), api.ErrLong}, {wv("b", xs(5000)), api.ErrLong}, {wv("b", strings.Repeat("\u00e9", 31)), api.ErrLong},
	// What the Kind has not comes ahead of what is too long.
	{of("b", api.Int, 1, xs(61)), api.ErrType}, {of("b", api.Bool, 1, xs(61)), api.ErrType},
	{of("b", api.Text, 1, xs(61)), api.ErrType}, {of("b", 0, 0, xs(61)), api.ErrType}, {of("b", 4, 0, xs(61)), api.ErrType},
	{of("B", 0, 0, ""), api.ErrName}, {of("", api.Bool, 2, ""), api.ErrName}, {wv("B", xs(61)), api.ErrName}, {of("", 0, 0, ""), api.ErrName},
}

func TestCheckOfOneThatIsAmiss(t *testing.T) {
	for k, a := range alone {
		ahead := []api.Var{nv("-1", 1), fv("-2", true), wv("-3", "x")}
		for n := range len(ahead) + 1 {
			l := append(slices.Clone(ahead[:n]), a.v)
			if err := Check(l); !(wrong{n, a.err}).is(err) {
				t.Errorf("%d behind %d others: %v, not %v", k, n, err, a.err)
			}
			l = append(l, nv("z", 1), nv("a", 1), nv("", 1))
			if err := Check(l); !(wrong{n, a.err}).is(err) {
				t.Errorf("%d behind %d others, with faults behind: %v, not %v", k, n, err, a.err)
			}
		}
	}
}

func TestCheckOfNamesThatDoNotRise(t *testing.T) {
	pairs := [][2]string{
		{"a", "a"}, {"b", "a"}, {"a0", "a"}, {"a-", "a"}, {"aa", "a"}, {"b", "aa"}, {"a", "_"}, {"_", "9"},
		{"0", "-"}, {"a", "9"}, {"9", "10"}, {"z", "0"}, {xs(24), xs(24)}, {xs(24), xs(23)}, {"x_y", "x-y"},
	}
	for _, p := range pairs {
		if err := Check([]api.Var{nv(p[0], 1), nv(p[1], 1)}); !(wrong{1, api.ErrTwice}).is(err) {
			t.Errorf("%q ahead of %q: %v", p[0], p[1], err)
		}
		if err := Check([]api.Var{nv("-", 1), nv(p[0], 1), fv(p[1], true), nv("", 1)}); !(wrong{2, api.ErrTwice}).is(err) {
			t.Errorf("%q ahead of %q, third: %v", p[0], p[1], err)
		}
	}
	// It is held against the one ahead alone, and comes behind all else that is amiss with it.
	if err := Check([]api.Var{nv("a", 1), nv("c", 1), nv("b", 1), nv("a", 1)}); !(wrong{2, api.ErrTwice}).is(err) {
		t.Error(err)
	}
	last := many(12)
	last[11].Name = last[10].Name
	if err := Check(last); !(wrong{11, api.ErrTwice}).is(err) {
		t.Error(err)
	}
	for _, a := range alone {
		if err := Check([]api.Var{nv("z", 1), a.v}); !(wrong{1, a.err}).is(err) {
			t.Errorf("%v behind a greater one: %v, not %v", a.v, err, a.err)
		}
	}
}

func TestCheckOfTooMany(t *testing.T) {
	for _, n := range []int{13, 14, 100} {
		if err := Check(many(n)); err != api.ErrMany {
			t.Errorf("%d: %v", n, err)
		}
	}
	if err := Check(make([]api.Var, 13)); err != api.ErrMany {
		t.Errorf("13 that are amiss: %v", err)
	}
	if err := Check(make([]api.Var, 12)); !(wrong{0, api.ErrName}).is(err) {
		t.Errorf("12 that are amiss: %v", err)
	}
}

func TestCheckChangesNothing(t *testing.T) {
	part, all := roomy([]api.Var{nv("a", 1), wv("b", "x"), nv("b", 2)})
	before := slices.Clone(all)
	first := Check(part)
	second := Check(part)
	if !slices.Equal(all, before) {
		t.Error("Check wrote into its argument, or behind it")
	}
	first.(*api.At).Pos, first.(*api.At).Err = 9, api.ErrFull
	if third := Check(part); !(wrong{2, api.ErrTwice}).is(second) || !(wrong{2, api.ErrTwice}).is(third) {
		t.Errorf("two errors share their memory: %v, %v", second, third)
	}
	if err := Check(all[:2]); err != nil {
		t.Errorf("what lies behind is looked at: %v", err)
	}
}

func TestGet(t *testing.T) {
	l := []api.Var{nv("a", -3), fv("b", false), wv("c", "word"), fv("d", true)}
	for _, v := range l {
		if got, is := Get(l, v.Name); got != v.Value || !is {
			t.Errorf("%q: %v, %t", v.Name, got, is)
		}
	}
	for _, name := range []string{"", "A", "aa", "e", "-", "a ", xs(30)} {
		if got, is := Get(l, name); got != (api.Value{}) || is {
			t.Errorf("%q: %v, %t", name, got, is)
		}
	}
	for _, none := range [][]api.Var{nil, {}, l[:0]} {
		if got, is := Get(none, "a"); got != (api.Value{}) || is {
			t.Errorf("of nothing: %v, %t", got, is)
		}
	}
	if got, is := Get(l[:2], "c"); got != (api.Value{}) || is {
		t.Errorf("behind the length: %v, %t", got, is)
	}
}

func TestGetOfWhatCheckDoesNotTake(t *testing.T) {
	l := []api.Var{nv("m", 1), nv("a", 2), nv("z", 3), nv("a", 4), nv("", 5), nv("m", 6), of("no name", 9, 8, "x")}
	want := map[string]api.Value{"m": Number(1), "a": Number(2), "z": Number(3), "": Number(5), "no name": {Kind: 9, N: 8, S: "x"}}
	for name, v := range want {
		if got, is := Get(l, name); got != v || !is {
			t.Errorf("%q: %v, %t", name, got, is)
		}
	}
	big := many(5000)
	if got, is := Get(big, big[4999].Name); got != Number(4999) || !is {
		t.Errorf("the last one of many: %v, %t", got, is)
	}
}

// sets checks what Set answers.
func sets(t *testing.T, l, more, want []api.Var) {
	t.Helper()
	if got, err := Set(l, more...); err != nil || !slices.Equal(got, want) {
		t.Errorf("%v with %v: %v, %v, not %v", l, more, got, err, want)
	}
}

// refuses checks that Set answers an error, and nothing beside it.
func refuses(t *testing.T, l, more []api.Var, w wrong) {
	t.Helper()
	if got, err := Set(l, more...); !w.is(err) || len(got) > 0 {
		t.Errorf("%v with %v: %v, %v, not %v at %d", l, more, got, err, w.err, w.pos)
	}
}

func TestSet(t *testing.T) {
	l := []api.Var{nv("b", 1), wv("d", "x"), fv("f", true)}
	sets(t, l, nil, l)
	sets(t, nil, nil, nil)
	sets(t, []api.Var{}, []api.Var{}, nil)
	sets(t, nil, []api.Var{nv("a", 1)}, []api.Var{nv("a", 1)})
	sets(t, l, []api.Var{nv("a", 9)}, []api.Var{nv("a", 9), l[0], l[1], l[2]})
	sets(t, l, []api.Var{nv("c", 9)}, []api.Var{l[0], nv("c", 9), l[1], l[2]})
	sets(t, l, []api.Var{nv("e", 9)}, []api.Var{l[0], l[1], nv("e", 9), l[2]})
	sets(t, l, []api.Var{nv("g", 9)}, []api.Var{l[0], l[1], l[2], nv("g", 9)})
	// In the place of the one of its name, of whatever Kind that was.
	sets(t, l, []api.Var{wv("b", "y")}, []api.Var{wv("b", "y"), l[1], l[2]})
	sets(t, l, []api.Var{fv("d", false)}, []api.Var{l[0], fv("d", false), l[2]})
	sets(t, l, []api.Var{nv("f", 0)}, []api.Var{l[0], l[1], nv("f", 0)})
	// Byte by byte.
	sets(t, l, []api.Var{nv("bb", 1), nv("b-", 2), nv("b0", 3), nv("-", 4), nv("_", 5)},
		[]api.Var{nv("-", 4), nv("_", 5), l[0], nv("b-", 2), nv("b0", 3), nv("bb", 1), l[1], l[2]})
}

func TestSetOfManyInTheirOrder(t *testing.T) {
	sets(t, nil, []api.Var{nv("c", 1), nv("a", 2), nv("b", 3)}, []api.Var{nv("a", 2), nv("b", 3), nv("c", 1)})
	sets(t, nil, []api.Var{nv("a", 1), nv("a", 2), nv("a", 3)}, []api.Var{nv("a", 3)})
	sets(t, []api.Var{nv("a", 0)}, []api.Var{nv("a", 1), nv("b", 2), nv("a", 3), nv("b", 4)}, []api.Var{nv("a", 3), nv("b", 4)})
	// What doesn't last is not looked at.
	sets(t, nil, []api.Var{of("a", 9, 0, ""), nv("a", 3)}, []api.Var{nv("a", 3)})
	sets(t, []api.Var{of("a", 9, 0, "")}, []api.Var{nv("a", 3)}, []api.Var{nv("a", 3)})
}

func TestSetRefuses(t *testing.T) {
	for _, a := range alone {
		refuses(t, nil, []api.Var{a.v}, wrong{0, a.err})
		refuses(t, []api.Var{nv("y", 1), nv("z", 1)}, []api.Var{a.v}, wrong{0, a.err})
		if a.v.Name != "" {
			refuses(t, []api.Var{nv("-", 1), nv("0", 1)}, []api.Var{nv("-1", 1), a.v, nv("z", 1)}, wrong{3, a.err})
		}
	}
	l := []api.Var{nv("b", 1), nv("d", 2)}
	// Of several the first of what comes of it is told, not the first of more.
	refuses(t, l, []api.Var{of("e", 0, 0, ""), wv("c", xs(61)), nv("b!", 1)}, wrong{1, api.ErrName})
	refuses(t, l, []api.Var{of("e", 0, 0, ""), wv("c", xs(61))}, wrong{1, api.ErrLong})
	// What is amiss with l stays amiss.
	refuses(t, []api.Var{nv("b", 1), nv("a", 1)}, nil, wrong{1, api.ErrTwice})
	refuses(t, []api.Var{nv("b", 1), nv("b", 2)}, []api.Var{nv("a", 1)}, wrong{2, api.ErrTwice})
	refuses(t, []api.Var{nv("b", 1), nv("b", 2)}, []api.Var{nv("b", 3)}, wrong{1, api.ErrTwice})
	refuses(t, []api.Var{of("b", 9, 9, "")}, []api.Var{nv("a", 1)}, wrong{1, api.ErrType})
}

func TestSetGoesAheadOfTheFirstGreaterOne(t *testing.T) {
	// What is told of a list whose names do not rise shows where one was put.
	mixed := []api.Var{nv("m", 1), nv("c", 2), nv("x", 3)}
	refuses(t, mixed, []api.Var{nv("d", 1)}, wrong{2, api.ErrTwice})                           // d m c x
	refuses(t, mixed, []api.Var{nv("p", 1)}, wrong{1, api.ErrTwice})                           // m c p x
	refuses(t, mixed, []api.Var{nv("p", 1), nv("o", 2), nv("a", 3)}, wrong{2, api.ErrTwice})   // a m c o p x
	refuses(t, mixed, []api.Var{wv("c", xs(61))}, wrong{1, api.ErrLong})                       // m c x
	refuses(t, []api.Var{nv("m", 1), nv("c", 2), nv("m", 3)}, many(1), wrong{1, api.ErrTwice}) // m c m v
}

func TestSetOfTooMany(t *testing.T) {
	l := many(12)
	sets(t, l, nil, l)
	sets(t, l[:11], l[11:], l)
	sets(t, nil, l, l)
	changed := slices.Clone(l)
	changed[5].Value = Word("x")
	sets(t, l, changed[5:6], changed)
	refuses(t, l, []api.Var{nv("a", 1)}, wrong{-1, api.ErrMany})
	refuses(t, l, []api.Var{nv("z", 1)}, wrong{-1, api.ErrMany})
	refuses(t, l, []api.Var{nv("", 1)}, wrong{-1, api.ErrMany})
	refuses(t, nil, many(13), wrong{-1, api.ErrMany})
	refuses(t, many(13), nil, wrong{-1, api.ErrMany})
	refuses(t, many(13), many(1), wrong{-1, api.ErrMany})
	refuses(t, make([]api.Var, 13), many(1), wrong{-1, api.ErrMany})
	refuses(t, []api.Var{nv("", 1)}, many(12), wrong{-1, api.ErrMany})
}

func TestSetOfVeryMany(t *testing.T) {
	big := many(300000)
	slices.Reverse(big)
	if got, err := Set(nil, big...); err != api.ErrMany || len(got) > 0 {
		t.Errorf("%d, %v", len(got), err)
	}
	if got, err := Set(big, big...); err != api.ErrMany || len(got) > 0 {
		t.Errorf("%d, %v", len(got), err)
	}
	same := make([]api.Var, 300000)
	for k := range same {
		same[k] = nv("v"+strconv.Itoa(k%12+10), int64(k))
	}
	if got, err := Set(nil, same...); err != nil || !slices.Equal(got, same[300000-12:]) {
		t.Errorf("%v, %v", got, err)
	}
}

func TestSetOfAnyGoodOnes(t *testing.T) {
	x := number(99)
	some := func(n int) []api.Var {
		var l []api.Var
		for range n {
			name := string("-09_az"[x.below(6)])
			if x.below(2) == 0 {
				name += string("-09_az"[x.below(6)])
			}
			l = append(l, nv(name, int64(x.below(1000))))
		}
		return l
	}
	for range 3000 {
		first, more := some(x.below(6)), some(x.below(7))
		wanted := map[string]api.Value{}
		for _, v := range slices.Concat(first, more) {
			wanted[v.Name] = v.Value
		}
		var want []api.Var
		for name, v := range wanted {
			want = append(want, api.Var{Name: name, Value: v})
		}
		sort.Slice(want, func(i, j int) bool { return want[i].Name < want[j].Name })
		l, err := Set(nil, first...)
		if err != nil {
			t.Fatal(err)
		}
		sets(t, l, more, want)
	}
}

func TestSetChangesNothingHandedIn(t *testing.T) {
	for _, more := range [][]api.Var{nil, {nv("b", 9)}, {nv("a", 9)}, {nv("z", 8), nv("c", 9), nv("z", 7)}, {nv("!", 9), nv("b", 9)}} {
		l, lAll := roomy([]api.Var{nv("b", 1), nv("d", 2)})
		m, mAll := roomy(more)
		lBefore, mBefore := slices.Clone(lAll), slices.Clone(mAll)
		Set(l, m...)
		Set(l[:0], m...)
		Set(m[:0], l...)
		if !slices.Equal(lAll, lBefore) || !slices.Equal(mAll, mBefore) {
			t.Errorf("with %v: an argument is changed, or what lies behind it", more)
		}
	}
}

func TestSetHandsOutNewMemory(t *testing.T) {
	for _, more := range [][]api.Var{nil, {nv("b", 9)}, {nv("a", 9), nv("e", 8)}} {
		for _, n := range []int{0, 2} {
			l, lAll := roomy([]api.Var{nv("b", 1), nv("d", 2)}[:n])
			m, mAll := roomy(more)
			lBefore, mBefore := slices.Clone(lAll), slices.Clone(mAll)
			first, err := Set(l, m...)
			if err != nil {
				t.Fatal(err)
			}
			second, _ := Set(l, m...)
			want := slices.Clone(second)
			scribble(first)
			_ = append(first, nv("more", 1), nv("more", 2))
			if !slices.Equal(lAll, lBefore) || !slices.Equal(mAll, mBefore) || !slices.Equal(second, want) {
				t.Errorf("%v: what Set hands out shares memory", more)
			}
			scribble(lAll)
			scribble(mAll)
			if !slices.Equal(second, want) {
				t.Errorf("%v: Set keeps what was handed in", more)
			}
		}
	}
}

func TestSame(t *testing.T) {
	l := []api.Var{nv("a", 1), fv("b", true), wv("c", "x")}
	if !Same(l, l) || !Same(l, slices.Clone(l)) || !Same(nil, nil) || !Same(nil, []api.Var{}) || !Same(l[:0], nil) {
		t.Error("the same are not the same")
	}
	others := [][]api.Var{
		nil, l[:1], l[:2], l[1:], {l[0], l[2], l[1]}, {l[0], l[0], l[1], l[2]}, {l[0], l[1], l[2], l[2]},
		{nv("b", 1), l[1], l[2]}, {nv("a", 2), l[1], l[2]}, {fv("a", true), l[1], l[2]}, {of("a", api.Int, 1, "x"), l[1], l[2]},
		{l[0], nv("b", 1), l[2]}, {l[0], fv("b", false), l[2]}, {l[0], l[1], wv("c", "y")}, {l[0], l[1], wv("c", "")}, {l[0], l[1], nv("c", 0)},
	}
	for k, o := range others {
		if Same(l, o) || Same(o, l) {
			t.Errorf("%d: %v is the same as %v", k, o, l)
		}
	}
	amiss := []api.Var{of("", 9, 5, "x"), nv("z", 1), nv("a", 1)}
	if !Same(amiss, slices.Clone(amiss)) {
		t.Error("of those that Check does not take, the same are not the same")
	}
}

// P4.2

// wanted is a list's bytes as the chapter words them.
func wanted(l []api.Var) []byte {
	b := num.Put(nil, int64(len(l)))
	for _, v := range l {
		b = num.PutText(b, v.Name)
		b = num.Put(b, int64(v.Value.Kind))
		b = num.Put(b, v.Value.N)
		b = num.PutText(b, v.Value.S)
	}
	return b
}

// lists are some to be put and taken back: of each edge that the chapter names.
func lists() [][]api.Var {
	return [][]api.Var{
		nil,
		{nv("a", 0)}, {nv("a", 63), nv("b", -64)}, {nv("a", 64), nv("b", -65)}, {nv("a", math.MaxInt64), nv("b", math.MinInt64)},
		{fv("a", true), fv("b", false)},
		{wv("a", ""), wv("b", "x"), wv("c", "\x00\xff"), wv("d", xs(60))},
		{nv(xs(24), -1)},
		many(11), many(12),
		// No checks are made: these go in and out as they stand.
		{nv("", 1)}, {nv("No Name", 1)}, {nv("b", 1), nv("a", 1), nv("b", 2)},
		{of("a", api.Bool, 2, "x")}, {of("a", api.Text, -7, xs(60))}, {of("a", api.Int, math.MinInt64, "both")},
	}
}

func TestPutOfKnownLists(t *testing.T) {
	known := []struct {
		l    []api.Var
		want string
	}{
		{nil, "\x00"},
		{[]api.Var{}, "\x00"},
		{[]api.Var{nv("a", -1)}, "\x02\x02a\x02\x01\x00"},
		{[]api.Var{fv("b", true)}, "\x02\x02b\x04\x02\x00"},
		{[]api.Var{fv("b", false)}, "\x02\x02b\x04\x00\x00"},
		{[]api.Var{wv("cd", "xy")}, "\x02\x04cd\x06\x00\x04xy"},
		{[]api.Var{nv("a", 64), wv("b", "")}, "\x04\x02a\x02\x80\x01\x00\x02b\x06\x00\x00"},
	}
	for _, k := range known {
		if got := Put(nil, k.l); string(got) != k.want {
			t.Errorf("%v: %x, not %x", k.l, got, k.want)
		}
		if got := Put([]byte("ahead"), k.l); string(got) != "ahead"+k.want {
			t.Errorf("%v behind some: %x", k.l, got)
		}
	}
}

func TestPutOfEachList(t *testing.T) {
	unbound := [][]api.Var{many(13), many(200), {of(xs(25), 0, 1, xs(61))}, {of(xs(300), 4, 1, xs(9000))}, {of("a", -1, 0, "")}, {of("a", math.MaxInt, 0, "")}, {of("a", math.MinInt, 0, "")}}
	for k, l := range slices.Concat(lists(), unbound) {
		if got, want := Put([]byte{9, 0}, l), append([]byte{9, 0}, wanted(l)...); !bytes.Equal(got, want) {
			t.Errorf("list %d: %x, not %x", k, got, want)
		}
	}
}

func TestPutOfVeryMany(t *testing.T) {
	big := many(200000)
	got := Put(nil, big)
	if want := len(num.Put(nil, 200000)) + len(wanted(big[:1]))*50; len(got) < want {
		t.Errorf("%d bytes", len(got))
	}
	r := num.Read(got)
	if n := r.Int(0, math.MaxInt64); n != 200000 {
		t.Error(n)
	}
	for k, v := range big {
		name, kind, n, s := r.Text(99), r.Int(0, 9), r.Int(math.MinInt64, math.MaxInt64), r.Text(99)
		if v != of(name, int(kind), n, s) {
			t.Fatalf("%d: %q %d %d %q", k, name, kind, n, s)
		}
	}
	if r.Done() != nil {
		t.Error(r.Done())
	}
}

func TestPutChangesNothingHandedIn(t *testing.T) {
	b := []byte("some, and spare room for a variable")
	l, all := roomy([]api.Var{nv("a", 1), wv("b", "x")})
	before := slices.Clone(all)
	Put(b[:4], l)
	Put(b[:0], l)
	Put(b[:4], nil)
	Put(b, l)
	if string(b) != "some, and spare room for a variable" || !slices.Equal(all, before) {
		t.Error("an argument is changed, or what lies behind it")
	}
}

func TestPutHandsOutNewMemory(t *testing.T) {
	for _, l := range [][]api.Var{nil, {nv("a", 1)}, many(3)} {
		b := []byte("some, and spare room for a variable")
		first, second := Put(b[:4], l), Put(b[:4], l)
		want := append([]byte("some"), wanted(l)...)
		third := Put(second, l)
		for _, x := range [][]byte{first, third} {
			x = x[:cap(x)]
			for k := range x {
				x[k] ^= 0xFF
			}
		}
		if string(b) != "some, and spare room for a variable" || !bytes.Equal(second, want) {
			t.Errorf("%v: what Put hands out shares memory", l)
		}
	}
}

func TestTakeGivesBackWhatWasPut(t *testing.T) {
	for k, l := range lists() {
		r := num.Read(append(Put(nil, l), 7, 7))
		if got := Take(r); !slices.Equal(got, l) || r.Err() != nil || r.Left() != 2 {
			t.Errorf("list %d: %v, %v, %d left", k, got, r.Err(), r.Left())
		}
	}
}

func TestTakeOfManyBehindOneAnother(t *testing.T) {
	b := num.PutText(nil, "ahead")
	for _, l := range lists() {
		b = Put(b, l)
	}
	r := num.Read(b)
	r.Text(9)
	for k, l := range lists() {
		if got := Take(r); !slices.Equal(got, l) || r.Err() != nil {
			t.Errorf("list %d: %v, %v", k, got, r.Err())
		}
	}
	if r.Done() != nil {
		t.Error(r.Done())
	}
}

// takesNothing checks that Take answers nothing, and which error the reader then has.
func takesNothing(t *testing.T, what string, r *num.Reader, left int, err error) {
	t.Helper()
	if got := Take(r); len(got) > 0 || r.Err() != err || r.Left() != left {
		t.Errorf("%s: %v, %v, %d left, not %v, %d", what, got, r.Err(), r.Left(), err, left)
	}
}

func TestTakeOfWhatIsCut(t *testing.T) {
	for _, l := range lists() {
		b := Put(nil, l)
		for n := range b {
			r := num.Read(b[:n])
			if got := Take(r); len(got) > 0 || r.Err() != api.ErrEnd {
				t.Errorf("%v cut to %d: %v, %v", l, n, got, r.Err())
			}
		}
	}
	takesNothing(t, "nothing", num.Read(nil), 0, api.ErrEnd)
}

func TestTakesFaults(t *testing.T) {
	ahead := []api.Var{nv("a", 1), wv("b", "x")}
	for n := range len(ahead) + 1 {
		// begun is n good ones and the beginning of another one.
		begun := func(parts ...[]byte) []byte {
			b := num.Put(nil, int64(n+1))
			b = append(b, wanted(ahead[:n])[1:]...)
			return append(append(b, slices.Concat(parts...)...), 0, 0, 0)
		}
		name := func(s string) []byte { return num.PutText(nil, s) }
		whole := func(n ...int64) []byte { return num.Put(nil, n...) }
		faults := []struct {
			what string
			b    []byte
			err  error
			left int
		}{
			{"a name of 25 bytes", begun(name(xs(25))), api.ErrLong, 25 + 3},
			{"a name of 1,000 bytes that are not there", begun(whole(1000)), api.ErrLong, 3},
			{"a name of -1 bytes", begun(whole(-1)), api.ErrRange, 3},
			{"a Kind of 0", begun(name("c"), whole(0)), api.ErrRange, 3},
			{"a Kind of 4", begun(name("c"), whole(4)), api.ErrRange, 3},
			{"a Kind of -1", begun(name("c"), whole(-1)), api.ErrRange, 3},
			{"a Kind of 2^32 + 1", begun(name("c"), whole(1<<32+1)), api.ErrRange, 3},
			{"a Kind with a 0 behind", begun(name("c"), []byte{0x82, 0}), api.ErrShape, 3},
			{"an N that goes on", begun(name("c"), whole(1), bytes.Repeat([]byte{0xFF}, 11)), api.ErrShape, 1 + 3},
			{"a text of 61 bytes", begun(name("c"), whole(3, 0), name(xs(61))), api.ErrLong, 61 + 3},
			{"a number's text of 61 bytes", begun(name("c"), whole(1, 5), name(xs(61))), api.ErrLong, 61 + 3},
			{"a text of -1 bytes", begun(name("c"), whole(3, 0, -1)), api.ErrRange, 3},
		}
		for _, f := range faults {
			takesNothing(t, f.what, num.Read(f.b), f.left, f.err)
		}
		good := begun(name(xs(24)), whole(3, math.MinInt64), name(xs(60)))
		want := append(slices.Clone(ahead[:n]), of(xs(24), 3, math.MinInt64, xs(60)))
		r := num.Read(good)
		if got := Take(r); !slices.Equal(got, want) || r.Err() != nil || r.Left() != 3 {
			t.Errorf("at the edges: %v, %v, %d left", got, r.Err(), r.Left())
		}
	}
}

func TestTakeOfHowMany(t *testing.T) {
	takesNothing(t, "13", num.Read(Put(nil, many(13))), len(wanted(many(13)))-1, api.ErrRange)
	takesNothing(t, "-1", num.Read([]byte{1, 2, 'a', 2, 0, 0}), 5, api.ErrRange)
	takesNothing(t, "the most", num.Read(num.Put(nil, math.MaxInt64)), 0, api.ErrRange)
	takesNothing(t, "the least", num.Read(num.Put(nil, math.MinInt64)), 0, api.ErrRange)
	takesNothing(t, "a 0 behind", num.Read([]byte{0x80, 0, 5}), 1, api.ErrShape)
	r := num.Read([]byte{0, 5})
	if got := Take(r); len(got) > 0 || r.Err() != nil || r.Left() != 1 {
		t.Errorf("0: %v, %v, %d left", got, r.Err(), r.Left())
	}
}

func TestTakeBehindAnError(t *testing.T) {
	r := num.Read(append([]byte{9}, Put(nil, many(2))...))
	left := r.Left() - 1
	r.Flag()
	for range 2 {
		takesNothing(t, "behind an error", r, left, api.ErrShape)
	}
}

func TestTakeHandsOutNewMemory(t *testing.T) {
	l := many(5)
	b := Put(Put(nil, l), l)
	r := num.Read(b)
	first := Take(r)
	for k := range b {
		b[k] = 0xFF
	}
	second := Take(r)
	scribble(first)
	_ = append(first, nv("more", 1))
	if !slices.Equal(second, l) || r.Done() != nil {
		t.Errorf("two lists share memory: %v, %v", second, r.Done())
	}
}

func TestTakeOfAnyBytesEnds(t *testing.T) {
	x := number(2463534242)
	for range 20000 {
		b := make([]byte, x.below(40))
		for k := range b {
			b[k] = byte(x.below(256)) >> x.below(8)
		}
		r := num.Read(b)
		got := Take(r)
		if r.Err() != nil && len(got) > 0 {
			t.Fatalf("%x: %v beside %v", b, got, r.Err())
		}
		if r.Err() == nil && !bytes.Equal(Put(nil, got), b[:len(b)-r.Left()]) {
			t.Fatalf("%x: took what Put does not make: %v", b, got)
		}
	}
}
