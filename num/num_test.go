package num

import (
	"bytes"
	"math"
	"math/big"
	"slices"
	"strings"
	"testing"

	"leasehold/api"
)

// edges is each number where the bytes get one more, or the sign turns, with those beside it.
func edges() []int64 {
	l := []int64{0, math.MaxInt64, math.MinInt64, math.MaxInt64 - 1, math.MinInt64 + 1}
	for k := range 63 {
		for d := range int64(3) {
			n := int64(1)<<k + d - 1
			l = append(l, n, -n)
		}
	}
	return l
}

// wanted is a number's bytes as the chapter words them, in numbers without bounds.
func wanted(n int64) []byte {
	u := new(big.Int).Mul(big.NewInt(n), big.NewInt(2))
	if n < 0 {
		u.Sub(u.Neg(u), big.NewInt(1))
	}
	var b []byte
	for {
		rest := new(big.Int)
		u.DivMod(u, big.NewInt(128), rest)
		if u.Sign() == 0 {
			return append(b, byte(rest.Int64()))
		}
		b = append(b, byte(rest.Int64())+128)
	}
}

// scribble writes over all of a list's memory, its spare room too.
func scribble(b []byte) {
	b = b[:cap(b)]
	for k := range b {
		b[k] ^= 0xFF
	}
}

// texts are of the lengths where the length gets one more byte, and of bytes of each kind.
func texts() []string {
	l := []string{"", "a", "\x00", "\xff\x80", "a\x00b", "\u00e4\u20ac"}
	for _, n := range []int{62, 63, 64, 65, 8191, 8192} {
		l = append(l, strings.Repeat("x", n))
	}
	return l
}

// P2.1

func TestPutOfKnownNumbers(t *testing.T) {
	known := []struct {
		n    int64
		want string
	}{
		{0, "\x00"}, {-1, "\x01"}, {1, "\x02"}, {-2, "\x03"}, {2, "\x04"},
		{63, "\x7e"}, {-64, "\x7f"}, {64, "\x80\x01"}, {-65, "\x81\x01"},
		{8191, "\xfe\x7f"}, {-8192, "\xff\x7f"}, {8192, "\x80\x80\x01"},
		{math.MaxInt64, "\xfe\xff\xff\xff\xff\xff\xff\xff\xff\x01"},
		{math.MinInt64, "\xff\xff\xff\xff\xff\xff\xff\xff\xff\x01"},
	}
	for _, k := range known {
		if got := Put(nil, k.n); string(got) != k.want {
			t.Errorf("%d: %x, not %x", k.n, got, k.want)
		}
	}
}

func TestPutOfEachNumber(t *testing.T) {
	l := edges()
	for n := range int64(40000) {
		l = append(l, n-20000)
	}
	for _, n := range l {
		if got, want := Put(nil, n), wanted(n); !bytes.Equal(got, want) {
			t.Errorf("%d: %x, not %x", n, got, want)
		}
	}
}

func TestPutOfManyNumbers(t *testing.T) {
	l := edges()
	want := []byte("ahead")
	for _, n := range l {
		want = append(want, wanted(n)...)
	}
	if got := Put([]byte("ahead"), l...); !bytes.Equal(got, want) {
		t.Errorf("%x, not %x", got, want)
	}
}

func TestPutText(t *testing.T) {
	want := []byte("ahead")
	for _, s := range texts() {
		one := append(wanted(int64(len(s))), s...)
		if got := PutText(nil, s); !bytes.Equal(got, one) {
			t.Errorf("%.9q: %.20x, not %.20x", s, got, one)
		}
		want = append(want, one...)
	}
	if got := PutText([]byte("ahead"), texts()...); !bytes.Equal(got, want) {
		t.Error("many texts are not one behind the other")
	}
	if got := PutText(nil, "ab", "", "\x01"); string(got) != "\x04ab\x00\x02\x01" {
		t.Errorf("%x", got)
	}
}

func TestPutFlag(t *testing.T) {
	if got := PutFlag(nil, true); string(got) != "\x01" {
		t.Errorf("true: %x", got)
	}
	if got := PutFlag(nil, false); string(got) != "\x00" {
		t.Errorf("false: %x", got)
	}
	if got := PutFlag([]byte("ahead"), true, false, false, true); string(got) != "ahead\x01\x00\x00\x01" {
		t.Errorf("many: %x", got)
	}
}

// puts are the calls of all three Puts that put nothing, or something, behind b.
var puts = []struct {
	name   string
	behind string
	put    func(b []byte) []byte
}{
	{"Put of nothing", "", func(b []byte) []byte { return Put(b) }},
	{"PutText of nothing", "", func(b []byte) []byte { return PutText(b) }},
	{"PutFlag of nothing", "", func(b []byte) []byte { return PutFlag(b) }},
	{"Put", "\x80\x01\x01", func(b []byte) []byte { return Put(b, 64, -1) }},
	{"PutText", "\x04ab", func(b []byte) []byte { return PutText(b, "ab") }},
	{"PutFlag", "\x01\x00", func(b []byte) []byte { return PutFlag(b, true, false) }},
}

func TestPutsStandBehindWhatIsThere(t *testing.T) {
	for _, p := range puts {
		for _, ahead := range []string{"", "\x00", "\x80", "some"} {
			if got := p.put([]byte(ahead)); string(got) != ahead+p.behind {
				t.Errorf("%s behind %q: %x", p.name, ahead, got)
			}
		}
		if got := p.put(nil); string(got) != p.behind {
			t.Errorf("%s behind nil: %x", p.name, got)
		}
	}
}

func TestPutsChangeNothingHandedIn(t *testing.T) {
	for _, p := range puts {
		b := []byte("some, and spare room")
		p.put(b[:4])
		p.put(b[:0])
		p.put(b)
		if string(b) != "some, and spare room" {
			t.Errorf("%s wrote into its argument, or behind it: %q", p.name, b)
		}
	}
	numbers, words, flags := []int64{5, -6}, []string{"a", "b"}, []bool{true, false}
	Put(nil, numbers...)
	PutText(nil, words...)
	PutFlag(nil, flags...)
	if !slices.Equal(numbers, []int64{5, -6}) || !slices.Equal(words, []string{"a", "b"}) || !slices.Equal(flags, []bool{true, false}) {
		t.Error("a list handed in was changed")
	}
}

func TestPutsHandOutNewMemory(t *testing.T) {
	for _, p := range puts {
		b := []byte("some, and spare room")
		first, second := p.put(b[:4]), p.put(b[:4])
		scribble(first)
		if string(b) != "some, and spare room" || string(second) != "some"+p.behind {
			t.Errorf("%s shares memory: %q, %q", p.name, b, second)
		}
		third := p.put(second)
		fourth := p.put(second)
		scribble(third)
		if string(second) != "some"+p.behind || string(fourth) != "some"+p.behind+p.behind {
			t.Errorf("%s behind its own answer shares memory: %q, %q", p.name, second, fourth)
		}
	}
}

// P2.2

// held checks what a Reader tells of itself.
func held(t *testing.T, what string, r *Reader, left int, err error) {
	t.Helper()
	done := err
	if err == nil && left > 0 {
		done = api.ErrShape
	}
	if r.Left() != left || r.Err() != err || r.Done() != done || r.Err() != err {
		t.Errorf("%s: %d left, %v, done: %v; not %d, %v, %v", what, r.Left(), r.Err(), r.Done(), left, err, done)
	}
}

// stands checks that a Reader behind an error answers nothing, reads nothing, and keeps that error.
func stands(t *testing.T, what string, r *Reader, left int, err error) {
	t.Helper()
	held(t, what, r, left, err)
	for range 2 {
		if n := r.Int(math.MinInt64, math.MaxInt64); n != 0 {
			t.Errorf("%s: Int behind an error: %d", what, n)
		}
		if n := r.Int(5, 4); n != 0 {
			t.Errorf("%s: Int of no range behind an error: %d", what, n)
		}
		if s := r.Text(math.MaxInt); s != "" {
			t.Errorf("%s: Text behind an error: %q", what, s)
		}
		if s := r.Text(-1); s != "" {
			t.Errorf("%s: Text of no length behind an error: %q", what, s)
		}
		if r.Flag() {
			t.Errorf("%s: Flag behind an error", what)
		}
		held(t, what+", asked again", r, left, err)
	}
}

// wholeInt reads a number of any size.
func wholeInt(r *Reader) int64 { return r.Int(math.MinInt64, math.MaxInt64) }

func TestIntReadsWhatPutPuts(t *testing.T) {
	l := edges()
	r := Read(Put(nil, l...))
	left := r.Left()
	for _, n := range l {
		if got := wholeInt(r); got != n || r.Err() != nil {
			t.Fatalf("%d, %v, not %d", got, r.Err(), n)
		}
		if left -= len(wanted(n)); r.Left() != left {
			t.Fatalf("behind %d: %d left, not %d", n, r.Left(), left)
		}
	}
	held(t, "all read", r, 0, nil)
}

func TestIntAtItsRange(t *testing.T) {
	for _, n := range edges() {
		b := append(wanted(n), 5)
		fits := [][2]int64{{n, n}, {math.MinInt64, n}, {n, math.MaxInt64}, {math.MinInt64, math.MaxInt64}}
		for _, f := range fits {
			r := Read(b)
			if got := r.Int(f[0], f[1]); got != n {
				t.Errorf("%d in %d to %d: %d", n, f[0], f[1], got)
			}
			held(t, "in its range", r, 1, nil)
		}
		var others [][2]int64
		if n > math.MinInt64 {
			others = append(others, [2]int64{math.MinInt64, n - 1}, [2]int64{n, n - 1})
		}
		if n < math.MaxInt64 {
			others = append(others, [2]int64{n + 1, math.MaxInt64}, [2]int64{n + 1, n}, [2]int64{math.MaxInt64, math.MinInt64})
		}
		for _, o := range others {
			r := Read(b)
			if got := r.Int(o[0], o[1]); got != 0 {
				t.Errorf("%d beside %d to %d: %d", n, o[0], o[1], got)
			}
			stands(t, "out of its range", r, 1, api.ErrRange)
		}
	}
}

func TestIntThatEnds(t *testing.T) {
	for _, n := range edges() {
		b := wanted(n)
		for k := range b {
			for _, low := range []int64{math.MinInt64, 1, math.MaxInt64} {
				r := Read(b[:k])
				if got := r.Int(low, math.MaxInt64); got != 0 {
					t.Errorf("%x: %d", b[:k], got)
				}
				stands(t, "cut", r, 0, api.ErrEnd)
			}
		}
	}
}

func TestIntsTenthByte(t *testing.T) {
	for _, low := range []byte{128, 129, 255} {
		for x := range 256 {
			b := append(bytes.Repeat([]byte{low}, 9), byte(x), 5, 6)
			for _, top := range []int64{math.MaxInt64, 3} {
				r := Read(b)
				got := r.Int(math.MinInt64, top)
				switch {
				case x != 1:
					stands(t, "tenth byte", r, 2, api.ErrShape)
				case top == 3 && low == 128: // the lowest bit of the others tells a number below 0
					stands(t, "out of its range", r, 2, api.ErrRange)
				case !bytes.Equal(wanted(got), b[:10]):
					t.Errorf("%x: %d", b, got)
				default:
					held(t, "tenth byte", r, 2, nil)
				}
			}
		}
	}
}

func TestIntWithAZeroBehind(t *testing.T) {
	for k := range 9 {
		for _, x := range []byte{128, 129, 255} {
			b := append(bytes.Repeat([]byte{x}, k+1), 0, 4)
			for _, top := range []int64{math.MaxInt64, 0} {
				r := Read(b)
				if got := r.Int(0, top); got != 0 {
					t.Errorf("%x: %d", b, got)
				}
				stands(t, "a 0 behind", r, 1, api.ErrShape)
			}
		}
	}
	r := Read([]byte{0, 128, 1})
	if wholeInt(r) != 0 || wholeInt(r) != 64 {
		t.Error("a 0 that is the first, or a byte of 128, is no fault")
	}
	held(t, "no fault", r, 0, nil)
}

func TestTextReadsWhatPutTextPuts(t *testing.T) {
	r := Read(PutText(nil, texts()...))
	left := r.Left()
	for _, s := range texts() {
		if got := r.Text(len(s)); got != s || r.Err() != nil {
			t.Fatalf("%.20q, %v, not %.20q", got, r.Err(), s)
		}
		if left -= len(wanted(int64(len(s)))) + len(s); r.Left() != left {
			t.Fatalf("behind %.20q: %d left, not %d", s, r.Left(), left)
		}
	}
	held(t, "all read", r, 0, nil)
}

func TestTextAtItsMost(t *testing.T) {
	for _, s := range texts() {
		b := append(PutText(nil, s), 9)
		for _, most := range []int{len(s), len(s) + 1, math.MaxInt} {
			r := Read(b)
			if got := r.Text(most); got != s {
				t.Errorf("at most %d: %.20q, not %.20q", most, got, s)
			}
			held(t, "not above the most", r, 1, nil)
		}
		for _, most := range []int{len(s) - 1, -1, math.MinInt} {
			r := Read(b)
			if got := r.Text(most); got != "" {
				t.Errorf("at most %d: %.20q", most, got)
			}
			stands(t, "above the most", r, len(s)+1, api.ErrLong)
		}
	}
}

func TestTextsFaults(t *testing.T) {
	faults := []struct {
		what string
		b    []byte
		most int
		err  error
		left int
	}{
		{"nothing", nil, 5, api.ErrEnd, 0},
		{"half a length", []byte{0x80}, 5, api.ErrEnd, 0},
		{"a length with a 0 behind", []byte{0x84, 0, 'a', 'b'}, 5, api.ErrShape, 2},
		{"a length of too many bytes", bytes.Repeat([]byte{0xFF}, 11), 5, api.ErrShape, 1},
		{"a length of -1", []byte{1, 'a'}, 5, api.ErrRange, 1},
		{"the lowest length", append(wanted(math.MinInt64), 'a'), 5, api.ErrRange, 1},
		{"a length of 2^31", append(wanted(1<<31), 'a'), math.MaxInt, api.ErrRange, 1},
		{"a length of 2^31, above the most", append(wanted(1<<31), 'a'), 5, api.ErrRange, 1},
		{"a length of 2^31 - 1", append(wanted(1<<31-1), 'a'), math.MaxInt, api.ErrEnd, 1},
		{"a length of 2^31 - 1, above the most", append(wanted(1<<31-1), 'a'), 1<<31 - 2, api.ErrLong, 1},
		{"too long, and cut", []byte{6, 'a', 'b'}, 2, api.ErrLong, 2},
		{"a byte too few", []byte{6, 'a', 'b'}, 3, api.ErrEnd, 2},
		{"a length alone", []byte{2}, 3, api.ErrEnd, 0},
	}
	for _, f := range faults {
		r := Read(f.b)
		if got := r.Text(f.most); got != "" {
			t.Errorf("%s: %q", f.what, got)
		}
		stands(t, f.what, r, f.left, f.err)
	}
}

func TestFlagOfEachByte(t *testing.T) {
	for x := range 256 {
		r := Read([]byte{byte(x), 1})
		if got := r.Flag(); got != (x == 1) {
			t.Errorf("byte %d: %v", x, got)
		}
		if x > 1 {
			stands(t, "a byte that is no flag", r, 1, api.ErrShape)
			continue
		}
		held(t, "a flag", r, 1, nil)
	}
	r := Read(nil)
	if r.Flag() {
		t.Error("a flag of nothing")
	}
	stands(t, "no flag", r, 0, api.ErrEnd)
}

func TestFlagReadsWhatPutFlagPuts(t *testing.T) {
	l := []bool{true, false, false, true, true}
	r := Read(PutFlag(nil, l...))
	for k, f := range l {
		if r.Flag() != f || r.Left() != len(l)-k-1 {
			t.Errorf("flag %d, %d left", k, r.Left())
		}
	}
	held(t, "all read", r, 0, nil)
}

func TestReaderOfAllKinds(t *testing.T) {
	b := PutFlag(PutText(Put(nil, -300), "word"), true)
	b = Put(PutText(b, ""), 7)
	r := Read(b)
	held(t, "nothing read", r, len(b), nil)
	if n, s, f := r.Int(-300, 0), r.Text(4), r.Flag(); n != -300 || s != "word" || !f {
		t.Errorf("%d, %q, %v", n, s, f)
	}
	held(t, "some read", r, 2, nil)
	if s, n := r.Text(0), r.Int(7, 7); s != "" || n != 7 {
		t.Errorf("%q, %d", s, n)
	}
	held(t, "all read", r, 0, nil)
	wholeInt(r)
	stands(t, "more than all", r, 0, api.ErrEnd)
}

func TestReaderOfNothing(t *testing.T) {
	held(t, "nil", Read(nil), 0, nil)
	held(t, "no bytes", Read([]byte{}), 0, nil)
}

func TestDoneStopsNothing(t *testing.T) {
	r := Read([]byte{2, 4})
	for k, left := range []int{2, 1} {
		if r.Done() != api.ErrShape || r.Err() != nil || r.Left() != left {
			t.Errorf("%d left: %v, %v", left, r.Done(), r.Err())
		}
		if got := r.Int(0, 9); got != int64(k+1) {
			t.Errorf("behind Done: %d", got)
		}
	}
	if r.Done() != nil {
		t.Error(r.Done())
	}
}

func TestReaderKeepsAndChangesNothingHandedIn(t *testing.T) {
	b := Put(PutText(Put(nil, 500), "word"), -5)
	before := bytes.Clone(b)
	whole := append(bytes.Clone(b), 1, 1, 1)
	r, short := Read(b), Read(whole[:len(b)])
	scribble(b)
	if n, s := wholeInt(r), r.Text(9); n != 500 || s != "word" {
		t.Errorf("a Reader shows what was written later: %d, %q", n, s)
	}
	if n := wholeInt(r); n != -5 || r.Done() != nil {
		t.Errorf("%d, %v", n, r.Done())
	}
	wholeInt(short)
	short.Text(9)
	wholeInt(short)
	short.Flag()
	stands(t, "behind the length", short, 0, api.ErrEnd)
	if !bytes.Equal(whole, append(before, 1, 1, 1)) {
		t.Error("a Reader wrote into its argument, or behind it")
	}
}

func TestReadersOfTheSameBytesAreTheirOwn(t *testing.T) {
	b := []byte{2, 6, 5}
	first, second := Read(b), Read(b)
	first.Int(0, 1)
	first.Flag()
	stands(t, "the first", first, 1, api.ErrShape)
	held(t, "the second", second, 3, nil)
	if second.Int(0, 1) != 1 || second.Int(0, 3) != 3 {
		t.Error("one Reader's error is another's")
	}
}

// intAsWorded reads a number as the chapter words it: the number, how many bytes it read, the error.
func intAsWorded(b []byte, low, high int64) (int64, int, error) {
	u := new(big.Int)
	for k := 0; ; k++ {
		if k == len(b) {
			return 0, k, api.ErrEnd
		}
		if k == 9 && b[k] > 1 || k > 0 && b[k] == 0 {
			return 0, k + 1, api.ErrShape
		}
		u.Or(u, new(big.Int).Lsh(big.NewInt(int64(b[k]%128)), uint(7*k)))
		if b[k] < 128 {
			n := new(big.Int).Rsh(u, 1)
			if u.Bit(0) == 1 {
				n.Not(n)
			}
			if n.Cmp(big.NewInt(low)) < 0 || n.Cmp(big.NewInt(high)) > 0 {
				return 0, k + 1, api.ErrRange
			}
			return n.Int64(), k + 1, nil
		}
	}
}

func TestIntOfAllShortBytes(t *testing.T) {
	check := func(b []byte) {
		for _, span := range [][2]int64{{math.MinInt64, math.MaxInt64}, {-100, 1000}} {
			want, read, err := intAsWorded(b, span[0], span[1])
			r := Read(b)
			if got := r.Int(span[0], span[1]); got != want || r.Left() != len(b)-read || r.Err() != err {
				t.Errorf("%x: %d, %d left, %v; not %d, %d, %v", b, got, r.Left(), r.Err(), want, len(b)-read, err)
			}
		}
	}
	for x := range 256 {
		check([]byte{byte(x)})
		for y := range 256 {
			check([]byte{byte(x), byte(y)})
			check([]byte{byte(x), byte(y), 3})
			check([]byte{255, byte(x), byte(y), 0})
		}
	}
}

func TestReaderOfAnyBytesEnds(t *testing.T) {
	x := uint32(2463534242)
	some := func(n uint32) uint32 {
		x ^= x << 13
		x ^= x >> 17
		x ^= x << 5
		return x >> 8 % n
	}
	for range 20000 {
		b := make([]byte, some(30))
		for k := range b {
			b[k] = byte(some(256)) >> some(8)
		}
		r := Read(b)
		for r.Err() == nil {
			left := r.Left()
			switch some(3) {
			case 0:
				r.Int(-int64(some(500)), int64(some(50000)))
			case 1:
				r.Text(int(some(12)) - 1)
			default:
				r.Flag()
			}
			if r.Err() == nil && r.Left() >= left {
				t.Fatalf("%x: a call without an error read nothing", b)
			}
		}
		stands(t, "any bytes", r, r.Left(), r.Err())
	}
}
