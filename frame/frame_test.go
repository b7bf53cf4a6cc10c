package frame

import (
	"bytes"
	"encoding/binary"
	"hash/crc32"
	"slices"
	"testing"

	"leasehold/api"
	"leasehold/crc"
)

// number makes numbers in no plain order, the same each time.
type number uint32

// below is the next one of 0 to n - 1.
func (x *number) below(n int) int {
	*x ^= *x << 13
	*x ^= *x >> 17
	*x ^= *x << 5
	return int(uint32(*x)>>3) % n
}

// sampleBytes is n bytes in no plain order, the same each time.
func sampleBytes(n int) []byte {
	x := number(2463534242)
	b := make([]byte, n)
	for k := range b {
		b[k] = byte(x.below(256))
	}
	return b
}

// scribble writes over all of a list's memory, its spare room too.
func scribble(b []byte) {
	b = b[:cap(b)]
	for k := range b {
		b[k] ^= 0xFF
	}
}

// tailOf is the sum of b, the lowest byte first.
func tailOf(b []byte) []byte {
	return binary.LittleEndian.AppendUint32(nil, crc32.ChecksumIEEE(b))
}

// worded is a frame as the chapter words it, whose length need not be its body's.
func worded(kind byte, length int, body []byte) []byte {
	b := slices.Concat([]byte{0x4c, 0x68, 1, kind, byte(length % 256), byte(length / 256)}, body)
	return append(b, tailOf(b)...)
}

// made is the frame that Put makes.
func made(t *testing.T, kind byte, body []byte) []byte {
	t.Helper()
	b, err := Put(kind, body)
	if err != nil {
		t.Fatalf("kind %d, %d bytes: %v", kind, len(body), err)
	}
	return b
}

// refused holds that Read tells this error of b, and nothing beside.
func refused(t *testing.T, b []byte, want error) {
	t.Helper()
	kind, body, n, err := Read(b)
	if err != want || kind != 0 || len(body) > 0 || n != 0 {
		t.Errorf("%x: kind %d, body %x, %d bytes, %v, not %v", b[:min(len(b), 20)], kind, body, n, err, want)
	}
}

// lengths are those of bodies: where a byte of the length turns, and the edges.
var lengths = []int{0, 1, 2, 5, 127, 128, 255, 256, 257, 511, 512, 3999, api.MaxFrame}

// P3.1

func TestPutOfKnownFrames(t *testing.T) {
	known := []struct {
		kind byte
		body string
		want string
	}{
		{1, "", "\x4c\x68\x01\x01\x00\x00\x6a\x5a\x64\xd9"},
		{0, "", "\x4c\x68\x01\x00\x00\x00\x5d\x30\xa6\xd8"},
		{7, "body", "\x4c\x68\x01\x07\x04\x00body\x4c\x04\xc7\xe8"},
		{255, "\x00", "\x4c\x68\x01\xff\x01\x00\x00\x32\x08\xc7\x18"},
	}
	for _, k := range known {
		if got := made(t, k.kind, []byte(k.body)); string(got) != k.want {
			t.Errorf("%d %q: %x, not %x", k.kind, k.body, got, k.want)
		}
	}
	if got := made(t, 1, nil); len(got) != 10 {
		t.Errorf("kind 1 and nothing: %d bytes", len(got))
	}
}

func TestPutAndReadOfEachLength(t *testing.T) {
	for _, length := range lengths {
		for _, kind := range []byte{0, 1, 9, 0x4c, 127, 128, 255} {
			want := sampleBytes(length)
			b := made(t, kind, want)
			if !bytes.Equal(b, worded(kind, length, want)) {
				t.Errorf("kind %d, %d bytes: not as the chapter words it", kind, length)
			}
			gotKind, body, n, err := Read(b)
			if gotKind != kind || !bytes.Equal(body, want) || n != length+10 || err != nil {
				t.Errorf("kind %d, %d bytes: %d, %d bytes of %d, %v", kind, length, gotKind, len(body), n, err)
			}
		}
	}
}

func TestPutOfEachKind(t *testing.T) {
	for kind := range 256 {
		b := made(t, byte(kind), []byte("x"))
		if got, body, n, err := Read(b); got != byte(kind) || string(body) != "x" || n != 11 || err != nil {
			t.Errorf("%d: %d, %q, %d, %v", kind, got, body, n, err)
		}
	}
}

func TestPutOfTooMuch(t *testing.T) {
	for _, length := range []int{api.MaxFrame + 1, api.MaxFrame + 2, 1 << 16, 1<<16 + 3, 1 << 20} {
		if b, err := Put(1, make([]byte, length)); err != api.ErrLong || len(b) > 0 {
			t.Errorf("%d bytes: %d, %v", length, len(b), err)
		}
	}
}

func TestReadHeedsNothingBehind(t *testing.T) {
	b := made(t, 3, []byte("one"))
	for _, behind := range [][]byte{{0}, {0xFF}, {0x4c, 0x68, 2}, made(t, 4, []byte("two")), sampleBytes(5000)} {
		kind, body, n, err := Read(slices.Concat(b, behind))
		if kind != 3 || string(body) != "one" || n != len(b) || err != nil {
			t.Errorf("%x behind: %d, %q, %d, %v", behind[:1], kind, body, n, err)
		}
	}
}

func TestReadOfWrongBeginnings(t *testing.T) {
	whole := made(t, 9, []byte("text"))
	for at := range 3 {
		for x := range 256 {
			if byte(x) == whole[at] {
				continue
			}
			// However much is there behind the wrong byte, and whatever else is amiss.
			for n := at + 1; n <= len(whole); n++ {
				b := bytes.Clone(whole[:n])
				b[at] = byte(x)
				refused(t, b, api.ErrShape)
			}
			fits := bytes.Clone(whole[:len(whole)-4])
			fits[at] = byte(x)
			refused(t, append(fits, tailOf(fits)...), api.ErrShape)
		}
	}
	refused(t, []byte{0x68, 0x4c, 1}, api.ErrShape)
	refused(t, []byte{0}, api.ErrShape)
}

func TestReadOfWhatEndsTooEarly(t *testing.T) {
	refused(t, nil, api.ErrEnd)
	refused(t, []byte{}, api.ErrEnd)
	for _, length := range []int{0, 1, 4, 300, api.MaxFrame} {
		b := made(t, 2, sampleBytes(length))
		for n := range b {
			refused(t, b[:n], api.ErrEnd)
		}
	}
	// What is missing shows ahead of a sum that doesn't fit.
	b := worded(2, 5, []byte("four"))
	refused(t, b, api.ErrEnd)
}

func TestReadOfLengths(t *testing.T) {
	for _, length := range []int{api.MaxFrame + 1, api.MaxFrame + 2, 4095, 4096, 1 << 15, 1<<16 - 1} {
		refused(t, worded(1, length, nil), api.ErrShape)
		refused(t, worded(1, length, nil)[:6], api.ErrShape)
		refused(t, worded(1, length, sampleBytes(length)), api.ErrShape)
		// A byte of the length alone tells nothing yet.
		refused(t, worded(1, length, nil)[:5], api.ErrEnd)
	}
	for _, length := range []int{0, 1, 255, 256, 3999, api.MaxFrame} {
		refused(t, worded(1, length, nil)[:6], api.ErrEnd)
	}
	// A length that is too small makes a sum of the body's bytes.
	refused(t, worded(1, 2, []byte("four")), api.ErrSum)
}

func TestReadOfWrongSums(t *testing.T) {
	whole := made(t, 5, []byte("some text"))
	for at := 3; at < len(whole); at++ {
		if at == 4 || at == 5 { // another length is another fault
			continue
		}
		for bit := range 8 {
			b := bytes.Clone(whole)
			b[at] ^= 1 << bit
			refused(t, b, api.ErrSum)
			refused(t, append(b, 0, 1, 2), api.ErrSum)
		}
	}
	// The sum of the body alone, that with its bytes turned round, and that of a seal are other ones.
	head, tail := whole[:len(whole)-4], bytes.Clone(whole[len(whole)-4:])
	refused(t, slices.Concat(head, tailOf(head[6:])), api.ErrSum)
	slices.Reverse(tail)
	refused(t, slices.Concat(head, tail), api.ErrSum)
	refused(t, crc.Seal(head, 0), api.ErrSum)
}

func TestPutKeepsAndChangesNothing(t *testing.T) {
	memory := sampleBytes(40)
	body := memory[5:20]
	b := made(t, 6, body)
	if !bytes.Equal(memory, sampleBytes(40)) {
		t.Error("what was handed in is changed")
	}
	again := made(t, 6, body)
	scribble(again)
	if !bytes.Equal(b, worded(6, 15, body)) {
		t.Error("two frames share their memory")
	}
	scribble(b)
	if !bytes.Equal(memory, sampleBytes(40)) {
		t.Error("the frame shares its memory with what was handed in")
	}
	c := made(t, 6, body)
	want := bytes.Clone(c)
	scribble(memory)
	if !bytes.Equal(c, want) {
		t.Error("the frame hangs on what was handed in")
	}
}

func TestReadKeepsAndChangesNothing(t *testing.T) {
	for _, length := range []int{0, 1, 30} {
		want := sampleBytes(length)
		memory := slices.Concat([]byte{1, 2}, made(t, 6, want), []byte{3, 4, 5})
		before := bytes.Clone(memory)
		b := memory[2 : len(memory)-3]
		_, first, _, _ := Read(b)
		_, second, _, _ := Read(b)
		if !bytes.Equal(memory, before) {
			t.Errorf("%d: what was handed in is changed", length)
		}
		scribble(first)
		if !bytes.Equal(second, want) || !bytes.Equal(memory, before) {
			t.Errorf("%d: a body shares its memory", length)
		}
		scribble(memory)
		if !bytes.Equal(second, want) {
			t.Errorf("%d: a body hangs on what was handed in", length)
		}
	}
}

func TestReadHeedsNoMemoryBehindTheLength(t *testing.T) {
	whole := made(t, 6, []byte("body"))
	for n := range whole {
		refused(t, whole[:n:len(whole)], api.ErrEnd)
	}
}

// P3.2

// found is a frame that a stream had.
type found struct {
	kind byte
	body string
}

// drain is all that Next finds.
func drain(t *testing.T, s *Stream) []found {
	t.Helper()
	var l []found
	for {
		kind, body, is := s.Next()
		if !is {
			if kind != 0 || len(body) > 0 {
				t.Errorf("beside a false: %d, %x", kind, body)
			}
			return l
		}
		l = append(l, found{kind, string(body)})
	}
}

// next holds what the next frame is, and how many bytes wait behind it.
func next(t *testing.T, s *Stream, want found, left int) {
	t.Helper()
	kind, body, is := s.Next()
	if !is || kind != want.kind || string(body) != want.body || s.Left() != left {
		t.Errorf("%d, %q, %t, %d left, not %d, %q, %d left", kind, body, is, s.Left(), want.kind, want.body, left)
	}
}

// nothing holds that there is no frame yet, and how many bytes wait.
func nothing(t *testing.T, s *Stream, left int) {
	t.Helper()
	for range 2 {
		if kind, body, is := s.Next(); is || kind != 0 || len(body) > 0 || s.Left() != left {
			t.Errorf("%d, %q, %t, %d left, not %d", kind, body, is, s.Left(), left)
		}
	}
}

func TestStreamOfNothing(t *testing.T) {
	var s Stream
	if s.Left() != 0 {
		t.Error(s.Left(), "bytes wait in a new one")
	}
	nothing(t, &s, 0)
	s.Feed()
	s.Feed(nil...)
	s.Feed([]byte{}...)
	nothing(t, &s, 0)
}

func TestStreamOfFrames(t *testing.T) {
	var s Stream
	one, two, three := made(t, 0, nil), made(t, 200, []byte("two")), made(t, 3, sampleBytes(api.MaxFrame))
	s.Feed(one...)
	s.Feed(two...)
	s.Feed(three...)
	if s.Left() != 10+13+api.MaxFrame+10 {
		t.Error(s.Left(), "bytes wait")
	}
	next(t, &s, found{0, ""}, 13+api.MaxFrame+10)
	next(t, &s, found{200, "two"}, api.MaxFrame+10)
	next(t, &s, found{3, string(sampleBytes(api.MaxFrame))}, 0)
	nothing(t, &s, 0)
	s.Feed(two...)
	next(t, &s, found{200, "two"}, 0)
}

func TestStreamByteByByte(t *testing.T) {
	var s Stream
	b := made(t, 7, []byte("a body"))
	for range 3 {
		for k, x := range b {
			nothing(t, &s, k)
			s.Feed(x)
			if s.Left() != k+1 {
				t.Errorf("%d wait, not %d", s.Left(), k+1)
			}
		}
		next(t, &s, found{7, "a body"}, 0)
	}
}

func TestStreamThrowsAwayWhenNextIsAsked(t *testing.T) {
	var s Stream
	s.Feed(1, 2, 3)
	if s.Left() != 3 {
		t.Error(s.Left(), "bytes wait, not 3")
	}
	nothing(t, &s, 0)
	// What stands behind a frame that was found waits as it came.
	s.Feed(slices.Concat([]byte{9, 0x4c}, made(t, 1, nil), []byte{5, 6, 7})...)
	next(t, &s, found{1, ""}, 3)
	nothing(t, &s, 0)
}

func TestStreamKeepsWhatMayBegin(t *testing.T) {
	for _, x := range []struct {
		in   string
		left int
	}{
		{"\x4c", 1}, {"\x4c\x68", 2}, {"\x4c\x68\x01", 3}, {"\x4c\x68\x01\x4c", 4},
		{"\x4c\x4c", 1}, {"\x4c\x4c\x68", 2}, {"\x4c\x68\x4c", 1}, {"\x4c\x68\x4c\x68\x01", 3},
		{"\x68\x01", 0}, {"\x4c\x68\x02", 0}, {"\x4c\x01", 0}, {"\x00\x4c", 1}, {"\x4c\x00", 0},
		{"\x4c\x68\x01\x09\xa0\x0f", 6}, {"\x4c\x68\x01\x09\xa1\x0f", 0}, {"\x4c\x68\x01\x09\xff", 5},
		{"\x4c\x68\x01\x4c\x68\xff", 0}, {"\x4c\x68\x01\x09\x4c\xff", 0}, {"\x4c\x68\x01\x09\xff\x4c", 1},
		{"\x4c\x68\x01\x01\x00\x00\x6a\x5a\x64", 9}, {"\x4c\x68\x01\x01\x00\x00\x6a\x5a\x64\xd8", 0},
		{"\x4c\x68\x01\x01\x00\x00\x6a\x5a\x4c\x68", 2},
	} {
		var s Stream
		s.Feed([]byte(x.in)...)
		if s.Left() != len(x.in) {
			t.Errorf("%x: %d wait", x.in, s.Left())
		}
		nothing(t, &s, x.left)
	}
}

func TestStreamBehindWhatIsNoFrame(t *testing.T) {
	good := made(t, 4, []byte("good"))
	bad := made(t, 3, []byte("bad"))
	bad[7] ^= 1
	for _, ahead := range [][]byte{
		{0}, {0x4c}, {0x4c, 0x68}, {0x4c, 0x4c, 0x4c}, {0x4c, 0x68, 2},
		{0x4c, 0x68, 1, 1, 0xa1, 0x0f}, {0x4c, 0x68, 1, 1, 0xff, 0xff}, {0x68, 1, 1},
		// The good frame is within the body, or the sum, that such a head asks for.
		{0x4c, 0x68, 1, 1, 0, 0}, {0x4c, 0x68, 1, 1, 4, 0}, {0x4c, 0x68, 1, 1, 0}, {0x4c, 0x68, 1},
		bad, bad[:9], slices.Concat(bad, bad), good[1:], made(t, 9, []byte("x"))[1:],
	} {
		var s Stream
		s.Feed(slices.Concat(ahead, good)...)
		s.Feed(made(t, 5, []byte("more"))...)
		s.Feed(make([]byte, api.MaxFrame+10)...)
		if got := drain(t, &s); !slices.Equal(got, []found{{4, "good"}, {5, "more"}}) || s.Left() != 0 {
			t.Errorf("%x ahead: %v, %d left", ahead, got, s.Left())
		}
	}
}

func TestStreamWaitsForAGreatFrame(t *testing.T) {
	var s Stream
	good := made(t, 4, []byte("good"))
	s.Feed(0x4c, 0x68, 1, 1, 0xa0, 0x0f)
	s.Feed(good...)
	// Whether the first head is a frame's can't be told till as many bytes came.
	nothing(t, &s, 6+len(good))
	s.Feed(make([]byte, api.MaxFrame+4-len(good)-1)...)
	nothing(t, &s, 6+api.MaxFrame+4-1)
	s.Feed(0)
	next(t, &s, found{4, "good"}, api.MaxFrame+4-len(good))
	nothing(t, &s, 0)
}

func TestStreamOfAFrameInAFrame(t *testing.T) {
	var s Stream
	inner := made(t, 2, []byte("inner"))
	outer := made(t, 1, inner)
	s.Feed(outer...)
	next(t, &s, found{1, string(inner)}, 0)
	// Of an outer one whose sum is wrong the inner one is left.
	outer[len(outer)-1] ^= 1
	s.Feed(outer...)
	next(t, &s, found{2, "inner"}, 4)
	nothing(t, &s, 0)
}

// plainNext is Next as the chapter words it, over a list.
func plainNext(b []byte) (found, []byte, bool) {
	for {
		kind, body, n, err := Read(b)
		if err == nil {
			return found{kind, string(body)}, b[n:], true
		}
		if err == api.ErrEnd {
			return found{}, b, false
		}
		b = b[1:]
	}
}

// mixed is frames, pieces of frames, frames with a wrong bit, and bytes that are none.
func mixed(t *testing.T, x *number) []byte {
	t.Helper()
	var b []byte
	for range 4 + x.below(8) {
		body := sampleBytes(x.below(30))
		if x.below(4) == 0 {
			body = made(t, byte(x.below(256)), body)
		}
		f := made(t, byte(x.below(256)), body)
		switch x.below(5) {
		case 0:
			f = f[:x.below(len(f))]
		case 1:
			f[x.below(len(f))] ^= 1 << x.below(8)
		case 2:
			f = append([]byte{0x4c, 0x68, 1, 0, 2}[:x.below(6)], f...)
		}
		b = append(b, f...)
	}
	return b
}

func TestStreamIsAsWorded(t *testing.T) {
	x := number(77)
	for round := range 400 {
		rest := mixed(t, &x)
		var s Stream
		var plain []byte
		for len(rest) > 0 {
			n := min(len(rest), 1+x.below(40))
			s.Feed(rest[:n]...)
			plain = append(plain, rest[:n]...)
			rest = rest[n:]
			for x.below(3) > 0 {
				want, left, wantIs := plainNext(plain)
				plain = left
				kind, body, is := s.Next()
				if got := (found{kind, string(body)}); got != want || is != wantIs {
					t.Fatalf("round %d: %v %t, not %v %t", round, got, is, want, wantIs)
				}
			}
			if s.Left() != len(plain) {
				t.Fatalf("round %d: %d left, not %d", round, s.Left(), len(plain))
			}
		}
	}
}

func TestStreamFindsTheSameHoweverItIsFed(t *testing.T) {
	x := number(5)
	for round := range 100 {
		b := mixed(t, &x)
		var whole, bits Stream
		whole.Feed(b...)
		want := drain(t, &whole)
		var got []found
		for _, c := range b {
			bits.Feed(c)
			got = append(got, drain(t, &bits)...)
		}
		if !slices.Equal(got, want) || bits.Left() != whole.Left() {
			t.Errorf("round %d: %v and %d left, not %v and %d", round, got, bits.Left(), want, whole.Left())
		}
	}
}

func TestStreamKeepsNothingHandedIn(t *testing.T) {
	var s Stream
	memory := slices.Concat(made(t, 8, []byte("mine")), []byte{1, 2, 3})
	before := bytes.Clone(memory)
	s.Feed(memory[:14]...)
	s.Feed(0x4c, 0x68)
	if !bytes.Equal(memory, before) {
		t.Error("what was handed in is changed")
	}
	scribble(memory)
	next(t, &s, found{8, "mine"}, 2)
}

func TestStreamHandsOutNewMemory(t *testing.T) {
	var s Stream
	for k := range 5 {
		s.Feed(made(t, byte(k), []byte("twins"))...)
	}
	_, first, _ := s.Next()
	_, second, _ := s.Next()
	scribble(first)
	if string(second) != "twins" {
		t.Error("two bodies share their memory")
	}
	scribble(second)
	next(t, &s, found{2, "twins"}, 30)
	_, body, _ := s.Next()
	for range 3 {
		s.Feed(sampleBytes(500)...)
		s.Next()
	}
	if string(body) != "twins" {
		t.Error("a body changes with what is fed behind it")
	}
}

func TestStreamsShareNothing(t *testing.T) {
	var a, b Stream
	one := made(t, 1, []byte("one"))
	a.Feed(one[:6]...)
	b.Feed(one[:6]...)
	a.Feed(9, 9)
	b.Feed(one[6:]...)
	next(t, &b, found{1, "one"}, 0)
	nothing(t, &a, 8)
}

func TestStreamOfManyBytes(t *testing.T) {
	var s Stream
	one := made(t, 1, []byte("one"))
	all := bytes.Repeat(slices.Concat(one, []byte{0, 0x4c}), 50000)
	s.Feed(all...)
	got := drain(t, &s)
	if len(got) != 50000 || s.Left() != 1 {
		t.Errorf("%d frames, %d left", len(got), s.Left())
	}
}

func TestReadEndsForAnyBytes(t *testing.T) {
	x := number(11)
	for range 20000 {
		b := make([]byte, x.below(24))
		for k := range b {
			b[k] = []byte{0x4c, 0x68, 1, 0, 5, 0xFF}[x.below(6)]
		}
		copy(b, []byte{0x4c, 0x68, 1}[:x.below(4)])
		kind, body, n, err := Read(b)
		if err != nil && (kind != 0 || len(body) > 0 || n != 0) {
			t.Fatalf("%x: %d, %x, %d beside %v", b, kind, body, n, err)
		}
		if err == nil && !bytes.Equal(made(t, kind, body), b[:n]) {
			t.Fatalf("%x: read what Put does not make", b)
		}
	}
}
