package crc

import (
	"bytes"
	"encoding/binary"
	"hash/crc32"
	"testing"

	"leasehold/api"
)

// sampleBytes is n bytes in no plain order, the same each time.
func sampleBytes(n int) []byte {
	b := make([]byte, n)
	x := uint32(2463534242)
	for k := range b {
		x ^= x << 13
		x ^= x >> 17
		x ^= x << 5
		b[k] = byte(x >> 11)
	}
	return b
}

// sumByBits is the sum as the chapter words it, one bit at a time.
func sumByBits(b []byte) uint32 {
	r := uint32(0xFFFFFFFF)
	for _, x := range b {
		r ^= uint32(x)
		for range 8 {
			low := r & 1
			r >>= 1
			if low == 1 {
				r ^= 0xEDB88320
			}
		}
	}
	return ^r
}

// seeds are those whose bytes differ, and the edges.
var seeds = []uint32{0, 1, 0x80, 0x100, 0x01020304, 0x80000000, 0xFFFFFFFF}

// P1.1

func TestSumOfKnownTexts(t *testing.T) {
	known := []struct {
		text string
		sum  uint32
	}{
		{"", 0},
		{"\x00", 0xD202EF8D},
		{"\xff", 0xFF000000},
		{"\xff\xff\xff\xff", 0xFFFFFFFF},
		{"a", 0xE8B7BE43},
		{"123456789", 0xCBF43926},
	}
	for _, k := range known {
		if got := Sum([]byte(k.text)); got != k.sum {
			t.Errorf("%q: %#x, not %#x", k.text, got, k.sum)
		}
	}
}

func TestSumOfNothing(t *testing.T) {
	if Sum() != 0 || Sum(nil) != 0 || Sum([]byte{}) != 0 || Sum(nil, []byte{}, nil) != 0 {
		t.Error("the sum of nothing is not 0")
	}
}

func TestSumOfEachByte(t *testing.T) {
	for x := range 256 {
		b := []byte{byte(x)}
		if got, want := Sum(b), sumByBits(b); got != want {
			t.Errorf("byte %d: %#x, not %#x", x, got, want)
		}
	}
}

func TestSumOfManyLengths(t *testing.T) {
	all := sampleBytes(4000)
	for n := 0; n <= len(all); n += 1 + n/8 {
		want := sumByBits(all[:n])
		if got := Sum(all[:n]); got != want || got != crc32.ChecksumIEEE(all[:n]) {
			t.Errorf("%d bytes: %#x, not %#x", n, got, want)
		}
	}
}

func TestSumOfPartsIsThatOfAllInTheirOrder(t *testing.T) {
	all := sampleBytes(24)
	want := sumByBits(all)
	for i := range len(all) + 1 {
		for j := i; j <= len(all); j++ {
			if got := Sum(all[:i], all[i:j], nil, all[j:]); got != want {
				t.Errorf("cut at %d and %d: %#x, not %#x", i, j, got, want)
			}
		}
	}
	single := make([][]byte, len(all))
	for k := range all {
		single[k] = all[k : k+1]
	}
	if got := Sum(single...); got != want {
		t.Errorf("byte by byte: %#x, not %#x", got, want)
	}
	if Sum([]byte("ab"), []byte("c")) == Sum([]byte("c"), []byte("ab")) {
		t.Error("the order of the parts is not told")
	}
}

func TestMoreGoesOnFromASum(t *testing.T) {
	all := sampleBytes(200)
	for k := range len(all) + 1 {
		if got, want := More(Sum(all[:k]), all[k:]), sumByBits(all); got != want {
			t.Errorf("from %d on: %#x, not %#x", k, got, want)
		}
	}
}

func TestMoreOfAnySum(t *testing.T) {
	all := sampleBytes(50)
	for _, s := range seeds {
		for n := range all {
			if got, want := More(s, all[:n]), crc32.Update(s, crc32.IEEETable, all[:n]); got != want {
				t.Errorf("%#x with %d bytes: %#x, not %#x", s, n, got, want)
			}
		}
		if More(s, nil) != s || More(s, []byte{}) != s {
			t.Errorf("%#x with nothing behind is another one", s)
		}
	}
}

func TestSumAndMoreChangeNothing(t *testing.T) {
	b := sampleBytes(40)
	parts := [][]byte{b[:10], b[10:20]}
	first := Sum(parts...)
	next := More(first, b[20:30])
	if !bytes.Equal(b, sampleBytes(40)) || !bytes.Equal(parts[0], b[:10]) || !bytes.Equal(parts[1], b[10:20]) {
		t.Error("the arguments were changed")
	}
	b[35]++ // behind what was handed in
	if Sum(parts...) != first || More(first, b[20:30]) != next {
		t.Error("the same call answers another sum")
	}
}

// P1.2

func TestSealOfKnownBytes(t *testing.T) {
	known := []struct {
		text string
		seed uint32
		want string
	}{
		{"56789", 0x34333231, "56789\x26\x39\xf4\xcb"}, // the sum of "123456789"
		{"", 0xFFFFFFFF, "\xff\xff\xff\xff"},
		{"", 0, "\x1c\xdf\x44\x21"},
	}
	for _, k := range known {
		if got := Seal([]byte(k.text), k.seed); string(got) != k.want {
			t.Errorf("%q with %#x: %x, not %x", k.text, k.seed, got, k.want)
		}
	}
	if !bytes.Equal(Seal(nil, 7), Seal([]byte{}, 7)) {
		t.Error("nil is not as the empty list")
	}
}

func TestSealPutsTheSumOfSeedAndBytesBehind(t *testing.T) {
	all := sampleBytes(70)
	for _, seed := range seeds {
		for n := range all {
			got := Seal(all[:n], seed)
			if len(got) != n+4 || !bytes.Equal(got[:n], all[:n]) {
				t.Fatalf("%d bytes with %#x: %x", n, seed, got)
			}
			whole := append(binary.LittleEndian.AppendUint32(nil, seed), all[:n]...)
			if sum := binary.LittleEndian.Uint32(got[n:]); sum != sumByBits(whole) {
				t.Errorf("%d bytes with %#x: %#x, not %#x", n, seed, sum, sumByBits(whole))
			}
		}
	}
}

func TestOpenGivesBackWhatWasSealed(t *testing.T) {
	all := sampleBytes(70)
	for _, seed := range seeds {
		for n := range all {
			got, err := Open(Seal(all[:n], seed), seed)
			if err != nil || !bytes.Equal(got, all[:n]) {
				t.Errorf("%d bytes with %#x: %x, %v", n, seed, got, err)
			}
		}
	}
}

func TestOpenOfTooFewBytes(t *testing.T) {
	sealed := Seal(nil, 5)
	for n := range 4 {
		if got, err := Open(sealed[:n], 5); got != nil || err != api.ErrEnd {
			t.Errorf("%d bytes: %x, %v", n, got, err)
		}
	}
	if got, err := Open(nil, 5); got != nil || err != api.ErrEnd {
		t.Errorf("nil: %x, %v", got, err)
	}
	if got, err := Open(sealed, 5); len(got) != 0 || err != nil {
		t.Errorf("four bytes that fit: %x, %v", got, err)
	}
	if got, err := Open([]byte{0, 0, 0, 0}, 5); got != nil || err != api.ErrSum {
		t.Errorf("four bytes that do not fit: %x, %v", got, err)
	}
}

func TestOpenWithAnotherSeed(t *testing.T) {
	for _, b := range [][]byte{nil, sampleBytes(20)} {
		for _, seed := range seeds {
			sealed := Seal(b, seed)
			for bit := range 32 {
				if got, err := Open(sealed, seed^1<<bit); got != nil || err != api.ErrSum {
					t.Errorf("%#x, bit %d: %x, %v", seed, bit, got, err)
				}
			}
		}
	}
}

func TestOpenOfChangedBytes(t *testing.T) {
	sealed := Seal(sampleBytes(20), 0x01020304)
	refused := func(what string, k int, b []byte) {
		t.Helper()
		if got, err := Open(b, 0x01020304); got != nil || err != api.ErrSum {
			t.Errorf("%s %d: %x, %v", what, k, got, err)
		}
	}
	for k := range sealed {
		for bit := range 8 {
			c := bytes.Clone(sealed)
			c[k] ^= 1 << bit
			refused("a bit turned in byte", k, c)
		}
		refused("a byte left out at", k, append(bytes.Clone(sealed[:k]), sealed[k+1:]...))
	}
	for n := 4; n < len(sealed); n++ {
		refused("cut to", n, sealed[:n])
	}
	for x := range 256 {
		refused("with more behind", x, append(bytes.Clone(sealed), byte(x)))
	}
	n := len(sealed)
	turned := append(bytes.Clone(sealed[:n-4]), sealed[n-1], sealed[n-2], sealed[n-3], sealed[n-4])
	refused("the sum's highest byte first", n, turned)
}

func TestSealAndOpenChangeNothingHandedIn(t *testing.T) {
	b := sampleBytes(40)
	sealed := Seal(b[:20], 3)
	if !bytes.Equal(b, sampleBytes(40)) {
		t.Error("Seal wrote into its argument, or behind it")
	}
	held := append(bytes.Clone(sealed), 1, 2, 3)
	before := bytes.Clone(held)
	if got, err := Open(held[:len(sealed)], 3); err != nil || !bytes.Equal(got, b[:20]) {
		t.Errorf("%x, %v", got, err)
	}
	if _, err := Open(held[:len(sealed)], 4); err != api.ErrSum {
		t.Error(err)
	}
	if !bytes.Equal(held, before) {
		t.Error("Open wrote into its argument, or behind it")
	}
}

// scribble writes over all of a list's memory, its spare room too.
func scribble(b []byte) {
	b = b[:cap(b)]
	for k := range b {
		b[k] ^= 0xFF
	}
}

func TestSealAndOpenHandOutNewMemory(t *testing.T) {
	for _, n := range []int{0, 1, 20} {
		b := sampleBytes(n)
		sealed, other := Seal(b, 3), Seal(b, 3)
		want := bytes.Clone(sealed)
		opened, err := Open(sealed, 3)
		if err != nil {
			t.Fatal(err)
		}
		again, err := Open(sealed, 3)
		if err != nil {
			t.Fatal(err)
		}
		scribble(opened)
		if !bytes.Equal(sealed, want) || !bytes.Equal(again, b) {
			t.Errorf("%d bytes: what Open hands out shares memory", n)
		}
		scribble(sealed)
		if !bytes.Equal(b, sampleBytes(n)) || !bytes.Equal(other, want) || !bytes.Equal(again, b) {
			t.Errorf("%d bytes: what Seal hands out shares memory", n)
		}
	}
}
