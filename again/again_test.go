package again

import (
	"bytes"
	"math"
	"slices"
	"strconv"
	"strings"
	"testing"

	"leasehold/api"
)

// head is who asks.
func head(worker string, inc, key int) api.Head {
	return api.Head{Worker: worker, Inc: inc, Key: key}
}

// page is one with these keys, of which each reply is what answer makes of the key.
func page(worker string, inc int, keys ...int) Page {
	p := Page{Worker: worker, Inc: inc, Keys: keys}
	for _, key := range keys {
		p.Replies = append(p.Replies, answer(worker, inc, key))
	}
	return p
}

// answer is a reply that no other head has.
func answer(worker string, inc, key int) []byte {
	return []byte(worker + "." + strconv.Itoa(inc) + "." + strconv.Itoa(key))
}

// text is all of a page in one line.
func text(p Page) string {
	var s strings.Builder
	s.WriteString(strconv.Quote(p.Worker) + "." + strconv.Itoa(p.Inc))
	for _, key := range p.Keys {
		s.WriteString(" " + strconv.Itoa(key))
	}
	for _, r := range p.Replies {
		s.WriteString(" " + strconv.Quote(string(r)))
	}
	return s.String()
}

// texts is text of each.
func texts(l []Page) []string {
	var out []string
	for _, p := range l {
		out = append(out, text(p))
	}
	return out
}

// keep keeps answer of a head, and holds what is said of it against want.
func keep(t *testing.T, b *Book, worker string, inc, key int, want bool) {
	t.Helper()
	if b.Keep(head(worker, inc, key), answer(worker, inc, key)) != want {
		t.Errorf("keep of %s, %d, %d: not %t", worker, inc, key, want)
	}
}

// with is a book of just these pages.
func with(t *testing.T, l ...Page) *Book {
	t.Helper()
	var b Book
	if !b.Load(l...) {
		t.Fatalf("load of %v", texts(l))
	}
	return &b
}

// stands holds b against all pages that it has to have, by Worker, in each way in which that can be told.
func stands(t *testing.T, what string, b *Book, want ...Page) {
	t.Helper()
	if got := texts(b.All()); !slices.Equal(got, texts(want)) {
		t.Errorf("%s: %v, not %v", what, got, texts(want))
	}
	for _, p := range want {
		for k, key := range p.Keys {
			look(t, what, b, head(p.Worker, p.Inc, key), Known, string(p.Replies[k]))
		}
	}
}

// look holds what is said of one head against what has to be.
func look(t *testing.T, what string, b *Book, h api.Head, want int, reply string) {
	t.Helper()
	if got, r := b.Look(h); got != want || string(r) != reply {
		t.Errorf("%s: look of %v: %d, %q, not %d, %q", what, h, got, r, want, reply)
	}
}

// six is pages of as many workers as there may be, by Worker.
func six() []Page {
	return []Page{
		page("a", 1, 1),
		page("b", 5, 9, 8, 7, 6),
		page("c", 2, 3, 1),
		page("cc", 1, 1, 2, 3),
		page("d", 1<<30, 1<<30),
		page("e", 2, 2),
	}
}

// P12.1: the numbers of what Look says

func TestNumbers(t *testing.T) {
	if got := [...]int{New, Known, Old, Many}; got != [...]int{0, 1, 2, 3} {
		t.Errorf("%v", got)
	}
}

// P12.1: the zero value

func TestZeroValue(t *testing.T) {
	var b Book
	stands(t, "the zero value", &b)
	for _, h := range []api.Head{{}, head("a", 1, 1), head("", 0, 1), head("a", -1, -1), head("a", math.MaxInt, math.MinInt)} {
		look(t, "the zero value", &b, h, New, "")
	}
	c := b.Clone()
	if c == nil || c == &b {
		t.Fatal("no clone")
	}
	stands(t, "its clone", c)
	keep(t, c, "a", 1, 1, true)
	stands(t, "it, when its clone has one", &b)
	stands(t, "its clone", c, page("a", 1, 1))
	keep(t, &b, "b", 1, 1, true)
	stands(t, "it", &b, page("b", 1, 1))
}

// P12.1: Look

func TestLook(t *testing.T) {
	few, full := with(t, six()[:5]...), with(t, six()...)
	for _, c := range []struct {
		h     api.Head
		want  int
		reply string
	}{
		{head("b", 5, 9), Known, "b.5.9"},
		{head("b", 5, 8), Known, "b.5.8"},
		{head("b", 5, 6), Known, "b.5.6"},
		{head("a", 1, 1), Known, "a.1.1"},
		{head("c", 2, 1), Known, "c.2.1"},
		{head("cc", 1, 2), Known, "cc.1.2"},
		{head("d", 1<<30, 1<<30), Known, "d.1073741824.1073741824"},
		// A key that this life has not had.
		{head("b", 5, 5), New, ""},
		{head("b", 5, 10), New, ""},
		{head("b", 5, 0), New, ""},
		{head("b", 5, -9), New, ""},
		{head("a", 1, 2), New, ""},
		{head("a", 1, math.MaxInt), New, ""},
		// A life that is over has no key any more, and one that is to come none yet.
		{head("b", 4, 9), Old, ""},
		{head("b", 4, 5), Old, ""},
		{head("b", 1, 9), Old, ""},
		{head("b", 0, 9), Old, ""},
		{head("b", -5, 9), Old, ""},
		{head("b", math.MinInt, 9), Old, ""},
		{head("b", 6, 9), New, ""},
		{head("b", 6, 5), New, ""},
		{head("b", math.MaxInt, 9), New, ""},
		{head("a", 0, 1), Old, ""},
		{head("a", 2, 1), New, ""},
		{head("d", 1<<30-1, 1<<30), Old, ""},
	} {
		look(t, "five workers", few, c.h, c.want, c.reply)
		look(t, "six workers", full, c.h, c.want, c.reply)
	}
	// No page: whoever's name is alike, in whatever life.
	for _, worker := range []string{"f", "", "A", "aa", "ccc", "a ", "a\x00", "\xff"} {
		for _, inc := range []int{1, 2, 0, -1, math.MaxInt, math.MinInt} {
			look(t, "five workers", few, head(worker, inc, 1), New, "")
			look(t, "six workers", full, head(worker, inc, 1), Many, "")
		}
	}
	stands(t, "as it was", few, six()[:5]...)
	stands(t, "as it was", full, six()...)
}

// A reply of no bytes is one as well.
func TestLookOfNothing(t *testing.T) {
	var b Book
	for k, r := range [][]byte{nil, {}, []byte("x")[:0]} {
		if !b.Keep(head("a", 1, k+1), r) {
			t.Errorf("%d: not kept", k)
		}
		look(t, "no bytes", &b, head("a", 1, k+1), Known, "")
		if b.Keep(head("a", 1, k+1), []byte("more")) {
			t.Errorf("%d: kept again", k)
		}
		look(t, "no bytes", &b, head("a", 1, k+1), Known, "")
	}
	stands(t, "no bytes", &b, Page{Worker: "a", Inc: 1, Keys: []int{1, 2, 3}, Replies: make([][]byte, 3)})
}

// P12.1: Keep

func TestKeep(t *testing.T) {
	var b Book
	keep(t, &b, "b", 3, 7, true)
	stands(t, "one", &b, page("b", 3, 7))
	keep(t, &b, "b", 3, 2, true)
	stands(t, "behind it", &b, page("b", 3, 7, 2))
	keep(t, &b, "a", 9, 2, true)
	stands(t, "another worker", &b, page("a", 9, 2), page("b", 3, 7, 2))
	keep(t, &b, "b", 3, 9, true)
	keep(t, &b, "b", 3, 1, true)
	stands(t, "four", &b, page("a", 9, 2), page("b", 3, 7, 2, 9, 1))
}

// More than there is room for: those that came first are gone, whatever their keys are, and may be asked anew.
func TestKeepOfMore(t *testing.T) {
	keys := []int{5, 9, 1, 8, 2, 7, 3, 6, 4, 10, 15, 11}
	var b Book
	keep(t, &b, "b", 1, 5, true)
	for k, key := range keys {
		keep(t, &b, "a", 2, key, true)
		stands(t, "one more", &b, page("a", 2, keys[max(0, k-3):k+1]...), page("b", 1, 5))
		for _, gone := range keys[:max(0, k-3)] {
			look(t, "gone", &b, head("a", 2, gone), New, "")
		}
	}
	keep(t, &b, "a", 2, 5, true)
	stands(t, "the first one anew", &b, page("a", 2, 10, 15, 11, 5), page("b", 1, 5))
	keep(t, &b, "a", 2, 15, false)
	stands(t, "one that is there", &b, page("a", 2, 10, 15, 11, 5), page("b", 1, 5))
}

// A greater life begins anew, with nothing of the one before.
func TestKeepOfAGreaterLife(t *testing.T) {
	b := with(t, six()...)
	want := six()
	keep(t, b, "b", 6, 8, true)
	want[1] = page("b", 6, 8)
	stands(t, "the next life", b, want...)
	look(t, "the next life", b, head("b", 6, 9), New, "")
	look(t, "the life before", b, head("b", 5, 8), Old, "")
	keep(t, b, "b", 5, 9, false)
	keep(t, b, "b", 5, 1, false)
	stands(t, "what comes too late", b, want...)
	keep(t, b, "b", 6, 9, true)
	want[1] = page("b", 6, 8, 9)
	stands(t, "and goes on", b, want...)
	keep(t, b, "b", 1000, 9, true)
	want[1] = page("b", 1000, 9)
	stands(t, "much later", b, want...)
}

// What isn't New is not kept, and changes nothing.
func TestKeepRefuses(t *testing.T) {
	b := with(t, six()...)
	for _, h := range []api.Head{
		head("b", 5, 9), head("b", 5, 6), head("a", 1, 1), // Known
		head("b", 4, 9), head("b", 4, 1), head("a", 0, 1), head("a", -1, 7), head("c", math.MinInt, 3), // Old
		head("f", 1, 1), head("", 1, 1), head("A", 9, 9), head("aa", math.MaxInt, 1), // Many
	} {
		if b.Keep(h, []byte("other")) {
			t.Errorf("%v: kept", h)
		}
		stands(t, "as it was", b, six()...)
	}
	// What is there goes on as if nothing had been told.
	keep(t, b, "e", 2, 3, true)
	stands(t, "going on", b, append(six()[:5], page("e", 2, 2, 3))...)
}

// Of workers there are six, not more; and none of them makes room again.
func TestKeepOfManyWorkers(t *testing.T) {
	var b Book
	var want []Page
	for k := range 26 {
		worker := string(rune('z' - k))
		keep(t, &b, worker, 1, k, k < 6)
		if k < 6 {
			want = append([]Page{page(worker, 1, k)}, want...)
		}
		stands(t, "workers", &b, want...)
	}
	keep(t, &b, "z", 2, 1, true)
	keep(t, &b, "a", 1, 1, false)
	want[5] = page("z", 2, 1)
	stands(t, "a greater life", &b, want...)
}

// A worker, a life and a key are a text and numbers like others: whatever they are, they are kept.
func TestKeepOfAnyHead(t *testing.T) {
	var b Book
	for _, h := range []api.Head{{}, head("", 0, -1), head("\xff", -1, 0), head("A b", math.MinInt, math.MinInt), head("A b", math.MinInt, math.MaxInt)} {
		look(t, "at first", &b, h, New, "")
		keep(t, &b, h.Worker, h.Inc, h.Key, true)
		keep(t, &b, h.Worker, h.Inc, h.Key, false)
	}
	stands(t, "any heads", &b, page("", 0, 0, -1), page("A b", math.MinInt, math.MinInt, math.MaxInt), page("\xff", -1, 0))
	look(t, "a life before 0", &b, head("", -1, 0), Old, "")
	look(t, "a life behind it", &b, head("\xff", 0, 0), New, "")
	long := strings.Repeat("a", 1000)
	keep(t, &b, long, math.MaxInt, 1, true)
	keep(t, &b, long, math.MaxInt-1, 2, false)
	keep(t, &b, long, math.MaxInt, 2, true)
	stands(t, "one more", &b, page("", 0, 0, -1), page("A b", math.MinInt, math.MinInt, math.MaxInt), page(long, math.MaxInt, 1, 2), page("\xff", -1, 0))
}

// A reply has any bytes, and as many as there are.
func TestKeepOfAnyReply(t *testing.T) {
	all := make([]byte, 4001)
	for k := range all {
		all[k] = byte(k)
	}
	var b Book
	for k, n := range []int{1, 255, 256, 4001} {
		b.Keep(head("a", 1, k), all[:n])
		if what, r := b.Look(head("a", 1, k)); what != Known || !bytes.Equal(r, all[:n]) {
			t.Errorf("%d bytes: %d, %d bytes", n, what, len(r))
		}
	}
}

// P12.1: All

func TestAll(t *testing.T) {
	var b Book
	want := []Page{page("", 1, 1), page("-", 1, 1), page("10", 1, 1), page("9", 1, 1), page("a", 1, 1), page("a-b", 1, 1)}
	for _, k := range []int{3, 5, 0, 4, 2, 1} {
		keep(t, &b, want[k].Worker, 1, 1, true)
	}
	stands(t, "by Worker", &b, want...)
	// Neither the lives nor the keys have a say in the order, nor which of them was asked last.
	keep(t, &b, "a", 9, 1, true)
	keep(t, &b, "-", 1, 2, true)
	want[1], want[4] = page("-", 1, 1, 2), page("a", 9, 1)
	stands(t, "by Worker yet", &b, want...)
}

// P12.1: Load

func TestLoad(t *testing.T) {
	l := six()
	b := with(t, l[3], l[5], l[0], l[2], l[4], l[1])
	stands(t, "in any order", b, l...)
	stands(t, "a book of what another one has", with(t, b.All()...), l...)
	// Of just these pages: nothing is left of those before.
	if !b.Load(page("z", 1, 1), page("b", 1, 4)) {
		t.Error("not loaded")
	}
	stands(t, "others", b, page("b", 1, 4), page("z", 1, 1))
	look(t, "one of before", b, head("a", 1, 1), New, "")
	keep(t, b, "b", 1, 9, true)
	keep(t, b, "a", 1, 1, true)
	stands(t, "going on", b, page("a", 1, 1), page("b", 1, 4, 9), page("z", 1, 1))
	if !b.Load() {
		t.Error("nothing: not loaded")
	}
	stands(t, "nothing", b)
	keep(t, b, "b", 1, 9, true)
	stands(t, "going on from nothing", b, page("b", 1, 9))
	if !b.Load([]Page{}...) {
		t.Error("the empty list: not loaded")
	}
	stands(t, "the empty list", b)
}

// The places of what was loaded tell which is the eldest.
func TestLoadThenKeep(t *testing.T) {
	b := with(t, page("a", 3, 4, 1, 3, 2))
	keep(t, b, "a", 3, 9, true)
	stands(t, "the eldest is gone", b, page("a", 3, 1, 3, 2, 9))
	keep(t, b, "a", 3, 4, true)
	stands(t, "and the next", b, page("a", 3, 3, 2, 9, 4))
}

// What is amiss with pages, wherever it stands: the book stays as it was.
func TestLoadRefuses(t *testing.T) {
	short, long := page("x", 1, 1, 2), page("x", 1, 1)
	short.Replies = short.Replies[:1]
	long.Replies = append(long.Replies, []byte("more"))
	many := page("x", 1, 1, 2, 3, 4)
	many.Replies = append(many.Replies, nil)
	for k, l := range [][]Page{
		append(six(), page("f", 1, 1)),
		append(six(), page("a", 1, 1)),
		append(six(), six()...),
		{page("x", 1, 1), page("x", 1, 1)},
		{page("x", 1, 1), page("x", 2, 2)},
		{page("x", 2, 1), page("y", 1, 1), page("x", 1, 2)},
		{page("", 1, 1), page("", 1, 1)},
		{short},
		{long},
		{many},
		{{}},
		{{Worker: "x", Inc: 1, Keys: []int{1}}},
		{{Worker: "x", Inc: 1, Replies: [][]byte{nil}}},
		{page("x", 1)},
		{{Worker: "x", Inc: 1, Keys: []int{}, Replies: [][]byte{}}},
		{page("x", 1, 1, 2, 3, 4, 5)},
		{page("x", 1, make([]int, 1000)...)},
		{page("x", 1, 1, 1)},
		{page("x", 1, 0, 0)},
		{page("x", 1, 1, 2, 3, 1)},
		{page("x", 1, 1, 2, 3, 3)},
		{page("x", 1, 2, 3, 3, 1)},
	} {
		// Ahead of others, behind them, and between.
		for at := range 3 {
			l := l
			if len(l) == 1 {
				l = slices.Insert([]Page{page("v", 1, 1), page("w", 1, 1)}, at, l...)
			}
			b := with(t, six()...)
			if b.Load(l...) {
				t.Errorf("%d, %d: loaded: %v", k, at, texts(l))
			}
			stands(t, "as it was", b, six()...)
			var none Book
			if none.Load(l...) {
				t.Errorf("%d, %d: loaded: %v", k, at, texts(l))
			}
			stands(t, "none", &none)
		}
	}
}

// Of a Worker, a life and a key nothing more is asked; a key may be there once for each worker.
func TestLoadOfAnyPages(t *testing.T) {
	l := []Page{page("", 0, 0), page("A", -1, -1, 0, 1), page("B", math.MinInt, math.MinInt), page("a", math.MaxInt, math.MaxInt, 0), page("\xff\x00", 1, 0)}
	stands(t, "any pages", with(t, l...), l...)
	look(t, "any pages", with(t, l...), head("A", -2, 0), Old, "")
	look(t, "any pages", with(t, l...), head("B", math.MinInt+1, math.MinInt), New, "")
}

// P12.1: Clone

func TestClone(t *testing.T) {
	want := []Page{page("a", 1, 1, 2, 3), page("b", 2, 4, 3, 2, 1)}
	b := with(t, want...)
	c := b.Clone()
	if c == b {
		t.Fatal("the same one")
	}
	stands(t, "the clone", c, want...)
	keep(t, b, "a", 1, 9, true)
	keep(t, b, "b", 2, 9, true)
	keep(t, b, "c", 1, 9, true)
	first := []Page{page("a", 1, 1, 2, 3, 9), page("b", 2, 3, 2, 1, 9), page("c", 1, 9)}
	stands(t, "the first one", b, first...)
	stands(t, "the clone, when the first one goes on", c, want...)
	keep(t, c, "a", 1, 8, true)
	keep(t, c, "b", 3, 8, true)
	keep(t, c, "d", 1, 8, true)
	second := []Page{page("a", 1, 1, 2, 3, 8), page("b", 3, 8), page("d", 1, 8)}
	stands(t, "the clone", c, second...)
	stands(t, "the first one, when the clone goes on", b, first...)
	d := c.Clone().Clone()
	stands(t, "a clone of a clone", d, second...)
	d.Load()
	stands(t, "none of it", d)
	stands(t, "the clone", c, second...)
	b.Load(page("z", 1, 1))
	stands(t, "the clone", c, second...)
}

// A clone of one that is full is full as well.
func TestCloneOfFull(t *testing.T) {
	c := with(t, six()...).Clone()
	look(t, "the clone", c, head("f", 1, 1), Many, "")
	keep(t, c, "f", 1, 1, false)
	stands(t, "the clone", c, six()...)
}

// P0.4, P0.5: memory and order

// What is handed in is not changed, not kept, and not read behind its length.
func TestHandedIn(t *testing.T) {
	var b Book
	room := []byte("abcdef")
	b.Keep(head("a", 1, 1), room[1:3])
	b.Keep(head("a", 1, 2), room[:0])
	b.Look(head("a", 1, 1))
	if string(room) != "abcdef" {
		t.Errorf("changed: %q", room)
	}
	copy(room, "xxxxxx")
	want := Page{Worker: "a", Inc: 1, Keys: []int{1, 2}, Replies: [][]byte{[]byte("bc"), nil}}
	stands(t, "written over", &b, want)
}

func TestHandedInToLoad(t *testing.T) {
	l := six()
	for k := range l {
		// Spare room, with something in it.
		l[k].Keys = append(l[k].Keys, 77)[:len(l[k].Keys)]
		l[k].Replies = append(l[k].Replies, []byte("spare"))[:len(l[k].Replies)]
		for j, r := range l[k].Replies {
			l[k].Replies[j] = append(r, "spare"...)[:len(r)]
		}
	}
	slices.Reverse(l)
	b := with(t, l[:5]...)
	keep(t, b, "f", 1, 1, true)
	keep(t, b, "b", 5, 1, true)
	keep(t, b, "c", 2, 9, true)
	slices.Reverse(l)
	for k, p := range l {
		if text(p) != text(six()[k]) || p.Keys[:len(p.Keys)+1][len(p.Keys)] != 77 || string(p.Replies[:len(p.Keys)+1][len(p.Keys)]) != "spare" {
			t.Errorf("changed: %s", text(p))
		}
		for j, r := range p.Replies {
			if n := len(r); string(r[n:n+5]) != "spare" {
				t.Errorf("changed behind %s, %d", text(p), j)
			}
		}
		spoil(p)
		l[k] = Page{}
	}
	stands(t, "written over", b, page("b", 5, 8, 7, 6, 1), page("c", 2, 3, 1, 9), six()[3], six()[4], six()[5], page("f", 1, 1))
}

// One memory handed in at several places is several books' own, and several pages'.
func TestHandedInTwice(t *testing.T) {
	keys, replies := make([]int, 1, 9), make([][]byte, 1, 9)
	replies[0] = make([]byte, 1, 9)
	one, other := Page{Worker: "a", Inc: 1, Keys: keys, Replies: replies}, Page{Worker: "b", Inc: 1, Keys: keys, Replies: replies}
	b, c := with(t, one, other), with(t, other, one)
	b.Keep(head("a", 1, 5), []byte("five"))
	b.Keep(head("b", 1, 6), []byte("six"))
	c.Keep(head("a", 1, 7), []byte("seven"))
	zero := []byte{0}
	stands(t, "the one", b, Page{"a", 1, []int{0, 5}, [][]byte{zero, []byte("five")}}, Page{"b", 1, []int{0, 6}, [][]byte{zero, []byte("six")}})
	stands(t, "the other", c, Page{"a", 1, []int{0, 7}, [][]byte{zero, []byte("seven")}}, Page{"b", 1, []int{0}, [][]byte{zero}})
}

// spoil writes over all of p's lists, their spare room too.
func spoil(p Page) {
	for _, r := range p.Replies[:cap(p.Replies)] {
		scrawl(r)
	}
	p.Keys, p.Replies = p.Keys[:cap(p.Keys)], p.Replies[:cap(p.Replies)]
	for k := range p.Keys {
		p.Keys[k] = 99
	}
	for k := range p.Replies {
		p.Replies[k] = []byte("spoilt")
	}
}

// scrawl writes over all of r, its spare room too.
func scrawl(r []byte) {
	r = r[:cap(r)]
	for k := range r {
		r[k] = '#'
	}
}

func TestHandedOut(t *testing.T) {
	b := with(t, six()...)
	c := b.Clone()
	for _, from := range []*Book{b, c} {
		for _, p := range six() {
			for _, key := range p.Keys {
				_, r := from.Look(head(p.Worker, p.Inc, key))
				scrawl(r)
			}
		}
		l := from.All()
		for k, p := range l {
			spoil(p)
			// Those behind it in the same answer don't show it.
			if !slices.Equal(texts(l[k+1:]), texts(six()[k+1:])) {
				t.Errorf("%d is spoiled: %v", k, texts(l[k+1:]))
			}
		}
		clear(l[:cap(l)])
		stands(t, "written over", b, six()...)
		stands(t, "its clone", c, six()...)
	}
}

// What was handed out ahead of a change doesn't show it, and no list of one answer shows another one of it.
func TestHandedOutAhead(t *testing.T) {
	b := with(t, page("a", 1, 1, 2, 3, 4), page("b", 1, 1))
	before, c := b.All(), b.Clone()
	_, reply := b.Look(head("a", 1, 1))
	for key := 5; key < 12; key++ {
		keep(t, b, "a", 1, key, true)
		keep(t, b, "b", key, key, true)
	}
	if got := texts(before); !slices.Equal(got, texts([]Page{page("a", 1, 1, 2, 3, 4), page("b", 1, 1)})) || string(reply) != "a.1.1" {
		t.Errorf("changed: %v, %q", got, reply)
	}
	stands(t, "the clone", c, before...)
	p := b.All()[0]
	for k, r := range p.Replies {
		scrawl(r)
		for j := k + 1; j < 4; j++ {
			if string(p.Replies[j]) != string(answer("a", 1, p.Keys[j])) {
				t.Errorf("%d shows what was written to %d: %q", j, k, p.Replies[j])
			}
		}
	}
}

// The same calls tell the same, however often they are made.
func TestSameAgain(t *testing.T) {
	for range 50 {
		b := with(t, six()...)
		stands(t, "again", b, six()...)
		stands(t, "the clone again", b.Clone(), six()...)
	}
}
