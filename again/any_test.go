package again

import (
	"math"
	"slices"
	"strings"
	"testing"

	"leasehold/api"
)

// chance is a source of numbers in no plain order, the same each time.
type chance uint32

func (x *chance) below(n int) int {
	*x ^= *x << 13
	*x ^= *x >> 17
	*x ^= *x << 5
	return int(uint32(*x) >> 8 % uint32(n))
}

// one is one of l.
func one[T any](x *chance, l ...T) T { return l[x.below(len(l))] }

// several is up to n of what is made.
func several[T any](x *chance, n int, made func(x *chance) T) []T {
	var l []T
	for range x.below(n + 1) {
		l = append(l, made(x))
	}
	return l
}

// someWorker is one of a few more than there is room for.
func someWorker(x *chance) string { return one(x, "a", "aa", "b", "c", "d", "e", "f", "") }

// someNumber is a life or a key.
func someNumber(x *chance) int {
	if x.below(20) == 0 {
		return one(x, 0, -1, 1<<30, math.MaxInt, math.MinInt)
	}
	return 1 + x.below(6)
}

// someReply is a few bytes.
func someReply(x *chance) []byte {
	return several(x, 3, func(x *chance) byte { return byte(x.below(256)) })
}

// somePage is most often one that a book may have.
func somePage(x *chance) Page {
	p := Page{Worker: someWorker(x), Inc: someNumber(x)}
	for range 1 + x.below(4) {
		p.Keys, p.Replies = append(p.Keys, someNumber(x)), append(p.Replies, someReply(x))
	}
	switch x.below(20) {
	case 0:
		p.Keys = p.Keys[1:]
	case 1:
		p.Replies = append(p.Replies, someReply(x))
	case 2:
		p.Keys, p.Replies = nil, nil
	case 3:
		p.Keys, p.Replies = append(p.Keys, 7), append(p.Replies, someReply(x))
	}
	return p
}

// line is one answer that is kept.
type line struct {
	h     api.Head
	reply string
}

// words is a book as the chapter tells of it, by trying all there is: the answers, the eldest first.
type words []line

// of is those of a worker.
func (w words) of(worker string) words {
	return slices.DeleteFunc(slices.Clone(w), func(l line) bool { return l.h.Worker != worker })
}

// workers is whose answers there are, by name.
func (w words) workers() []string {
	var out []string
	for _, l := range w {
		if !slices.Contains(out, l.h.Worker) {
			out = append(out, l.h.Worker)
		}
	}
	slices.Sort(out)
	return out
}

// look is Look in the chapter's words.
func (w words) look(h api.Head) (int, string) {
	for _, l := range w.of(h.Worker) {
		if l.h.Inc > h.Inc {
			return 2, ""
		}
	}
	for _, l := range w {
		if l.h == h {
			return 1, l.reply
		}
	}
	if len(w.of(h.Worker)) == 0 && len(w.workers()) == 6 {
		return 3, ""
	}
	return 0, ""
}

// without is w without those lines.
func (w words) without(l words) words {
	return slices.DeleteFunc(slices.Clone(w), func(x line) bool { return slices.Contains(l, x) })
}

// keep is w with that answer, which is a New one.
func (w words) keep(h api.Head, reply []byte) words {
	mine := w.of(h.Worker)
	switch {
	case len(mine) > 0 && mine[0].h.Inc < h.Inc:
		w = w.without(mine)
	case len(mine) == 4:
		w = w.without(mine[:1])
	}
	return append(slices.Clone(w), line{h, string(reply)})
}

// all is All in the chapter's words.
func (w words) all() []Page {
	var out []Page
	for _, worker := range w.workers() {
		mine := w.of(worker)
		p := Page{Worker: worker, Inc: mine[0].h.Inc}
		for _, l := range mine {
			p.Keys, p.Replies = append(p.Keys, l.h.Key), append(p.Replies, []byte(l.reply))
		}
		out = append(out, p)
	}
	return out
}

// loaded is a book of just these pages, if there may be one.
func loaded(l []Page) (words, bool) {
	var w words
	workers := map[string]int{}
	for _, p := range l {
		workers[p.Worker]++
		keys := map[int]int{}
		for k, key := range p.Keys {
			keys[key]++
			if k < len(p.Replies) {
				w = append(w, line{head(p.Worker, p.Inc, key), string(p.Replies[k])})
			}
		}
		if len(p.Keys) != len(p.Replies) || len(p.Keys) == 0 || len(p.Keys) > 4 || len(keys) < len(p.Keys) {
			return nil, false
		}
	}
	return w, len(workers) == len(l) && len(l) <= 6
}

// ask holds what b tells of a head, and all that it has, against w.
func ask(t *testing.T, b *Book, w words, h api.Head, took map[string]int) {
	t.Helper()
	want, reply := w.look(h)
	if got, r := b.Look(h); got != want || string(r) != reply {
		t.Fatalf("look of %v in %v: %d, %q, not %d, %q", h, w, got, r, want, reply)
	}
	took[[]string{"new", "known", "old", "many"}[want]]++
	if got := texts(b.All()); !slices.Equal(got, texts(w.all())) {
		t.Fatalf("all: %v, not %v", got, texts(w.all()))
	}
}

// All calls, one behind the other, on books of which some are clones of others.
func TestAnyBook(t *testing.T) {
	x, took := chance(2463534242), map[string]int{}
	for range 300 {
		l, ws := []*Book{{}, {}, {}}, make([]words, 3)
		for range 100 {
			k := x.below(3)
			h := head(someWorker(&x), someNumber(&x), someNumber(&x))
			switch n := x.below(40); {
			case n == 0:
				to := x.below(3)
				l[to], ws[to] = l[k].Clone(), ws[k]
			case n < 3:
				pages := several(&x, 7, somePage)
				w, is := loaded(pages)
				if l[k].Load(pages...) != is {
					t.Fatalf("load of %v: not %t", texts(pages), is)
				}
				if is {
					took["loaded"]++
					ws[k] = w
				} else {
					took["not loaded"]++
				}
			default:
				reply := someReply(&x)
				what, _ := ws[k].look(h)
				if l[k].Keep(h, reply) != (what == 0) {
					t.Fatalf("keep of %v in %v: not %t", h, ws[k], what == 0)
				}
				if what == 0 {
					took["kept"]++
					ws[k] = ws[k].keep(h, reply)
				}
			}
			for k := range l {
				ask(t, l[k], ws[k], h, took)
			}
		}
	}
	for _, what := range []string{"new", "known", "old", "many", "kept", "loaded", "not loaded"} {
		if took[what] < 200 {
			t.Errorf("%s: only %d times", what, took[what])
		}
	}
}

// A book that is asked for very long has no more than it has to, and each call ends soon.
func TestVeryLong(t *testing.T) {
	var b Book
	for n := range 300000 {
		worker := string(rune('a' + n%6))
		if !b.Keep(head(worker, 1+n/1000, n), []byte("reply")) {
			t.Fatalf("%d: not kept", n)
		}
	}
	for k, p := range b.All() {
		if p.Worker != string(rune('a'+k)) || p.Inc != 300 || len(p.Keys) != 4 || p.Keys[3]-p.Keys[0] != 18 || p.Keys[3] < 299994 {
			t.Errorf("%d: %s", k, text(p))
		}
	}
	many := slices.Repeat([]Page{page(strings.Repeat("x", 1<<20), 1, 1)}, 100000)
	if b.Load(many...) || b.Load(page("a", 1, make([]int, 100000)...)) {
		t.Error("loaded")
	}
}
