package lease

import (
	"math"
	"testing"

	"leasehold/api"
)

// chance is a source of numbers in no plain order, the same each time.
type chance uint32

func (x *chance) below(n int) int {
	*x ^= *x << 13
	*x ^= *x >> 17
	*x ^= *x << 5
	return int(uint32(*x) >> 8 % uint32(n))
}

// one is one of l.
func one[T any](x *chance, l ...T) T { return l[x.below(len(l))] }

// around is a number of which most are within its limits, few are at them, and fewer are without.
func around(x *chance, least, most int) int {
	switch x.below(12) {
	case 0:
		return least
	case 1:
		return most
	case 2:
		return one(x, least-1, most+1, math.MaxInt, math.MinInt)
	}
	return least + x.below(most-least+1)
}

// words hold the calls against the chapter: what a task has to be, beside it as it is.
type words struct {
	t        api.Task
	now      int64
	took     map[string]int // by what was asked, and what was said: how often
	lastHeld int            // the epoch of the last lease
}

// count notes that so was answered to what.
func (w *words) count(what string, is bool) {
	if is {
		w.took[what]++
		return
	}
	w.took["not "+what]++
}

// free is Free in the chapter's words.
func (w *words) free() bool {
	switch {
	case w.t.Broken, w.t.After > w.now, w.t.Expiry > w.now, w.t.Epoch >= 60:
		return false
	}
	return true
}

// take tries Take.
func (w *words) take(t *testing.T, x *chance) {
	worker, span := one(x, "amy", "bob", "cy", "", "Bob"), int64(around(x, 1, 1000))
	want, yes := w.t, w.free() && worker != "" && worker != "Bob" && span >= 1 && span <= 1000
	if yes {
		want.Worker, want.Expiry, want.Epoch = worker, w.now+span, w.lastHeld+1
		w.lastHeld++
	}
	got, is := Take(w.t, worker, w.now, span)
	w.hold(t, "take", got, want, is, yes)
}

// longer tries Longer.
func (w *words) longer(t *testing.T, x *chance) {
	span := int64(around(x, 1, 1000))
	want, yes := w.t, span >= 1 && span <= 1000 && w.t.Worker != ""
	if yes {
		want.Expiry = w.now + span
	}
	got, is := Longer(w.t, w.now, span)
	w.hold(t, "longer", got, want, is, yes)
}

// leave tries Leave.
func (w *words) leave(t *testing.T) {
	want := w.t
	want.Worker, want.Expiry = "", 0
	w.hold(t, "leave", Leave(w.t), want, true, true)
}

// fail tries Fail.
func (w *words) fail(t *testing.T, x *chance) {
	retries, wait := around(x, 0, 9), int64(around(x, 0, 1000))
	want, yes := w.t, retries >= 0 && retries <= 9 && wait >= 0 && wait <= 1000
	if yes {
		want.Worker, want.Expiry, want.Retries, want.After, want.Broken = "", 0, retries, w.now+wait, retries == 0
	}
	got, is := Fail(w.t, retries, w.now, wait)
	w.hold(t, "fail", got, want, is, yes)
}

// repair tries Repair.
func (w *words) repair(t *testing.T, x *chance) {
	retries := around(x, 1, 9)
	want, yes := w.t, w.t.Broken && retries >= 1 && retries <= 9
	if yes {
		want.Retries, want.Broken = retries, false
	}
	got, is := Repair(w.t, retries)
	w.hold(t, "repair", got, want, is, yes)
}

// hold holds an answer against what it has to be, and goes on from there.
func (w *words) hold(t *testing.T, what string, got, want api.Task, is, yes bool) {
	t.Helper()
	if is != yes || got != want {
		t.Fatalf("%s of %v at %d: %v, %t, not %v, %t", what, w.t, w.now, got, is, want, yes)
	}
	if !Check(got) {
		t.Fatalf("%s of %v at %d: %v is no task", what, w.t, w.now, got)
	}
	w.t = got
	w.count(what, is)
}

// ask holds what is told of the task against the chapter.
func (w *words) ask(t *testing.T, x *chance) {
	t.Helper()
	if is := Free(w.t, w.now); is != w.free() {
		t.Fatalf("%v at %d: free %t", w.t, w.now, is)
	}
	w.count("free", w.free())
	when, is := When(w.t)
	if yes := !w.t.Broken && w.t.Epoch != 60; is != yes || !is && when != 0 || is && (!Free(w.t, when) || when > 0 && Free(w.t, when-1)) {
		t.Fatalf("%v: when %d, %t", w.t, when, is)
	}
	w.count("when", is)
	worker, epoch := one(x, "amy", "bob", "", w.t.Worker, w.t.Worker), one(x, w.lastHeld, w.lastHeld, w.lastHeld, w.lastHeld-1, around(x, 0, 60))
	want, name := 0, "holds"
	switch {
	case w.t.Worker == "", worker != w.t.Worker, epoch != w.t.Epoch:
		want, name = 4, "holds, not yours"
	case w.t.Expiry <= w.now:
		want, name = 5, "holds, expired"
	}
	if got := Holds(w.t, worker, epoch, w.now); got != want {
		t.Fatalf("%v: %q, %d at %d: %d, not %d", w.t, worker, epoch, w.now, got, want)
	}
	w.count(name, true)
}

// All calls, one behind the other, on tasks that grow old.
func TestAnyTask(t *testing.T) {
	x, took := chance(2463534242), map[string]int{}
	for range 3000 {
		w := words{t: idle(), took: took, now: int64(x.below(3))}
		for w.now <= maxTime {
			w.ask(t, &x)
			switch x.below(12) {
			case 0:
				w.longer(t, &x)
			case 1:
				w.leave(t)
			case 2:
				w.fail(t, &x)
			case 3, 4:
				w.repair(t, &x)
			case 5, 6, 7, 8, 9, 10:
				w.take(t, &x)
			}
			w.now += int64(one(&x, 0, 1, x.below(300), x.below(2000)))
			// Some come to the last tick, where they end.
			if x.below(150) == 0 {
				w.now = max(w.now, maxTime-int64(x.below(2000)))
			}
		}
	}
	for _, what := range []string{"free", "not free", "when", "not when", "holds", "holds, not yours", "holds, expired", "take", "not take", "longer", "not longer", "leave", "fail", "not fail", "repair", "not repair"} {
		if took[what] < 1000 {
			t.Errorf("%s: only %d times", what, took[what])
		}
	}
}

// right is Check in the chapter's words, one by one.
func right(t api.Task) bool {
	named := func(s string) bool { return s == "amy" || s == "a" || s == "paint" }
	switch {
	case t.ID < 1, t.Instance < 1, t.Token < 1, t.Node < 0, !named(t.Topic), t.Priority < 0, t.Priority > 9, t.Epoch < 0, t.Epoch > 60,
		t.Expiry < 0, t.Expiry > 2*maxTime, t.After < 0, t.After > 2*maxTime, t.Retries < 0, t.Retries > 9:
		return false
	case t.Retries == 0 && !t.Broken, t.Retries != 0 && t.Broken:
		return false
	case t.Worker == "":
		return t.Expiry == 0
	}
	return named(t.Worker) && t.Expiry > 0 && t.Epoch > 0
}

// wild is a number of any kind.
func wild(x *chance) int64 {
	return one[int64](x, 0, 1, -1, 2, 5, 9, 10, 60, 61, 1000, 1001, maxTime, maxTime+1, 2*maxTime, 2*maxTime+1, math.MaxInt64, math.MinInt64)
}

// mixed is a task of which some numbers are any at all.
func mixed(x *chance, often int) api.Task {
	t := one(x, idle(), held(), left(), broken())
	for _, p := range []*int{&t.ID, &t.Instance, &t.Token, &t.Node, &t.Priority, &t.Epoch, &t.Retries} {
		if x.below(often) == 0 {
			*p = int(wild(x))
		}
	}
	for _, p := range []*int64{&t.Expiry, &t.After} {
		if x.below(often) == 0 {
			*p = wild(x)
		}
	}
	for _, p := range []*string{&t.Topic, &t.Worker} {
		if x.below(often) == 0 {
			*p = one(x, "", "amy", "a", "A", "a b", "\xff", xs(25))
		}
	}
	if x.below(often) == 0 {
		t.Broken = !t.Broken
	}
	return t
}

func TestCheckOfAnyTask(t *testing.T) {
	x, n := chance(521288629), [2]int{}
	for range 200000 {
		y := mixed(&x, 12)
		want := right(y)
		if Check(y) != want {
			t.Fatalf("%v: %t", y, !want)
		}
		if want {
			n[1]++
		} else {
			n[0]++
		}
	}
	if n[0] < 50000 || n[1] < 50000 {
		t.Errorf("too few of some kind: %v", n)
	}
}

// Of what is no task nothing is asked but that each call ends; and beside a false is what was handed in.
func TestWildTasks(t *testing.T) {
	x := chance(88675123)
	for range 200000 {
		y, now := mixed(&x, 2), wild(&x)
		if n, is := When(y); !is && n != 0 {
			t.Fatalf("%v: when %d", y, n)
		}
		Free(y, now)
		Check(y)
		Leave(y)
		if got := Holds(y, one(&x, "", "amy", "A"), int(wild(&x)), now); got != api.Fine && got != api.NotYours && got != api.Expired {
			t.Fatalf("%v: holds %d", y, got)
		}
		if got, is := Take(y, one(&x, "", "amy", "A"), now, wild(&x)); !is && got != y {
			t.Fatalf("%v: take %v", y, got)
		}
		if got, is := Longer(y, now, wild(&x)); !is && got != y {
			t.Fatalf("%v: longer %v", y, got)
		}
		if got, is := Fail(y, int(wild(&x)), now, wild(&x)); !is && got != y {
			t.Fatalf("%v: fail %v", y, got)
		}
		if got, is := Repair(y, int(wild(&x))); !is && got != y {
			t.Fatalf("%v: repair %v", y, got)
		}
	}
}
