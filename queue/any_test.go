package queue

import (
	"math"
	"slices"
	"strconv"
	"testing"

	"leasehold/api"
	"leasehold/lease"
)

// chance is a source of numbers in no plain order, the same each time.
type chance uint32

func (x *chance) below(n int) int {
	*x ^= *x << 13
	*x ^= *x >> 17
	*x ^= *x << 5
	return int(uint32(*x) >> 8 % uint32(n))
}

// one is one of l.
func one[T any](x *chance, l ...T) T { return l[x.below(len(l))] }

// several is up to n of what is made.
func several[T any](x *chance, n int, made func(x *chance) T) []T {
	var l []T
	for range x.below(n + 1) {
		l = append(l, made(x))
	}
	return l
}

// someID is one of few.
func someID(x *chance) int { return 1 + x.below(20) }

// someTopic is one of few, of which no task has the last two.
func someTopic(x *chance) string { return one(x, "a", "b", "c", "d", "dd", "") }

// someTask is a task that lease.Check takes.
func someTask(x *chance) api.Task {
	t := task(someID(x), x.below(4), one(x, "a", "b", "c", "d"))
	switch x.below(8) {
	case 0, 1:
		t = held(t, int64(1+x.below(60)))
	case 2:
		t = broken(t)
	case 3:
		t = old(t)
	}
	if x.below(3) == 0 {
		t = waiting(t, int64(x.below(60)))
	}
	return t
}

// words is a queue as the chapter tells of it, by trying all there is: the tasks, as they came.
type words []api.Task

// put is w with l.
func (w words) put(l []api.Task) words {
	for _, t := range l {
		w, _ = w.drop([]int{t.ID})
		w = append(w, t)
	}
	return w
}

// drop is w without those of l, and how many those were.
func (w words) drop(l []int) (words, int) {
	var out words
	for _, t := range w {
		if !slices.Contains(l, t.ID) {
			out = append(out, t)
		}
	}
	return out, len(w) - len(out)
}

// all is w by ID.
func (w words) all() []api.Task {
	var out []api.Task
	for id := range 40 {
		for _, t := range w {
			if t.ID == id {
				out = append(out, t)
			}
		}
	}
	return out
}

// pick takes the first one out of those that are right, and that again.
func (w words) pick(now int64, most int, topics []string) []api.Task {
	var out []api.Task
	for len(out) < most {
		first := -1
		for k, t := range w {
			if !slices.Contains(topics, t.Topic) || !lease.Free(t, now) || slices.Contains(out, t) {
				continue
			}
			if first < 0 || t.Priority > w[first].Priority || t.Priority == w[first].Priority && t.ID < w[first].ID {
				first = k
			}
		}
		if first < 0 {
			break
		}
		out = append(out, w[first])
	}
	return out
}

// soonest is the least time of one that is not Free.
func (w words) soonest(now int64, topics []string) (int64, bool) {
	var times []int64
	for _, t := range w {
		if when, is := lease.When(t); is && slices.Contains(topics, t.Topic) && !lease.Free(t, now) && when > now {
			times = append(times, when)
		}
	}
	if times == nil {
		return 0, false
	}
	return slices.Min(times), true
}

// ask holds all that q tells against w, and counts what came of it.
func ask(t *testing.T, x *chance, q *Queue, w words, took map[string]int) {
	t.Helper()
	if got := q.All(); !slices.Equal(got, w.all()) || q.Len() != len(w) {
		t.Fatalf("all: %v, %d, not %v", got, q.Len(), w.all())
	}
	id, want := someID(x), api.Task{}
	k := slices.IndexFunc(w, func(t api.Task) bool { return t.ID == id })
	if k >= 0 {
		want = w[k]
	}
	if got, is := q.Get(id); got != want || is != (k >= 0) {
		t.Fatalf("get %d: %v, %t, not %v", id, got, is, want)
	}
	count(took, "get", k >= 0)
	now, most, topics := int64(x.below(65)), x.below(7)-1, several(x, 4, someTopic)
	picked := w.pick(now, most, topics)
	if got := q.Pick(now, most, topics...); !slices.Equal(got, picked) {
		t.Fatalf("pick of %v: %d at %d of %v: %v, not %v", w, most, now, topics, got, picked)
	}
	count(took, "pick", len(picked) > 0)
	count(took, "pick of as many", most > 0 && len(picked) == most)
	at, yes := w.soonest(now, topics)
	if got, is := q.Soonest(now, topics...); got != at || is != yes {
		t.Fatalf("soonest of %v: at %d of %v: %d, %t, not %d, %t", w, now, topics, got, is, at, yes)
	}
	count(took, "soonest", yes)
}

// count notes that so was answered to what.
func count(took map[string]int, what string, is bool) {
	if !is {
		what = "not " + what
	}
	took[what]++
}

// All calls, one behind the other, on queues of which some are clones of others.
func TestAnyQueue(t *testing.T) {
	x, took := chance(2463534242), map[string]int{}
	for range 300 {
		l, ws := []*Queue{{}, {}, {}}, make([]words, 3)
		for range 60 {
			k := x.below(3)
			switch x.below(6) {
			case 0, 1, 2:
				put := several(&x, 5, someTask)
				l[k].Put(put...)
				ws[k] = ws[k].put(put)
			case 3, 4:
				drop := several(&x, 4, someID)
				left, want := ws[k].drop(drop)
				if n := l[k].Drop(drop...); n != want {
					t.Fatalf("drop %v of %v: %d, not %d", drop, ws[k], n, want)
				}
				count(took, "drop", want > 0)
				ws[k] = left
			case 5:
				to := x.below(3)
				l[to], ws[to] = l[k].Clone(), slices.Clone(ws[k])
				count(took, "clone", true)
			}
			for k := range l {
				ask(t, &x, l[k], ws[k], took)
			}
		}
	}
	for _, what := range []string{"get", "not get", "pick", "not pick", "pick of as many", "not pick of as many", "soonest", "not soonest", "drop", "not drop", "clone"} {
		if took[what] < 1000 {
			t.Errorf("%s: only %d times", what, took[what])
		}
	}
}

// wild is a number of any kind.
func wild(x *chance) int64 {
	return one[int64](x, 0, 1, -1, 2, 9, 10, 59, 60, 61, maxTime, 2*maxTime, 2*maxTime+1, math.MaxInt64, math.MinInt64)
}

// wildTask is a task that lease.Check most likely doesn't take.
func wildTask(x *chance) api.Task {
	n := func() int { return int(wild(x)) }
	return api.Task{ID: n(), Instance: n(), Token: n(), Node: n(), Topic: wildText(x), Priority: n(), Worker: wildText(x), Epoch: n(), Expiry: wild(x), After: wild(x), Retries: n(), Broken: x.below(3) == 0}
}

// wildText is a text of which few are names.
func wildText(x *chance) string { return one(x, "", "a", "A", "\xff", "a b", "\x00") }

// Of any tasks at all each call ends, and what is picked is as it has to be.
func TestWildQueues(t *testing.T) {
	x := chance(88675123)
	for range 5000 {
		var q Queue
		for range 8 {
			q.Put(several(&x, 5, wildTask)...)
			q.Drop(int(wild(&x)), int(wild(&x)))
			now, topics := wild(&x), several(&x, 4, wildText)
			l := q.Pick(now, int(wild(&x)), topics...)
			for k, y := range l {
				if !lease.Free(y, now) || !slices.Contains(topics, y.Topic) || k > 0 && order(l[k-1], y) >= 0 {
					t.Fatalf("at %d of %v: %v", now, topics, l)
				}
			}
			if at, is := q.Soonest(now, topics...); is && at <= now || !is && at != 0 {
				t.Fatalf("at %d of %v: %d, %t", now, topics, at, is)
			}
			all := q.Clone().All()
			if len(all) != q.Len() || !slices.IsSortedFunc(all, byID) {
				t.Fatalf("%d of %v", q.Len(), all)
			}
		}
	}
}

// Many tasks, put one by one from the greatest ID on, and many topics: each call ends soon.
func TestManyTasks(t *testing.T) {
	const many = 100000
	var q Queue
	topics := make([]string, many)
	for id := many; id > 0; id-- {
		topics[id-1] = "t" + strconv.Itoa(id%1000)
		q.Put(task(id, id%10, topics[id-1]))
	}
	if l := q.Pick(0, 3, topics...); !slices.Equal(ids(l), []int{9, 19, 29}) {
		t.Errorf("pick: %v", ids(l))
	}
	if at, is := q.Soonest(0, topics...); at != 0 || is {
		t.Errorf("soonest: %d, %t", at, is)
	}
	if l := q.Clone().All(); len(l) != many || l[0].ID != 1 || l[many-1].ID != many {
		t.Errorf("all: %d", len(l))
	}
	for id := range many {
		if n := q.Drop(id + 1); n != 1 {
			t.Fatalf("drop %d: %d", id+1, n)
		}
	}
	stands(t, "none", &q)
}
