package queue

import (
	"math"
	"slices"
	"testing"

	"leasehold/api"
	"leasehold/lease"
)

// maxTime is the limit, as the number that it is.
const maxTime = 1099511627776

// task is one that is Free from 0 on.
func task(id, priority int, topic string) api.Task {
	return api.Task{ID: id, Instance: 1, Token: id, Topic: topic, Priority: priority, Retries: 1}
}

// waiting is t, not to be tried ahead of after.
func waiting(t api.Task, after int64) api.Task {
	t.After = after
	return t
}

// held is t on a lease of amy's that ends at expiry.
func held(t api.Task, expiry int64) api.Task {
	t.Worker, t.Epoch, t.Expiry = "amy", 1, expiry
	return t
}

// broken is t, not to be tried any more.
func broken(t api.Task) api.Task {
	t.Retries, t.Broken = 0, true
	return t
}

// old is t with no lease left to be given.
func old(t api.Task) api.Task {
	t.Epoch = 60
	return t
}

// with is a queue of l.
func with(l ...api.Task) *Queue {
	var q Queue
	q.Put(l...)
	return &q
}

// some is tasks of each kind, by their IDs.
func some() []api.Task {
	return []api.Task{
		task(2, 4, "b"),
		task(3, 4, "a"),
		task(4, 9, "c"),
		task(5, 1, "a"),
		waiting(task(6, 9, "a"), 50),
		held(task(7, 9, "b"), 30),
		broken(task(8, 9, "a")),
		task(9, 4, "a"),
		old(task(10, 9, "b")),
		waiting(held(task(11, 0, "d"), 80), 20),
		waiting(held(task(12, 0, "e"), 20), 80),
	}
}

// ids is the IDs of l.
func ids(l []api.Task) []int {
	var out []int
	for _, t := range l {
		out = append(out, t.ID)
	}
	return out
}

// tell holds l against the IDs that it has to have, in that order.
func tell(t *testing.T, what string, l []api.Task, want ...int) {
	t.Helper()
	if !slices.Equal(ids(l), want) {
		t.Errorf("%s: %v, not %v", what, ids(l), want)
	}
}

// stands holds q against all that it has to have, by ID, in each way in which that can be told.
func stands(t *testing.T, what string, q *Queue, want ...api.Task) {
	t.Helper()
	if got := q.All(); !slices.Equal(got, want) {
		t.Errorf("%s: all: %v, not %v", what, got, want)
	}
	if q.Len() != len(want) {
		t.Errorf("%s: %d, not %d", what, q.Len(), len(want))
	}
	for _, x := range want {
		if got, is := q.Get(x.ID); got != x || !is {
			t.Errorf("%s: of %d: %v, %t, not %v", what, x.ID, got, is, x)
		}
	}
}

// P11.1: the zero value

func TestZeroValue(t *testing.T) {
	var q Queue
	stands(t, "the zero value", &q)
	tell(t, "pick", q.Pick(0, 5, "a"))
	tell(t, "pick of the empty topic", q.Pick(0, 5, ""))
	if at, is := q.Soonest(0, "a"); at != 0 || is {
		t.Errorf("soonest: %d, %t", at, is)
	}
	if n := q.Drop(0, 1); n != 0 {
		t.Errorf("drop: %d", n)
	}
	if x, is := q.Get(0); x != (api.Task{}) || is {
		t.Errorf("get: %v, %t", x, is)
	}
	c := q.Clone()
	if c == nil {
		t.Fatal("no clone")
	}
	stands(t, "its clone", c)
	c.Put(task(1, 1, "a"))
	stands(t, "it, when its clone has one", &q)
	stands(t, "its clone", c, task(1, 1, "a"))
	q.Put()
	stands(t, "it with nothing put", &q)
}

// P11.1: Put

func TestPut(t *testing.T) {
	l := some()
	stands(t, "at once", with(l...), l...)
	back := slices.Clone(l)
	slices.Reverse(back)
	stands(t, "from the last one on", with(back...), l...)
	var q Queue
	for k, x := range back {
		q.Put(x)
		stands(t, "one by one", &q, l[len(l)-1-k:]...)
	}
	q.Put()
	q.Put([]api.Task{}...)
	stands(t, "and nothing more", &q, l...)
}

// One in the place of another one is all of it: nothing of the other one is left.
func TestPutInThePlace(t *testing.T) {
	q := with(some()...)
	want := some()
	want[0] = task(2, 0, "d")
	q.Put(want[0])
	stands(t, "another one", q, want...)
	tell(t, "of its topic before", q.Pick(30, 9, "b"), 7)
	tell(t, "of its topic now", q.Pick(30, 9, "d"), 2)
	q.Put(want[0])
	stands(t, "the same one again", q, want...)
	want[5] = api.Task{ID: 7}
	q.Put(want[5])
	stands(t, "with nothing but its ID", q, want...)
	if at, is := q.Soonest(0, "b"); at != 0 || is {
		t.Errorf("soonest of what was there before: %d, %t", at, is)
	}
}

// Each is put: so of several of one ID the last one is in the place of those before it.
func TestPutOfOneID(t *testing.T) {
	q := with(task(3, 1, "a"), task(4, 1, "a"), task(3, 2, "b"), task(3, 0, "c"))
	stands(t, "three of one", q, task(3, 0, "c"), task(4, 1, "a"))
	tell(t, "pick", q.Pick(0, 9, "a", "b", "c"), 4, 3)
}

// An ID is a number like another one, and no place: what is put is there, whatever it is.
func TestPutOfAnyID(t *testing.T) {
	l := []api.Task{{ID: math.MinInt}, task(-2, 3, "a"), task(-1, 3, "a"), {}, task(1, 3, "a"), {ID: math.MaxInt, Topic: "a", Priority: 3}}
	q := with(l[3], l[5], l[1], l[0], l[4], l[2])
	stands(t, "any IDs", q, l...)
	tell(t, "pick", q.Pick(0, 9, "a"), -2, -1, 1, math.MaxInt)
	tell(t, "pick of the empty topic", q.Pick(0, 9, ""), math.MinInt, 0)
	if n := q.Drop(math.MinInt, 0, -1, math.MaxInt); n != 4 {
		t.Errorf("drop: %d", n)
	}
	stands(t, "two of them", q, l[1], l[4])
}

// P11.1: Drop

func TestDrop(t *testing.T) {
	for k, c := range []struct {
		drop []int
		n    int
		left []int
	}{
		{nil, 0, []int{2, 3, 5}},
		{[]int{}, 0, []int{2, 3, 5}},
		{[]int{2}, 1, []int{3, 5}},
		{[]int{3}, 1, []int{2, 5}},
		{[]int{5}, 1, []int{2, 3}},
		{[]int{5, 2}, 2, []int{3}},
		{[]int{5, 2, 3}, 3, nil},
		{[]int{4}, 0, []int{2, 3, 5}},
		{[]int{0, 1, -1, 6, math.MaxInt, math.MinInt}, 0, []int{2, 3, 5}},
		{[]int{3, 3, 3}, 1, []int{2, 5}},
		{[]int{3, 4, 2, 3, 4, 2}, 2, []int{5}},
	} {
		q := with(task(5, 1, "a"), task(2, 1, "a"), task(3, 1, "b"))
		if n := q.Drop(c.drop...); n != c.n {
			t.Errorf("%d: drop of %v: %d, not %d", k, c.drop, n, c.n)
		}
		tell(t, "left", q.All(), c.left...)
		if q.Len() != len(c.left) {
			t.Errorf("%d: drop of %v: %d are left, not %d", k, c.drop, q.Len(), len(c.left))
		}
		if n := q.Drop(c.drop...); n != 0 {
			t.Errorf("%d: drop of %v again: %d", k, c.drop, n)
		}
	}
}

// Who is gone is to be seen nowhere, till one of its ID is put again.
func TestDropThenPut(t *testing.T) {
	q := with(task(1, 5, "a"), waiting(task(2, 5, "a"), 9))
	if n := q.Drop(1, 2); n != 2 {
		t.Errorf("drop: %d", n)
	}
	stands(t, "none", q)
	tell(t, "pick", q.Pick(9, 9, "a"))
	if at, is := q.Soonest(0, "a"); at != 0 || is {
		t.Errorf("soonest: %d, %t", at, is)
	}
	for _, id := range []int{1, 2} {
		if x, is := q.Get(id); x != (api.Task{}) || is {
			t.Errorf("get %d: %v, %t", id, x, is)
		}
	}
	q.Put(task(2, 0, "b"))
	stands(t, "put again", q, task(2, 0, "b"))
}

// P11.1: Get

func TestGet(t *testing.T) {
	q := with(some()...)
	for _, x := range some() {
		if got, is := q.Get(x.ID); got != x || !is {
			t.Errorf("%d: %v, %t, not %v", x.ID, got, is, x)
		}
	}
	for _, id := range []int{0, 1, -1, -2, 13, 100, math.MaxInt, math.MinInt} {
		if got, is := q.Get(id); got != (api.Task{}) || is {
			t.Errorf("%d: %v, %t", id, got, is)
		}
	}
	stands(t, "as it was", q, some()...)
}

// P11.1: Pick

func TestPick(t *testing.T) {
	q := with(some()...)
	for k, c := range []struct {
		now    int64
		most   int
		topics []string
		want   []int
	}{
		{0, 9, []string{"a"}, []int{3, 9, 5}},
		{0, 9, []string{"b"}, []int{2}},
		{0, 9, []string{"a", "b"}, []int{2, 3, 9, 5}},
		{0, 9, []string{"b", "a"}, []int{2, 3, 9, 5}},
		{0, 9, []string{"b", "a", "b", "b"}, []int{2, 3, 9, 5}},
		{0, 9, []string{"a", "b", "c", "d", "e"}, []int{4, 2, 3, 9, 5}},
		// A lease ends at its Expiry, and a wait at its After; both have to be over.
		{29, 9, []string{"b"}, []int{2}},
		{30, 9, []string{"b"}, []int{7, 2}},
		{49, 9, []string{"a"}, []int{3, 9, 5}},
		{50, 9, []string{"a"}, []int{6, 3, 9, 5}},
		{79, 9, []string{"d", "e"}, nil},
		{80, 9, []string{"d", "e"}, []int{11, 12}},
		{maxTime, 99, []string{"a", "b", "c", "d", "e"}, []int{4, 6, 7, 2, 3, 9, 5, 11, 12}},
		// How many at most.
		{50, 1, []string{"a", "b", "c"}, []int{4}},
		{50, 2, []string{"a", "b", "c"}, []int{4, 6}},
		{50, 6, []string{"a", "b", "c"}, []int{4, 6, 7, 2, 3, 9}},
		{50, 7, []string{"a", "b", "c"}, []int{4, 6, 7, 2, 3, 9, 5}},
		{50, 8, []string{"a", "b", "c"}, []int{4, 6, 7, 2, 3, 9, 5}},
		{50, math.MaxInt, []string{"a"}, []int{6, 3, 9, 5}},
		{50, 0, []string{"a"}, nil},
		{50, -1, []string{"a"}, nil},
		{50, math.MinInt, []string{"a"}, nil},
		// Topics of which there is nothing.
		{50, 9, nil, nil},
		{50, 9, []string{}, nil},
		{50, 9, []string{""}, nil},
		{50, 9, []string{"f"}, nil},
		{50, 9, []string{"A", "aa", "a ", "\xff"}, nil},
		{50, 9, []string{"f", "c", "A"}, []int{4}},
	} {
		got := q.Pick(c.now, c.most, c.topics...)
		if !slices.Equal(ids(got), c.want) {
			t.Errorf("%d: %d at %d of %v: %v, not %v", k, c.most, c.now, c.topics, ids(got), c.want)
		}
		for _, x := range got {
			if is, _ := q.Get(x.ID); x != is {
				t.Errorf("%d: %v is picked, %v is there", k, x, is)
			}
		}
	}
	stands(t, "as it was", q, some()...)
}

// The greatest Priority first, whatever the IDs are; of one Priority the least ID, however they were put.
func TestPickInOrder(t *testing.T) {
	var q Queue
	var want []int
	for id := range 50 {
		q.Put(task(50-id, (50-id)*7%10, "a"))
	}
	for priority := 9; priority >= 0; priority-- {
		for id := 1; id <= 50; id++ {
			if id*7%10 == priority {
				want = append(want, id)
			}
		}
	}
	for most := range 52 {
		tell(t, "in order", q.Pick(0, most, "a"), want[:min(most, 50)]...)
	}
	// A Priority is a number like another one, too.
	l := []api.Task{task(1, math.MinInt, "b"), task(2, -1, "b"), task(3, 0, "b"), task(4, math.MaxInt, "b"), task(5, math.MinInt, "b"), task(6, 10, "b")}
	tell(t, "without limits", with(l...).Pick(0, 9, "b"), 4, 6, 3, 2, 1, 5)
}

// What was picked stays, as Pick takes nothing out: the same is picked again till another one is put in its place.
func TestPickStays(t *testing.T) {
	q := with(task(1, 5, "a"), task(2, 4, "a"))
	for range 3 {
		tell(t, "first", q.Pick(7, 1, "a"), 1)
	}
	x, is := lease.Take(q.Pick(7, 1, "a")[0], "amy", 7, 10)
	if !is {
		t.Fatal("not taken")
	}
	q.Put(x)
	tell(t, "the first one is taken", q.Pick(7, 9, "a"), 2)
	tell(t, "till", q.Pick(16, 9, "a"), 2)
	tell(t, "then", q.Pick(17, 9, "a"), 1, 2)
}

// P11.1: Soonest

func TestSoonest(t *testing.T) {
	q := with(some()...)
	for k, c := range []struct {
		now    int64
		topics []string
		want   int64
		is     bool
	}{
		{0, []string{"a", "b"}, 30, true},
		{0, []string{"b", "a", "b"}, 30, true},
		{0, []string{"a"}, 50, true},
		{0, []string{"b"}, 30, true},
		{29, []string{"b"}, 30, true},
		{30, []string{"b"}, 0, false},
		{30, []string{"a", "b"}, 50, true},
		{49, []string{"a", "b"}, 50, true},
		{50, []string{"a", "b", "c"}, 0, false},
		{51, []string{"a"}, 0, false},
		{maxTime, []string{"a", "b", "c", "d", "e"}, 0, false},
		// Of a lease and a wait the later one.
		{0, []string{"d"}, 80, true},
		{20, []string{"d"}, 80, true},
		{79, []string{"d"}, 80, true},
		{80, []string{"d"}, 0, false},
		{0, []string{"e"}, 80, true},
		{20, []string{"e"}, 80, true},
		{79, []string{"d", "e"}, 80, true},
		{50, []string{"a", "b", "c", "d", "e"}, 80, true},
		// All Free by now, or none at all.
		{0, []string{"c"}, 0, false},
		{0, []string{"f"}, 0, false},
		{0, []string{""}, 0, false},
		{0, []string{"A", "aa", "\xff"}, 0, false},
		{0, nil, 0, false},
		{0, []string{}, 0, false},
	} {
		if got, is := q.Soonest(c.now, c.topics...); got != c.want || is != c.is {
			t.Errorf("%d: at %d of %v: %d, %t, not %d, %t", k, c.now, c.topics, got, is, c.want, c.is)
		}
	}
	stands(t, "as it was", q, some()...)
}

// Neither one that is Broken nor one of the last Epoch is ever Free, whatever its times are.
func TestSoonestOfNever(t *testing.T) {
	q := with(broken(waiting(task(1, 9, "a"), 40)), old(waiting(task(2, 9, "a"), 50)), old(held(task(3, 9, "a"), 60)))
	x := held(task(4, 9, "a"), 70)
	x.Epoch = 60
	q.Put(x)
	for _, now := range []int64{0, 45, -1, math.MinInt64} {
		if at, is := q.Soonest(now, "a"); at != 0 || is {
			t.Errorf("none that ever is: at %d: %d, %t", now, at, is)
		}
	}
	y := held(task(5, 0, "a"), 90)
	y.Epoch = 59
	q.Put(y)
	if at, is := q.Soonest(0, "a"); at != 90 || !is {
		t.Errorf("one that is: %d, %t", at, is)
	}
}

// The least of all, wherever it stands, and at the last ticks too.
func TestSoonestIsTheLeast(t *testing.T) {
	var q Queue
	for id := 1; id <= 40; id++ {
		q.Put(waiting(task(id, id%10, "a"), int64(100+id*17%40)))
	}
	for now := int64(90); now < 139; now++ {
		if at, is := q.Soonest(now, "a"); at != max(100, now+1) || !is {
			t.Errorf("at %d: %d, %t", now, at, is)
		}
	}
	last := with(waiting(task(1, 0, "a"), maxTime+1000), waiting(task(2, 0, "a"), 2*maxTime))
	for _, c := range []struct{ now, want int64 }{{0, maxTime + 1000}, {maxTime, maxTime + 1000}, {maxTime + 1000, 2 * maxTime}} {
		if at, is := last.Soonest(c.now, "a"); at != c.want || !is {
			t.Errorf("at %d: %d, %t", c.now, at, is)
		}
	}
	if at, is := last.Soonest(2*maxTime, "a"); at != 0 || is {
		t.Errorf("behind all: %d, %t", at, is)
	}
}

// P11.1: All, Len

func TestAll(t *testing.T) {
	l := some()
	q := with(l[4], l[0], l[10], l[7], l[3], l[1], l[9], l[2], l[8], l[6], l[5])
	stands(t, "by ID", q, l...)
	// Not as texts, nor as numbers of few bits.
	want := []api.Task{task(-300, 0, "a"), task(9, 0, "a"), task(10, 0, "a"), task(255, 0, "a"), task(256, 0, "a"), task(1<<32, 0, "a"), task(1<<32+9, 0, "a")}
	stands(t, "numbers", with(want[5], want[2], want[6], want[0], want[4], want[3], want[1]), want...)
}

func TestLen(t *testing.T) {
	var q Queue
	for id := range 100 {
		q.Put(task(id, 0, "a"), task(id, 1, "a"))
		if q.Len() != id+1 {
			t.Fatalf("%d put: %d", id+1, q.Len())
		}
	}
	for id := range 100 {
		q.Drop(id, id)
		if q.Len() != 99-id {
			t.Fatalf("%d dropped: %d", id+1, q.Len())
		}
	}
}

// P11.1: Clone

func TestClone(t *testing.T) {
	l := some()
	q := with(l...)
	c := q.Clone()
	if c == q {
		t.Fatal("the same one")
	}
	stands(t, "the clone", c, l...)
	q.Drop(2)
	q.Put(task(3, 0, "z"), task(77, 0, "a"))
	stands(t, "the clone, when the first one goes on", c, l...)
	before := q.All()
	c.Drop(4, 77)
	c.Put(task(5, 0, "y"), task(88, 0, "a"))
	stands(t, "the first one, when the clone goes on", q, before...)
	e := c.Clone().Clone()
	stands(t, "a clone of a clone", e, c.All()...)
	e.Drop(ids(e.All())...)
	stands(t, "none of it", e)
	tell(t, "the clone", c.All(), 2, 3, 5, 6, 7, 8, 9, 10, 11, 12, 88)
}

// P0.4, P0.5: memory and order

// What is handed in is not changed, not kept, and not read behind its length.
func TestHandedIn(t *testing.T) {
	room := some()
	var q Queue
	q.Put(room[:3]...)
	stands(t, "those ahead of the length", &q, some()[:3]...)
	for k := range room {
		room[k] = task(99, 9, "z")
	}
	stands(t, "written over", &q, some()[:3]...)
	q.Put(some()...)
	drop := []int{2, 3, 4, 5}
	if n := q.Drop(drop[:2]...); n != 2 {
		t.Errorf("drop: %d", n)
	}
	topics := []string{"b", "a", "b", "c"}
	tell(t, "pick", q.Pick(30, 9, topics[:2]...), 7, 9, 5)
	if at, is := q.Soonest(0, topics[:1]...); at != 30 || !is {
		t.Errorf("soonest: %d, %t", at, is)
	}
	if !slices.Equal(drop, []int{2, 3, 4, 5}) || !slices.Equal(topics, []string{"b", "a", "b", "c"}) {
		t.Errorf("changed: %v, %v", drop, topics)
	}
	l := some()
	q.Put(l...)
	q.Pick(0, 9, "a")
	q.All()
	if !slices.Equal(l, some()) {
		t.Errorf("changed: %v", l)
	}
}

// spoil writes over all of l, its spare room too.
func spoil(l []api.Task) {
	l = l[:cap(l)]
	for k := range l {
		l[k] = task(1000, 9, "a")
	}
}

func TestHandedOut(t *testing.T) {
	q := with(some()...)
	c := q.Clone()
	for _, l := range [][]api.Task{q.All(), q.Pick(50, 9, "a", "b"), q.Pick(50, 2, "a", "b"), c.All(), c.Pick(50, 1, "a")} {
		spoil(l)
		stands(t, "written over", q, some()...)
		stands(t, "its clone", c, some()...)
	}
	all, first, few := q.All(), q.Pick(50, 9, "a"), q.Pick(50, 2, "a")
	for k, of := range [][]api.Task{all, first, few, q.All(), q.Pick(50, 9, "a"), q.Pick(50, 2, "a")} {
		spoil(of)
		for j, l := range [][]api.Task{q.All(), q.Pick(50, 9, "a"), q.Pick(50, 2, "a")} {
			if !slices.Equal(ids(l), [][]int{{2, 3, 4, 5, 6, 7, 8, 9, 10, 11, 12}, {6, 3, 9, 5}, {6, 3}}[j]) {
				t.Errorf("%d is spoiled: %d shows it: %v", k, j, ids(l))
			}
		}
	}
	// One that was handed out ahead of a change doesn't show it.
	old, picked := q.All(), q.Pick(50, 9, "a")
	q.Drop(3, 6)
	q.Put(task(5, 0, "z"), task(1, 9, "a"))
	tell(t, "all", old, 2, 3, 4, 5, 6, 7, 8, 9, 10, 11, 12)
	tell(t, "picked", picked, 6, 3, 9, 5)
	if old[3] != some()[3] || picked[3] != some()[3] {
		t.Errorf("another one: %v, %v", old[3], picked[3])
	}
}

// The same calls tell the same, however often they are made, and in whatever order the tasks came.
func TestSameAgain(t *testing.T) {
	l := some()
	for n := range 50 {
		k := n % len(l)
		q := with(append(slices.Clone(l[k:]), l[:k]...)...)
		if got := q.All(); !slices.Equal(got, l) {
			t.Fatalf("all: %v", got)
		}
		tell(t, "pick", q.Pick(50, 4, "a", "b", "c"), 4, 6, 7, 2)
		if at, is := q.Soonest(0, "a", "b", "d", "e"); at != 30 || !is {
			t.Fatalf("soonest: %d, %t", at, is)
		}
	}
}
