package lease

import (
	"math"
	"strings"
	"testing"

	"leasehold/api"
)

// The limits, as the numbers that they are.
const (
	maxTime  = 1099511627776
	maxEpoch = 60
)

// idle is a task that nobody holds, and nobody ever did.
func idle() api.Task {
	return api.Task{ID: 7, Instance: 3, Token: 5, Node: 2, Topic: "paint", Priority: 4, Retries: 2}
}

// held is a task that amy holds till 100, on the lease of epoch 4, and that was not to be tried ahead of 30.
func held() api.Task {
	t := idle()
	t.Worker, t.Epoch, t.Expiry, t.After = "amy", 4, 100, 30
	return t
}

// left is held, when amy doesn't hold it any more.
func left() api.Task {
	t := held()
	t.Worker, t.Expiry = "", 0
	return t
}

// broken is a task that is not tried any more.
func broken() api.Task {
	t := left()
	t.Retries, t.Broken = 0, true
	return t
}

// change is a task changed in some way.
type change func(t *api.Task)

// with is t changed.
func with(t api.Task, f change) api.Task {
	f(&t)
	return t
}

// xs is n bytes of x.
func xs(n int) string { return strings.Repeat("x", n) }

// notNames are texts that are no names.
func notNames() []string {
	return []string{"", "A", "Amy", "a b", " amy", "amy ", "amy\n", "amy\x00", "a.b", "\u00e9", "\xff", xs(25), xs(100)}
}

// names are some that are.
func names() []string {
	return []string{"a", "amy", "0", "_", "-", "a-z_09", xs(23), xs(24)}
}

// P10.1: Check

func TestCheckOfWholeTasks(t *testing.T) {
	for k, x := range []api.Task{idle(), held(), left(), broken(), with(held(), func(t *api.Task) { t.Retries, t.Broken = 0, true }), {ID: 1, Instance: 1, Token: 1, Topic: "t", Retries: 1}} {
		if !Check(x) {
			t.Errorf("%d: %v: no", k, x)
		}
	}
	if Check(api.Task{}) {
		t.Error("the zero value: yes")
	}
}

// Each number alone: just from its least one to its greatest one.
func TestCheckOfNumbers(t *testing.T) {
	for name, c := range map[string]struct {
		of          api.Task
		set         func(t *api.Task, n int64)
		least, most int64
	}{
		"ID":          {held(), func(t *api.Task, n int64) { t.ID = int(n) }, 1, math.MaxInt64},
		"Instance":    {held(), func(t *api.Task, n int64) { t.Instance = int(n) }, 1, math.MaxInt64},
		"Token":       {held(), func(t *api.Task, n int64) { t.Token = int(n) }, 1, math.MaxInt64},
		"Node":        {held(), func(t *api.Task, n int64) { t.Node = int(n) }, 0, math.MaxInt64},
		"Priority":    {held(), func(t *api.Task, n int64) { t.Priority = int(n) }, 0, 9},
		"Epoch, held": {held(), func(t *api.Task, n int64) { t.Epoch = int(n) }, 1, maxEpoch},
		"Epoch, left": {left(), func(t *api.Task, n int64) { t.Epoch = int(n) }, 0, maxEpoch},
		"Expiry":      {held(), func(t *api.Task, n int64) { t.Expiry = n }, 1, 2 * maxTime},
		"no Expiry":   {left(), func(t *api.Task, n int64) { t.Expiry = n }, 0, 0},
		"After, held": {held(), func(t *api.Task, n int64) { t.After = n }, 0, 2 * maxTime},
		"After, left": {left(), func(t *api.Task, n int64) { t.After = n }, 0, 2 * maxTime},
		"Retries":     {held(), func(t *api.Task, n int64) { t.Retries = int(n) }, 1, 9},
		"no Retries":  {broken(), func(t *api.Task, n int64) { t.Retries = int(n) }, 0, 0},
	} {
		for _, n := range []int64{c.least, c.most, c.least - 1, c.most + 1, c.least + 1, c.most - 1, 0, 1, -1, -2, 2, 9, 10, 60, 61, maxTime, maxTime + 1, 2 * maxTime, 2*maxTime + 1, math.MaxInt64, math.MinInt64} {
			x := c.of
			c.set(&x, n)
			if want := c.least <= n && n <= c.most; Check(x) != want {
				t.Errorf("%s %d: %t", name, n, !want)
			}
		}
	}
}

func TestCheckOfNames(t *testing.T) {
	for _, of := range []api.Task{idle(), held(), left(), broken()} {
		for _, s := range names() {
			if x := with(of, func(t *api.Task) { t.Topic = s }); !Check(x) {
				t.Errorf("the topic %q: no", s)
			}
		}
		for _, s := range notNames() {
			if x := with(of, func(t *api.Task) { t.Topic = s }); Check(x) {
				t.Errorf("the topic %q: yes", s)
			}
		}
	}
	for _, s := range names() {
		if x := with(held(), func(t *api.Task) { t.Worker = s }); !Check(x) {
			t.Errorf("the worker %q: no", s)
		}
	}
	for _, s := range notNames() {
		if x := with(held(), func(t *api.Task) { t.Worker = s }); Check(x) {
			t.Errorf("the worker %q: yes", s)
		}
		// Who has no Expiry needs a Worker that is empty, not just one that is no name.
		if x := with(left(), func(t *api.Task) { t.Worker = s }); Check(x) != (s == "") {
			t.Errorf("the worker %q, no Expiry: %t", s, s != "")
		}
	}
}

// What goes together: the Worker with the Expiry and the Epoch, the Retries with whether it is Broken.
func TestCheckOfWhatGoesTogether(t *testing.T) {
	for k, c := range []struct {
		worker string
		expiry int64
		epoch  int
		want   bool
	}{
		{"", 0, 0, true}, {"", 0, 1, true}, {"", 0, 60, true}, {"", 1, 0, false}, {"", 1, 1, false}, {"", 100, 60, false},
		{"amy", 1, 1, true}, {"amy", 100, 60, true}, {"amy", 0, 1, false}, {"amy", 1, 0, false}, {"amy", 0, 0, false}, {"Amy", 1, 1, false}, {"Amy", 0, 0, false},
	} {
		for _, of := range []api.Task{idle(), held(), broken()} {
			x := with(of, func(t *api.Task) { t.Worker, t.Expiry, t.Epoch = c.worker, c.expiry, c.epoch })
			if Check(x) != c.want {
				t.Errorf("%d: %v: %t", k, x, !c.want)
			}
		}
	}
	for _, of := range []api.Task{idle(), held(), left(), broken()} {
		for n := -2; n < 13; n++ {
			x := with(of, func(t *api.Task) { t.Retries, t.Broken = n, false })
			if want := n >= 1 && n <= 9; Check(x) != want {
				t.Errorf("%v: %t", x, !want)
			}
			x.Broken = true
			if want := n == 0; Check(x) != want {
				t.Errorf("%v: %t", x, !want)
			}
		}
	}
}

// P10.1: Free, When

// at are tasks, and the time from which on they are Free; -1: never.
func at() []struct {
	t    api.Task
	when int64
} {
	return []struct {
		t    api.Task
		when int64
	}{
		{idle(), 0}, {left(), 30}, {held(), 100}, {broken(), -1}, {api.Task{}, 0},
		{with(idle(), func(t *api.Task) { t.After = 1 }), 1}, {with(idle(), func(t *api.Task) { t.After = 2 * maxTime }), 2 * maxTime}, {with(left(), func(t *api.Task) { t.After = 0 }), 0},
		// The later one of the two counts.
		{with(held(), func(t *api.Task) { t.After = 99 }), 100}, {with(held(), func(t *api.Task) { t.After = 100 }), 100}, {with(held(), func(t *api.Task) { t.After = 101 }), 101}, {with(held(), func(t *api.Task) { t.After = 0 }), 100},
		{with(held(), func(t *api.Task) { t.Expiry = 1 }), 30}, {with(held(), func(t *api.Task) { t.Expiry = 30 }), 30}, {with(held(), func(t *api.Task) { t.Expiry = 31 }), 31}, {with(held(), func(t *api.Task) { t.Expiry = maxTime }), maxTime}, {with(held(), func(t *api.Task) { t.Expiry = maxTime + 1000 }), maxTime + 1000},
		// There's one lease more as long as the epoch may rise.
		{with(held(), func(t *api.Task) { t.Epoch = maxEpoch - 1 }), 100}, {with(held(), func(t *api.Task) { t.Epoch = maxEpoch }), -1}, {with(left(), func(t *api.Task) { t.Epoch = maxEpoch - 1 }), 30}, {with(left(), func(t *api.Task) { t.Epoch = maxEpoch }), -1}, {with(left(), func(t *api.Task) { t.Epoch = 0 }), 30},
		{with(held(), func(t *api.Task) { t.Retries, t.Broken = 0, true }), -1}, {with(broken(), func(t *api.Task) { t.After = 0 }), -1}, {with(broken(), func(t *api.Task) { t.Epoch = 0 }), -1}, {with(broken(), func(t *api.Task) { t.Epoch = maxEpoch }), -1},
		// Nothing else tells.
		{with(idle(), func(t *api.Task) { t.Retries = 1 }), 0}, {with(idle(), func(t *api.Task) { t.Retries = 9 }), 0}, {with(idle(), func(t *api.Task) { t.Priority = 0 }), 0}, {with(idle(), func(t *api.Task) { t.Priority = 9 }), 0}, {with(idle(), func(t *api.Task) { t.Node = 0 }), 0},
	}
}

func TestFreeAndWhen(t *testing.T) {
	for k, c := range at() {
		when, is := When(c.t)
		if c.when < 0 && (is || when != 0) || c.when >= 0 && (!is || when != c.when) {
			t.Errorf("%d: %v: when %d, %t", k, c.t, when, is)
		}
		for _, now := range []int64{0, 1, 29, 30, 31, 99, 100, 101, 102, 1000, maxTime - 1, maxTime, c.when - 1, c.when, c.when + 1} {
			if now < 0 || now > maxTime {
				continue
			}
			if want := c.when >= 0 && c.when <= now; Free(c.t, now) != want {
				t.Errorf("%d: %v: free at %d: %t", k, c.t, now, !want)
			}
		}
	}
}

// P10.2: Take

func TestTake(t *testing.T) {
	for k, c := range at() {
		for _, now := range []int64{0, 1, 29, 30, 31, 99, 100, 101, 102, maxTime - 1, maxTime} {
			want, free := c.t, c.when >= 0 && c.when <= now
			if free {
				want.Worker, want.Epoch, want.Expiry = "bob", c.t.Epoch+1, now+25
			}
			if got, is := Take(c.t, "bob", now, 25); is != free || got != want {
				t.Errorf("%d: at %d: %v, %t, not %v", k, now, got, is, want)
			}
		}
	}
}

func TestTakeByWhomAndHowLong(t *testing.T) {
	for _, of := range []api.Task{idle(), left(), held()} {
		for _, s := range names() {
			want := of
			want.Worker, want.Epoch, want.Expiry = s, of.Epoch+1, 205
			if got, is := Take(of, s, 200, 5); !is || got != want || !Check(got) {
				t.Errorf("by %q: %v, %t", s, got, is)
			}
		}
		for _, s := range notNames() {
			if got, is := Take(of, s, 200, 5); is || got != of {
				t.Errorf("by %q: %v, %t", s, got, is)
			}
		}
		for _, span := range []int64{1, 2, 500, 999, 1000} {
			want := of
			want.Worker, want.Epoch, want.Expiry = "bob", of.Epoch+1, maxTime+span
			if got, is := Take(of, "bob", maxTime, span); !is || got != want || !Check(got) {
				t.Errorf("for %d: %v, %t", span, got, is)
			}
		}
		for _, span := range []int64{0, -1, 1001, 2000, maxTime, math.MaxInt64, math.MinInt64} {
			if got, is := Take(of, "bob", 200, span); is || got != of {
				t.Errorf("for %d: %v, %t", span, got, is)
			}
		}
	}
}

// Each lease raises the epoch by one, till there is no more of them.
func TestTakeTillTheLastEpoch(t *testing.T) {
	x, now := idle(), int64(0)
	for n := 1; n <= maxEpoch; n++ {
		y, is := Take(x, "amy", now, 10)
		if !is || y.Epoch != n || y.Expiry != now+10 || !Check(y) {
			t.Fatalf("%d: %v, %t", n, y, is)
		}
		// Not till the lease ends, by nobody.
		if z, is := Take(y, "amy", now+9, 10); is || z != y {
			t.Errorf("%d: twice: %v", n, z)
		}
		x, now = y, now+10
	}
	if y, is := Take(x, "amy", now, 10); is || y != x || Holds(x, "amy", maxEpoch, now-1) != api.Fine {
		t.Errorf("one more: %v, %t", y, is)
	}
}

// P10.2: Holds

func TestHolds(t *testing.T) {
	long := with(held(), func(t *api.Task) { t.Expiry = maxTime + 1 })
	for k, c := range []struct {
		t      api.Task
		worker string
		epoch  int
		now    int64
		want   int
	}{
		{held(), "amy", 4, 0, api.Fine}, {held(), "amy", 4, 31, api.Fine}, {held(), "amy", 4, 99, api.Fine}, {held(), "amy", 4, 100, api.Expired}, {held(), "amy", 4, 101, api.Expired}, {held(), "amy", 4, maxTime, api.Expired}, {long, "amy", 4, maxTime, api.Fine},
		{held(), "bob", 4, 99, api.NotYours}, {held(), "", 4, 99, api.NotYours}, {held(), "am", 4, 99, api.NotYours}, {held(), "amyy", 4, 99, api.NotYours}, {held(), "Amy", 4, 99, api.NotYours},
		{held(), "amy", 3, 99, api.NotYours}, {held(), "amy", 5, 99, api.NotYours}, {held(), "amy", 0, 99, api.NotYours}, {held(), "amy", -4, 99, api.NotYours}, {held(), "amy", math.MaxInt, 99, api.NotYours}, {held(), "amy", math.MinInt, 99, api.NotYours},
		// Whose it is is asked ahead of how long.
		{held(), "bob", 4, 100, api.NotYours}, {held(), "amy", 5, 100, api.NotYours}, {held(), "", 4, 200, api.NotYours}, {held(), "bob", 3, 200, api.NotYours},
		// Who is nobody holds nothing, not even what nobody holds.
		{idle(), "", 0, 0, api.NotYours}, {idle(), "amy", 0, 0, api.NotYours}, {left(), "", 4, 0, api.NotYours}, {left(), "amy", 4, 0, api.NotYours}, {left(), "amy", 4, 99, api.NotYours}, {broken(), "", 4, 0, api.NotYours}, {broken(), "amy", 4, 99, api.NotYours}, {api.Task{}, "", 0, 0, api.NotYours},
		// It may be Broken, and have to wait: it is amy's yet.
		{with(held(), func(t *api.Task) { t.Retries, t.Broken = 0, true }), "amy", 4, 99, api.Fine}, {with(held(), func(t *api.Task) { t.After = 500 }), "amy", 4, 99, api.Fine}, {with(held(), func(t *api.Task) { t.Epoch = maxEpoch }), "amy", maxEpoch, 99, api.Fine},
	} {
		if got := Holds(c.t, c.worker, c.epoch, c.now); got != c.want {
			t.Errorf("%d: %v: %q, %d at %d: %d, not %d", k, c.t, c.worker, c.epoch, c.now, got, c.want)
		}
	}
}

// Who took it holds it till it ends, or another one takes it; an earlier lease of the same worker is none.
func TestHoldsOfWhatWasTaken(t *testing.T) {
	x, _ := Take(idle(), "amy", 10, 20)
	y, is := Take(x, "amy", 30, 20)
	if !is || Holds(x, "amy", 1, 29) != api.Fine || Holds(x, "amy", 1, 30) != api.Expired || Holds(y, "amy", 1, 30) != api.NotYours || Holds(y, "amy", 2, 30) != api.Fine || Holds(y, "amy", 2, 50) != api.Expired {
		t.Errorf("%v, %v", x, y)
	}
	z, is := Take(y, "bob", 50, 20)
	if !is || Holds(z, "amy", 2, 51) != api.NotYours || Holds(z, "amy", 3, 51) != api.NotYours || Holds(z, "bob", 3, 51) != api.Fine {
		t.Errorf("%v", z)
	}
}

// P10.2: Longer

func TestLonger(t *testing.T) {
	late := with(held(), func(t *api.Task) { t.Epoch, t.After = maxEpoch, 900 })
	for _, of := range []api.Task{held(), late, with(held(), func(t *api.Task) { t.Retries, t.Broken = 0, true })} {
		// It counts from now, not from where the lease ends: it may get shorter; that it has ended isn't asked.
		for _, now := range []int64{0, 1, 50, 99, 100, 101, 5000, maxTime} {
			for _, span := range []int64{1, 2, 50, 999, 1000} {
				want := of
				want.Expiry = now + span
				if got, is := Longer(of, now, span); !is || got != want || !Check(got) {
					t.Errorf("%d from %d: %v, %t", span, now, got, is)
				}
			}
			for _, span := range []int64{0, -1, 1001, 5000, maxTime, math.MaxInt64, math.MinInt64} {
				if got, is := Longer(of, now, span); is || got != of {
					t.Errorf("%d from %d: %v, %t", span, now, got, is)
				}
			}
		}
	}
	for k, of := range []api.Task{idle(), left(), broken(), {}} {
		for _, span := range []int64{0, 1, 1000, 1001} {
			if got, is := Longer(of, 50, span); is || got != of {
				t.Errorf("%d: nobody's, for %d: %v, %t", k, span, got, is)
			}
		}
	}
}

// P10.2: Leave

func TestLeave(t *testing.T) {
	for k, c := range []struct{ t, want api.Task }{
		{held(), left()}, {left(), left()}, {idle(), idle()}, {broken(), broken()}, {api.Task{}, api.Task{}},
		{with(held(), func(t *api.Task) { t.Retries, t.Broken = 0, true }), broken()},
		{with(held(), func(t *api.Task) { t.Epoch = maxEpoch }), with(left(), func(t *api.Task) { t.Epoch = maxEpoch })},
		{with(held(), func(t *api.Task) { t.After = 700 }), with(left(), func(t *api.Task) { t.After = 700 })},
	} {
		if got := Leave(c.t); got != c.want {
			t.Errorf("%d: %v, not %v", k, got, c.want)
		}
	}
	// The one who left it comes too late from then on, also when it was taken again.
	x := Leave(held())
	y, is := Take(x, "amy", 30, 5)
	if !is || y.Epoch != 5 || Holds(x, "amy", 4, 31) != api.NotYours || Holds(y, "amy", 4, 31) != api.NotYours || Holds(y, "amy", 5, 31) != api.Fine {
		t.Errorf("%v, %t", y, is)
	}
}

// P10.2: Fail

func TestFail(t *testing.T) {
	for _, of := range []api.Task{idle(), held(), left(), broken()} {
		for retries := range 10 {
			for _, wait := range []int64{0, 1, 500, 999, 1000} {
				for _, now := range []int64{0, 1, 29, 50, 100, maxTime} {
					want := of
					want.Worker, want.Expiry, want.Retries, want.After, want.Broken = "", 0, retries, now+wait, retries == 0
					if got, is := Fail(of, retries, now, wait); !is || got != want || !Check(got) {
						t.Errorf("%v: %d, %d from %d: %v, %t", of, retries, wait, now, got, is)
					}
				}
			}
		}
	}
}

func TestFailOfWrongNumbers(t *testing.T) {
	wrong := []int64{-1, -2, 1001, 5000, maxTime, math.MaxInt64, math.MinInt64}
	for _, of := range []api.Task{idle(), held(), left(), broken()} {
		for _, wait := range wrong {
			for _, retries := range []int{0, 1, 9} {
				if got, is := Fail(of, retries, 50, wait); is || got != of {
					t.Errorf("%d, %d: %v, %t", retries, wait, got, is)
				}
			}
		}
		for _, retries := range []int{-1, -2, 10, 11, 1000, math.MaxInt, math.MinInt} {
			for _, wait := range append(wrong, 0, 1, 1000) {
				if got, is := Fail(of, retries, 50, wait); is || got != of {
					t.Errorf("%d, %d: %v, %t", retries, wait, got, is)
				}
			}
		}
	}
}

func TestFailAndTheNextLease(t *testing.T) {
	x, is := Fail(held(), 1, 50, 20)
	if when, free := When(x); !is || !free || when != 70 || Holds(x, "amy", 4, 51) != api.NotYours {
		t.Errorf("%v, %t: free at %d, %t", x, is, when, free)
	}
	if y, is := Take(x, "bob", 69, 5); is {
		t.Errorf("too early: %v", y)
	}
	if y, is := Take(x, "bob", 70, 5); !is || y.Epoch != 5 || y.Retries != 1 || y.After != 70 {
		t.Errorf("%v, %t", y, is)
	}
	// Without a retry there is none.
	x, _ = Fail(held(), 0, 50, 20)
	if y, is := Take(x, "bob", maxTime, 5); is || !x.Broken || y != x {
		t.Errorf("broken: %v", y)
	}
}

// P10.2: Repair

func TestRepair(t *testing.T) {
	for _, of := range []api.Task{broken(), with(held(), func(t *api.Task) { t.Retries, t.Broken = 0, true }), with(broken(), func(t *api.Task) { t.Epoch, t.After = maxEpoch, 2*maxTime })} {
		for n := 1; n <= 9; n++ {
			want := of
			want.Retries, want.Broken = n, false
			got, is := Repair(of, n)
			if !is || got != want || !Check(got) {
				t.Errorf("%d: %v, %t, not %v", n, got, is, want)
			}
			if again, is := Repair(got, n); is || again != got {
				t.Errorf("%d: twice: %v, %t", n, again, is)
			}
		}
		for _, n := range []int{0, -1, 10, 11, 1000, math.MaxInt, math.MinInt} {
			if got, is := Repair(of, n); is || got != of {
				t.Errorf("%d: %v, %t", n, got, is)
			}
		}
	}
	for _, of := range []api.Task{idle(), held(), left(), {}} {
		for n := -1; n <= 10; n++ {
			if got, is := Repair(of, n); is || got != of {
				t.Errorf("%v: %d: %v, %t", of, n, got, is)
			}
		}
	}
	// It waits on as it was told to, and can be taken then.
	x, _ := Repair(broken(), 3)
	if when, is := When(x); !is || when != 30 {
		t.Errorf("free at %d, %t", when, is)
	}
}
