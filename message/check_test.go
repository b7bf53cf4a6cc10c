package message

import (
	"errors"
	"math"
	"slices"
	"strings"
	"testing"

	"leasehold/api"
	"leasehold/vars"
)

// P13.1

// list is the variables a, of a number, and b, of a text.
func list() []api.Var {
	return []api.Var{{Name: "a", Value: vars.Number(-3)}, {Name: "b", Value: vars.Word("text")}}
}

// manyVars is n variables, each as long as it may be.
func manyVars(n int) []api.Var {
	var l []api.Var
	for k := range n {
		l = append(l, api.Var{Name: strings.Repeat(string(rune('a'+k)), 24), Value: vars.Word(strings.Repeat("x", 60))})
	}
	return l
}

// definition is one with a Work between its Start and its End.
func definition() api.Process {
	return api.Process{Name: "p", Nodes: []api.Node{
		{Kind: api.Start, Default: -1, To: -1},
		{Kind: api.Work, Topic: "t", Priority: 1, Retries: 2, Default: -1, To: -1},
		{Kind: api.End, Default: -1, To: -1},
	}, Flows: []api.Flow{{From: 0, To: 1}, {From: 1, To: 2}}}
}

// asked is a request of that Kind which may be asked, with nothing that could be shared.
func asked(kind int) api.Request {
	r := api.Request{Head: api.Head{Worker: "w", Inc: 2, Key: 3}, Kind: kind}
	switch kind {
	case api.Deploy:
		r.Process = definition()
	case api.Begin:
		r.Name, r.Vars = "n", list()
	case api.Fetch:
		r.Topics, r.Max, r.Time = []string{"u", "t"}, 4, 5
	case api.Extend:
		r.Task, r.Epoch, r.Time = 7, 8, 9
	case api.Unlock:
		r.Task, r.Epoch = 7, 8
	case api.Complete:
		r.Task, r.Epoch, r.Vars = 7, 8, list()
	case api.Fail:
		r.Task, r.Epoch, r.Retries, r.Time = 7, 8, 6, 9
	case api.Throw:
		r.Task, r.Epoch, r.Code, r.Vars = 7, 8, "c", list()
	case api.Repair:
		r.Task, r.Retries = 7, 6
	}
	return r
}

// kinds are all there are, by their numbers.
func kinds() []int { return []int{1, 2, 3, 4, 5, 6, 7, 8, 9} }

// kindName tells which Kind it is in a test's words.
func kindName(kind int) string {
	return []string{"", "deploy", "begin", "fetch", "extend", "unlock", "complete", "fail", "throw", "repair"}[kind]
}

// at is err around a place.
func at(pos int, err error) error { return &api.At{Pos: pos, Err: err} }

// sameError tells whether got is just want: the same sentinel alone, or a *api.At of the same place right around it.
func sameError(got, want error) bool {
	w, is := want.(*api.At)
	if !is {
		return got == want
	}
	g, is := got.(*api.At)
	return is && g.Pos == w.Pos && g.Err == w.Err
}

// change is what is made of a request that may be asked, and what Check then says.
type change struct {
	what string
	kind int
	make func(r *api.Request)
	err  error
}

// holds asks Check and Bytes of each.
func holds(t *testing.T, l []change) {
	t.Helper()
	for _, c := range l {
		r := asked(c.kind)
		c.make(&r)
		if err := Check(r); !sameError(err, c.err) {
			t.Errorf("%s, %s: %v, not %v", kindName(c.kind), c.what, err, c.err)
		}
		b, err := Bytes(r)
		if !sameError(err, c.err) || (len(b) == 0) != (c.err != nil) {
			t.Errorf("bytes of %s, %s: %d, %v, not %v", kindName(c.kind), c.what, len(b), err, c.err)
		}
	}
}

func TestCheckOfEachKind(t *testing.T) {
	for _, kind := range kinds() {
		if err := Check(asked(kind)); err != nil {
			t.Errorf("%s: %v", kindName(kind), err)
		}
	}
	if err := Check(api.Request{}); err != api.ErrName {
		t.Errorf("the zero value: %v", err)
	}
}

func TestCheckOfHeads(t *testing.T) {
	for _, kind := range kinds() {
		var l []change
		for _, w := range []string{"", "W", "a b", "ä", "\xff", "a\x00", strings.Repeat("w", 25)} {
			l = append(l, change{"worker " + w, kind, func(r *api.Request) { r.Worker = w }, api.ErrName})
		}
		for _, w := range []string{"a", "_", "-", "0", strings.Repeat("w", 24)} {
			l = append(l, change{"worker " + w, kind, func(r *api.Request) { r.Worker = w }, nil})
		}
		for _, n := range []int{0, -1, 1073741825, math.MaxInt, math.MinInt, 1<<32 + 1} {
			l = append(l, change{"inc", kind, func(r *api.Request) { r.Inc = n }, api.ErrRange}, change{"key", kind, func(r *api.Request) { r.Key = n }, api.ErrRange})
		}
		for _, n := range []int{1, 2, 1073741823, 1073741824} {
			l = append(l, change{"inc", kind, func(r *api.Request) { r.Inc = n }, nil}, change{"key", kind, func(r *api.Request) { r.Key = n }, nil})
		}
		holds(t, l)
	}
}

func TestCheckOfKindsThatAreNone(t *testing.T) {
	for _, kind := range []int{0, -1, 10, 11, 100, math.MaxInt, math.MinInt, 1<<32 + 5} {
		r := asked(api.Unlock)
		r.Kind = kind
		if err := Check(r); err != api.ErrShape {
			t.Errorf("%d: %v", kind, err)
		}
		if err := Check(api.Request{Head: r.Head, Kind: kind}); err != api.ErrShape {
			t.Errorf("%d, without parts: %v", kind, err)
		}
	}
}

// piece is a part of a request, set to what isn't its zero value; each Kind that has it stands in kinds.
type piece struct {
	what  string
	kinds []int
	set   func(r *api.Request)
}

// pieces are all parts, more than once where there are several ways not to be zero.
func pieces() []piece {
	process, vary, tasks, epochs, times, retries := []int{1}, []int{2, 6, 8}, []int{4, 5, 6, 7, 8, 9}, []int{4, 5, 6, 7, 8}, []int{3, 4, 7}, []int{7, 9}
	return []piece{
		{"process", process, func(r *api.Request) { r.Process = definition() }},
		{"process's name", process, func(r *api.Request) { r.Process = api.Process{Name: "x"} }},
		{"process's nodes", process, func(r *api.Request) { r.Process = api.Process{Nodes: make([]api.Node, 1)} }},
		{"process's flows", process, func(r *api.Request) { r.Process = api.Process{Flows: make([]api.Flow, 1)} }},
		{"name", []int{2}, func(r *api.Request) { r.Name = "n" }},
		{"name that is none", []int{2}, func(r *api.Request) { r.Name = "?" }},
		{"vars", vary, func(r *api.Request) { r.Vars = list() }},
		{"vars that can't be", vary, func(r *api.Request) { r.Vars = make([]api.Var, 1) }},
		{"many vars", vary, func(r *api.Request) { r.Vars = make([]api.Var, 1000) }},
		{"topics", []int{3}, func(r *api.Request) { r.Topics = []string{"t"} }},
		{"topics that can't be", []int{3}, func(r *api.Request) { r.Topics = []string{""} }},
		{"max", []int{3}, func(r *api.Request) { r.Max = 1 }},
		{"max below 0", []int{3}, func(r *api.Request) { r.Max = -1 }},
		{"time", times, func(r *api.Request) { r.Time = 1 }},
		{"time below 0", times, func(r *api.Request) { r.Time = -1 }},
		{"time without bounds", times, func(r *api.Request) { r.Time = math.MinInt64 }},
		{"task", tasks, func(r *api.Request) { r.Task = 1 }},
		{"task below 0", tasks, func(r *api.Request) { r.Task = -1 }},
		{"epoch", epochs, func(r *api.Request) { r.Epoch = 1 }},
		{"epoch below 0", epochs, func(r *api.Request) { r.Epoch = -1 }},
		{"retries", retries, func(r *api.Request) { r.Retries = 1 }},
		{"retries below 0", retries, func(r *api.Request) { r.Retries = -1 }},
		{"code", []int{8}, func(r *api.Request) { r.Code = "c" }},
		{"code that is none", []int{8}, func(r *api.Request) { r.Code = "?" }},
	}
}

func TestCheckOfPartsThatAKindHasNot(t *testing.T) {
	for _, kind := range kinds() {
		for _, p := range pieces() {
			if slices.Contains(p.kinds, kind) {
				continue
			}
			r := asked(kind)
			p.set(&r)
			if err := Check(r); err != api.ErrShape {
				t.Errorf("%s with a %s: %v", kindName(kind), p.what, err)
			}
			// It comes ahead of what is amiss with the Kind's own parts.
			none := api.Request{Head: r.Head, Kind: kind}
			p.set(&none)
			if err := Check(none); err != api.ErrShape {
				t.Errorf("%s with a %s alone: %v", kindName(kind), p.what, err)
			}
			// And behind what is amiss with the Head.
			r.Key = 0
			if err := Check(r); err != api.ErrRange {
				t.Errorf("%s with a %s and no key: %v", kindName(kind), p.what, err)
			}
		}
	}
}

// An empty list is the same as none, also as a part that a Kind has not.
func TestCheckOfEmptyLists(t *testing.T) {
	for _, kind := range kinds() {
		r := asked(kind)
		if r.Vars == nil {
			r.Vars = []api.Var{}
		}
		if r.Topics == nil {
			r.Topics = []string{}
		}
		if r.Process.Name == "" {
			r.Process.Nodes, r.Process.Flows = []api.Node{}, []api.Flow{}
		}
		if err := Check(r); err != nil {
			t.Errorf("%s: %v", kindName(kind), err)
		}
	}
}

func TestCheckOfDeploy(t *testing.T) {
	holds(t, []change{
		{"no process", api.Deploy, func(r *api.Request) { r.Process = api.Process{} }, api.ErrName},
		{"a name that is none", api.Deploy, func(r *api.Request) { r.Process.Name = "P" }, api.ErrName},
		{"one node", api.Deploy, func(r *api.Request) { r.Process.Nodes = r.Process.Nodes[:1] }, api.ErrMany},
		{"a flow to nowhere", api.Deploy, func(r *api.Request) { r.Process.Flows[1].To = 3 }, at(101, api.ErrRange)},
		{"a condition that may not be", api.Deploy, func(r *api.Request) { r.Process.Flows[0].Cond = "true" }, at(100, api.ErrShape)},
		{"a topic that is none", api.Deploy, func(r *api.Request) { r.Process.Nodes[1].Topic = "" }, at(1, api.ErrName)},
		{"too many retries", api.Deploy, func(r *api.Request) { r.Process.Nodes[1].Retries = 10 }, at(1, api.ErrRange)},
	})
}

func TestCheckOfBegin(t *testing.T) {
	holds(t, append(varsChanges(api.Begin), []change{
		{"no name", api.Begin, func(r *api.Request) { r.Name = "" }, api.ErrName},
		{"a name that is none", api.Begin, func(r *api.Request) { r.Name = "N" }, api.ErrName},
		{"a long name", api.Begin, func(r *api.Request) { r.Name = strings.Repeat("n", 24) }, nil},
		{"a name that is too long", api.Begin, func(r *api.Request) { r.Name = strings.Repeat("n", 25) }, api.ErrName},
		{"no name, and many vars", api.Begin, func(r *api.Request) { r.Name, r.Vars = "", make([]api.Var, 13) }, api.ErrName},
	}...))
}

// varsChanges are those of the variables of that Kind.
func varsChanges(kind int) []change {
	return []change{
		{"no vars", kind, func(r *api.Request) { r.Vars = nil }, nil},
		{"12 vars", kind, func(r *api.Request) { r.Vars = manyVars(12) }, nil},
		{"13 vars", kind, func(r *api.Request) { r.Vars = manyVars(13) }, api.ErrMany},
		{"a var without a name", kind, func(r *api.Request) { r.Vars[1].Name = "" }, at(1, api.ErrName)},
		{"a var of no kind", kind, func(r *api.Request) { r.Vars[0].Value.Kind = 4 }, at(0, api.ErrType)},
		{"a var that is too long", kind, func(r *api.Request) { r.Vars[1].Value.S = strings.Repeat("x", 61) }, at(1, api.ErrLong)},
		{"a var twice", kind, func(r *api.Request) { r.Vars[1].Name = "a" }, at(1, api.ErrTwice)},
	}
}

func TestCheckOfFetch(t *testing.T) {
	l := []change{
		{"no topics", api.Fetch, func(r *api.Request) { r.Topics = nil }, api.ErrMany},
		{"an empty list of topics", api.Fetch, func(r *api.Request) { r.Topics = []string{} }, api.ErrMany},
		{"1 topic", api.Fetch, func(r *api.Request) { r.Topics = []string{"t"} }, nil},
		{"6 topics", api.Fetch, func(r *api.Request) { r.Topics = strings.Split("f e d c b a", " ") }, nil},
		{"7 topics", api.Fetch, func(r *api.Request) { r.Topics = strings.Split("a b c d e f g", " ") }, api.ErrMany},
		{"7 topics that are none, and no max", api.Fetch, func(r *api.Request) { r.Topics, r.Max = make([]string, 7), 0 }, api.ErrMany},
		{"a topic that is none", api.Fetch, func(r *api.Request) { r.Topics[1] = "T" }, api.ErrName},
		{"a topic that is none, and others twice", api.Fetch, func(r *api.Request) { r.Topics = []string{"a", "a", "?"} }, api.ErrName},
		{"a topic that is none twice", api.Fetch, func(r *api.Request) { r.Topics = []string{"", ""} }, api.ErrName},
		{"long topics", api.Fetch, func(r *api.Request) { r.Topics[0] = strings.Repeat("t", 24) }, nil},
		{"a topic that is too long", api.Fetch, func(r *api.Request) { r.Topics[0] = strings.Repeat("t", 25) }, api.ErrName},
		{"a topic twice", api.Fetch, func(r *api.Request) { r.Topics[1] = "u" }, api.ErrTwice},
		{"a topic twice, not side by side, and no max", api.Fetch, func(r *api.Request) { r.Topics, r.Max = []string{"a", "b", "c", "d", "e", "a"}, 0 }, api.ErrTwice},
		{"one topic ahead of another", api.Fetch, func(r *api.Request) { r.Topics = []string{"tt", "t"} }, nil},
	}
	for _, n := range []int{0, -1, 6, math.MaxInt, math.MinInt, 1<<32 + 1} {
		l = append(l, change{"max", api.Fetch, func(r *api.Request) { r.Max = n }, api.ErrRange})
	}
	for _, n := range []int{1, 2, 4, 5} {
		l = append(l, change{"max", api.Fetch, func(r *api.Request) { r.Max = n }, nil})
	}
	holds(t, append(l, timeChanges(api.Fetch, 1)...))
}

// timeChanges are those of the Time of that Kind, which is least to 1000.
func timeChanges(kind int, least int64) []change {
	var l []change
	for _, n := range []int64{least - 1, -1, 1001, math.MaxInt64, math.MinInt64, 1<<32 + 1} {
		l = append(l, change{"time", kind, func(r *api.Request) { r.Time = n }, api.ErrRange})
	}
	for _, n := range []int64{least, 1, 2, 999, 1000} {
		l = append(l, change{"time", kind, func(r *api.Request) { r.Time = n }, nil})
	}
	return l
}

// retriesChanges are those of the Retries of that Kind, which are least to 9.
func retriesChanges(kind, least int) []change {
	var l []change
	for _, n := range []int{least - 1, -1, 10, math.MaxInt, math.MinInt, 1<<32 + 1} {
		l = append(l, change{"retries", kind, func(r *api.Request) { r.Retries = n }, api.ErrRange})
	}
	for _, n := range []int{least, 1, 8, 9} {
		l = append(l, change{"retries", kind, func(r *api.Request) { r.Retries = n }, nil})
	}
	return l
}

func TestCheckOfTasksAndEpochs(t *testing.T) {
	for _, kind := range kinds()[3:] {
		var l []change
		for _, n := range []int{0, -1, 1073741825, math.MaxInt, math.MinInt, 1<<32 + 1} {
			l = append(l, change{"task", kind, func(r *api.Request) { r.Task = n }, api.ErrRange})
		}
		for _, n := range []int{1, 2, 61, 1073741823, 1073741824} {
			l = append(l, change{"task", kind, func(r *api.Request) { r.Task = n }, nil})
		}
		if kind == api.Repair {
			holds(t, l)
			continue
		}
		for _, n := range []int{0, -1, 61, math.MaxInt, math.MinInt, 1<<32 + 1} {
			l = append(l, change{"epoch", kind, func(r *api.Request) { r.Epoch = n }, api.ErrRange})
		}
		for _, n := range []int{1, 2, 59, 60} {
			l = append(l, change{"epoch", kind, func(r *api.Request) { r.Epoch = n }, nil})
		}
		holds(t, l)
	}
}

func TestCheckOfWhatIsToldOnALease(t *testing.T) {
	holds(t, timeChanges(api.Extend, 1))
	holds(t, append(timeChanges(api.Fail, 0), retriesChanges(api.Fail, 0)...))
	holds(t, retriesChanges(api.Repair, 1))
	for _, kind := range []int{api.Complete, api.Throw} {
		holds(t, append(varsChanges(kind), []change{
			{"no task, and many vars", kind, func(r *api.Request) { r.Task, r.Vars = 0, make([]api.Var, 13) }, api.ErrRange},
			{"no epoch, and many vars", kind, func(r *api.Request) { r.Epoch, r.Vars = 0, make([]api.Var, 13) }, api.ErrRange},
		}...))
	}
	holds(t, []change{
		{"no code", api.Throw, func(r *api.Request) { r.Code = "" }, api.ErrName},
		{"a code that is none", api.Throw, func(r *api.Request) { r.Code = "C" }, api.ErrName},
		{"a long code", api.Throw, func(r *api.Request) { r.Code = strings.Repeat("c", 24) }, nil},
		{"a code that is too long", api.Throw, func(r *api.Request) { r.Code = strings.Repeat("c", 25) }, api.ErrName},
		{"no code, and many vars", api.Throw, func(r *api.Request) { r.Code, r.Vars = "", make([]api.Var, 13) }, api.ErrName},
		{"no code, and no epoch", api.Throw, func(r *api.Request) { r.Code, r.Epoch = "", 0 }, api.ErrRange},
	})
}

// Where several are amiss, the first tells.
func TestCheckInOrder(t *testing.T) {
	r := api.Request{Name: "x", Max: 1, Process: api.Process{Nodes: make([]api.Node, 5)}}
	for _, c := range []struct {
		mend func()
		err  error
	}{
		{func() {}, api.ErrName}, {func() { r.Worker = "w" }, api.ErrRange}, {func() { r.Inc = 1 }, api.ErrRange}, {func() { r.Key = 1 }, api.ErrShape}, {func() { r.Kind = api.Throw }, api.ErrShape},
		{func() { r.Name = "" }, api.ErrShape}, {func() { r.Max = 0 }, api.ErrShape}, {func() { r.Process = api.Process{} }, api.ErrRange}, {func() { r.Task = 1 }, api.ErrRange}, {func() { r.Epoch = 1 }, api.ErrName},
		{func() { r.Code, r.Vars = "c", make([]api.Var, 1) }, at(0, api.ErrName)}, {func() { r.Vars = nil }, nil},
	} {
		c.mend()
		if err := Check(r); !sameError(err, c.err) {
			t.Errorf("%v: %v, not %v", r, err, c.err)
		}
	}
}

// Errors that a lower layer tells are asked with errors.Is, too.
func TestCheckTellsSentinels(t *testing.T) {
	r := asked(api.Begin)
	r.Vars[1].Name = "A"
	var place *api.At
	if err := Check(r); !errors.Is(err, api.ErrName) || !errors.As(err, &place) || place.Pos != 1 {
		t.Errorf("%v", err)
	}
}

// roomy is r in memory with spare room behind each list, and all of that memory.
func roomy(r api.Request) (part, all api.Request) {
	part, all = r, r
	part.Vars, all.Vars = room(r.Vars)
	part.Topics, all.Topics = room(r.Topics)
	part.Process.Nodes, all.Process.Nodes = room(r.Process.Nodes)
	part.Process.Flows, all.Process.Flows = room(r.Process.Flows)
	return part, all
}

// room is l with spare room behind it, and all of that memory.
func room[T any](l []T) (part, all []T) {
	var zero T
	all = append(slices.Clone(l), zero, zero, zero)
	return all[:len(l)], all
}

// copied is r in memory of its own.
func copied(r api.Request) api.Request {
	r.Vars, r.Topics = slices.Clone(r.Vars), slices.Clone(r.Topics)
	r.Process.Nodes, r.Process.Flows = slices.Clone(r.Process.Nodes), slices.Clone(r.Process.Flows)
	return r
}

func TestNothingHandedInIsChangedOrReadBehindItsLength(t *testing.T) {
	for _, kind := range kinds() {
		part, all := roomy(asked(kind))
		before := copied(all)
		want, err := Bytes(asked(kind))
		for range 2 {
			if Check(part) != nil || err != nil {
				t.Errorf("%s: %v, %v", kindName(kind), Check(part), err)
			}
			if b, err := Bytes(part); string(b) != string(want) || err != nil {
				t.Errorf("%s: %x, %v", kindName(kind), b, err)
			}
			if !Same(part, asked(kind)) || !Same(asked(kind), part) || !Same(all, before) {
				t.Errorf("%s: it is changed, or what lies behind it", kindName(kind))
			}
		}
	}
}
