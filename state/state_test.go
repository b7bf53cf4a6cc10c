package state

import (
	"math"
	"slices"
	"testing"

	"leasehold/again"
	"leasehold/api"
	"leasehold/vars"
)

// plain is all that a State has, in lists.
type plain struct {
	processes              []api.Process
	instances              []api.Instance
	tasks                  []api.Task
	pages                  []again.Page
	nextInstance, nextTask int
}

// of is s in lists.
func of(s *State) plain {
	return plain{s.Processes, s.Instances, s.All(), s.Book.All(), s.NextInstance, s.NextTask}
}

func sameProcess(a, b api.Process) bool {
	return a.Name == b.Name && slices.Equal(a.Nodes, b.Nodes) && slices.Equal(a.Flows, b.Flows)
}

func sameInstance(a, b api.Instance) bool {
	return a.ID == b.ID && a.Process == b.Process && a.State == b.State && a.Code == b.Code && slices.Equal(a.Vars, b.Vars) && slices.Equal(a.Tokens, b.Tokens) && a.Next == b.Next
}

func samePage(a, b again.Page) bool {
	return a.Worker == b.Worker && a.Inc == b.Inc && slices.Equal(a.Keys, b.Keys) && slices.EqualFunc(a.Replies, b.Replies, slices.Equal)
}

func (p plain) same(q plain) bool {
	return slices.EqualFunc(p.processes, q.processes, sameProcess) && slices.EqualFunc(p.instances, q.instances, sameInstance) &&
		slices.Equal(p.tasks, q.tasks) && slices.EqualFunc(p.pages, q.pages, samePage) && p.nextInstance == q.nextInstance && p.nextTask == q.nextTask
}

// stands holds s against all that it has to have.
func stands(t *testing.T, what string, s *State, want plain) {
	t.Helper()
	if s == nil {
		t.Fatalf("%s: none", what)
	}
	if got := of(s); !got.same(want) {
		t.Fatalf("%s: %v, not %v", what, got, want)
	}
}

// line is a process from a Start by a Work of that topic to an End.
func line(name, topic string) api.Process {
	return api.Process{
		Name: name,
		Nodes: []api.Node{
			{Kind: api.Start, Default: -1, To: -1},
			{Kind: api.Work, Topic: topic, Priority: 3, Retries: 2, Default: -1, Catch: "oops", To: 2},
			{Kind: api.Exclusive, Default: 1, To: -1},
			{Kind: api.Failure, Default: -1, Code: "bad", To: -1},
		},
		Flows: []api.Flow{{From: 0, To: 1}, {From: 1, To: 2}, {From: 1, To: 3, Cond: "n = 1"}},
	}
}

// goes is an instance with something in each list.
func goes(id, place int) api.Instance {
	return api.Instance{
		ID: id, Process: place, State: api.Live,
		Vars:   []api.Var{{Name: "n", Value: vars.Number(int64(id))}, {Name: "s", Value: vars.Word("text")}, {Name: "yes", Value: vars.Flag(true)}},
		Tokens: []api.Token{{ID: 2, Node: 1, In: 0}, {ID: 3, Node: 0, In: -1, Stuck: true}, {ID: 4, Node: 1, In: 0}},
		Next:   5,
	}
}

// failed is an instance that is over.
func failed(id int) api.Instance {
	return api.Instance{ID: id, Process: 1, State: api.Failed, Code: "bad", Next: 9}
}

// work is a task of an instance.
func work(id, instance int) api.Task {
	return api.Task{ID: id, Instance: instance, Token: 2, Node: 1, Topic: "paint", Priority: 3, Retries: 2}
}

// leased is a task with something in each field but Broken.
func leased(id, instance int) api.Task {
	t := work(id, instance)
	t.Worker, t.Epoch, t.Expiry, t.After = "amy", 7, 1<<41, 11
	return t
}

// broken is a task that nobody tries any more.
func broken(id, instance int) api.Task {
	t := work(id, instance)
	t.Topic, t.Retries, t.Broken = "cut", 0, true
	return t
}

// some is what full makes a State of, in memory of its own.
func some() plain {
	return plain{
		processes: []api.Process{line("house", "paint"), line("tree", "cut"), {Name: "none"}},
		instances: []api.Instance{goes(2, 0), failed(4), goes(5, 1)},
		tasks:     []api.Task{work(3, 2), leased(4, 2), broken(6, 5), work(9, 5)},
		pages: []again.Page{
			{Worker: "amy", Inc: 2, Keys: []int{5, 3}, Replies: [][]byte{[]byte("done"), {}}},
			{Worker: "bob", Inc: 1, Keys: []int{1}, Replies: [][]byte{[]byte("\x00\xff")}},
		},
		nextInstance: 6, nextTask: 10,
	}
}

// made is a State of p.
func made(t *testing.T, p plain) *State {
	t.Helper()
	s := New()
	s.Processes, s.Instances = p.processes, p.instances
	s.Put(p.tasks...)
	if !s.Book.Load(p.pages...) {
		t.Fatalf("no book of %v", p.pages)
	}
	s.NextInstance, s.NextTask = p.nextInstance, p.nextTask
	return s
}

// full is a State with something everywhere.
func full(t *testing.T) *State {
	t.Helper()
	return made(t, some())
}

// ids is the IDs of l.
func ids(l []api.Instance) []int {
	var out []int
	for _, i := range l {
		out = append(out, i.ID)
	}
	return out
}

// taskIDs is the IDs of l.
func taskIDs(l []api.Task) []int {
	var out []int
	for _, t := range l {
		out = append(out, t.ID)
	}
	return out
}

// spoil writes over all of l, its spare room too, and behind it.
func spoil[T any](l []T, with T) {
	_ = append(l, with)
	l = l[:cap(l)]
	for k := range l {
		l[k] = with
	}
}

// spoilInstance writes over all lists of i.
func spoilInstance(i api.Instance) {
	spoil(i.Vars, api.Var{Name: "spoilt"})
	spoil(i.Tokens, api.Token{ID: 99})
}

// spoilAll writes over all lists that s has.
func spoilAll(s *State) {
	for _, p := range s.Processes {
		spoil(p.Nodes, api.Node{Topic: "spoilt"})
		spoil(p.Flows, api.Flow{Cond: "spoilt"})
	}
	for _, i := range s.Instances {
		spoilInstance(i)
	}
	spoil(s.Processes, api.Process{Name: "spoilt"})
	spoil(s.Instances, api.Instance{Code: "spoilt"})
}

// room is l with spare room behind it, and all of that memory.
func room[T any](l []T) (part, all []T) {
	var zero T
	all = append(slices.Clone(l), zero, zero, zero)
	return all[:len(l)], all
}

// P14.1: New

func TestNew(t *testing.T) {
	s, other := New(), New()
	stands(t, "a new one", s, plain{nextInstance: 1, nextTask: 1})
	if s.Len() != 0 || len(s.Of(1)) > 0 {
		t.Errorf("tasks: %d, %v", s.Len(), s.Of(1))
	}
	s.Put(work(1, 1))
	s.SetInstance(goes(1, 0))
	s.Book.Keep(api.Head{Worker: "amy", Inc: 1, Key: 1}, nil)
	s.NextTask, s.NextInstance = 7, 8
	stands(t, "another one", other, plain{nextInstance: 1, nextTask: 1})
	stands(t, "one made behind it", New(), plain{nextInstance: 1, nextTask: 1})
}

// The calls of the Queue that is in it are its own.
func TestTasksOfTheState(t *testing.T) {
	s := full(t)
	if got, is := s.Get(4); got != leased(4, 2) || !is {
		t.Errorf("get: %v, %t", got, is)
	}
	if got := taskIDs(s.Pick(50, 9, "paint")); !slices.Equal(got, []int{3, 9}) {
		t.Errorf("pick: %v", got)
	}
	if at, is := s.Soonest(50, "paint"); at != 1<<41 || !is {
		t.Errorf("soonest: %d, %t", at, is)
	}
	if n := s.Drop(3, 5, 9); n != 2 || s.Len() != 2 || s.Queue.Len() != 2 {
		t.Errorf("drop: %d, %d", n, s.Len())
	}
	want := some()
	want.tasks = want.tasks[1:3]
	stands(t, "with two dropped", s, want)
}

// P14.1: Process

func TestProcess(t *testing.T) {
	s := full(t)
	for k, name := range []string{"house", "tree", "none"} {
		if at, is := s.Process(name); at != k || !is {
			t.Errorf("%s: %d, %t, not %d", name, at, is, k)
		}
	}
	for _, name := range []string{"", "hous", "housee", "House", "house ", " tree", "paint", "\xff"} {
		if at, is := s.Process(name); at != 0 || is {
			t.Errorf("%q: %d, %t", name, at, is)
		}
	}
	stands(t, "as it was", s, some())
	if at, is := New().Process(""); at != 0 || is {
		t.Errorf("of none: %d, %t", at, is)
	}
}

// A name is a text like another one; of several of a name the first is it.
func TestProcessOfAnyName(t *testing.T) {
	s := New()
	for _, name := range []string{"b", "a", "", "b", "A ?", "a", ""} {
		s.Processes = append(s.Processes, api.Process{Name: name})
	}
	for name, want := range map[string]int{"b": 0, "a": 1, "": 2, "A ?": 4} {
		if at, is := s.Process(name); at != want || !is {
			t.Errorf("%q: %d, %t, not %d", name, at, is, want)
		}
	}
	s.Processes = s.Processes[1:]
	if at, is := s.Process("b"); at != 2 || !is {
		t.Errorf("b without the first: %d, %t", at, is)
	}
	s.Processes = s.Processes[:2]
	if at, is := s.Process("b"); at != 0 || is {
		t.Errorf("b behind the end: %d, %t", at, is)
	}
}

// P14.1: Instance

func TestInstance(t *testing.T) {
	s := full(t)
	for _, want := range some().instances {
		if got, is := s.Instance(want.ID); !sameInstance(got, want) || !is {
			t.Errorf("%d: %v, %t, not %v", want.ID, got, is, want)
		}
	}
	for _, id := range []int{0, 1, 3, 6, -1, -2, 2 + 1<<32, math.MaxInt, math.MinInt} {
		if got, is := s.Instance(id); !sameInstance(got, api.Instance{}) || is {
			t.Errorf("%d: %v, %t", id, got, is)
		}
	}
	stands(t, "as it was", s, some())
	if got, is := New().Instance(0); !sameInstance(got, api.Instance{}) || is {
		t.Errorf("of none: %v, %t", got, is)
	}
}

// However they stand there, the first of an ID is it.
func TestInstanceInAnyOrder(t *testing.T) {
	s := New()
	for k, id := range []int{9, -3, 0, 9, math.MinInt, 4, -3, math.MaxInt} {
		i := goes(id, k)
		s.Instances = append(s.Instances, i)
	}
	for id, place := range map[int]int{9: 0, -3: 1, 0: 2, math.MinInt: 4, 4: 5, math.MaxInt: 7} {
		if got, is := s.Instance(id); !sameInstance(got, goes(id, place)) || !is {
			t.Errorf("%d: %v, %t, not that at %d", id, got, is, place)
		}
	}
}

// P14.1: SetInstance

func TestSetInstance(t *testing.T) {
	l := []api.Instance{goes(3, 0), failed(5), goes(8, 2), {ID: 9}}
	for _, order := range [][]int{{0, 1, 2, 3}, {3, 2, 1, 0}, {1, 3, 0, 2}, {2, 0, 3, 1}, {1, 2, 0, 3}} {
		s := New()
		var set []api.Instance
		for _, k := range order {
			s.SetInstance(l[k])
			set = append(set, l[k])
			slices.SortFunc(set, func(a, b api.Instance) int { return a.ID - b.ID })
			stands(t, "set", s, plain{instances: set, nextInstance: 1, nextTask: 1})
		}
	}
}

// One in the place of another one is all of it: nothing of the other one is left, and nothing else is changed.
func TestSetInstanceInThePlace(t *testing.T) {
	for k, id := range []int{2, 4, 5} {
		for _, i := range []api.Instance{{ID: id}, failed(id), goes(id, 7), {ID: id, Tokens: []api.Token{{ID: 1}}}} {
			s, want := full(t), some()
			s.SetInstance(i)
			want.instances[k] = i
			stands(t, "in the place", s, want)
			s.SetInstance(i)
			stands(t, "the same again", s, want)
			if got, is := s.Instance(id); !sameInstance(got, i) || !is {
				t.Errorf("%d: %v, %t", id, got, is)
			}
		}
	}
}

func TestSetInstanceWhereItBelongs(t *testing.T) {
	for id, place := range map[int]int{1: 0, 3: 1, 6: 3, 0: 0, -1: 0, 100: 3, math.MaxInt: 3, math.MinInt: 0} {
		s, want := full(t), some()
		s.SetInstance(failed(id))
		want.instances = slices.Insert(want.instances, place, failed(id))
		stands(t, "where it belongs", s, want)
	}
}

// Those that Read took may stand in any order: one of the ID is still the place, and else it is ahead of the first greater one.
func TestSetInstanceAmongAnyOrder(t *testing.T) {
	for k, c := range []struct {
		l    []int
		id   int
		want []int
		at   int
	}{
		{[]int{7, 2, 5}, 5, []int{7, 2, 5}, 2},
		{[]int{7, 2, 5}, 7, []int{7, 2, 5}, 0},
		{[]int{7, 2, 5}, 2, []int{7, 2, 5}, 1},
		{[]int{7, 2, 5}, 3, []int{3, 7, 2, 5}, 0},
		{[]int{2, 7, 3, 9}, 5, []int{2, 5, 7, 3, 9}, 1},
		{[]int{7, 2, 5}, 8, []int{7, 2, 5, 8}, 3},
		{[]int{3, 5, 3, 5}, 5, []int{3, 5, 3, 5}, 1},
		{[]int{3, 3}, 3, []int{3, 3}, 0},
		{[]int{3, 3}, 2, []int{2, 3, 3}, 0},
		{[]int{3, 3}, 4, []int{3, 3, 4}, 2},
	} {
		s := New()
		for _, id := range c.l {
			s.Instances = append(s.Instances, api.Instance{ID: id})
		}
		s.SetInstance(goes(c.id, 6))
		if !slices.Equal(ids(s.Instances), c.want) || !sameInstance(s.Instances[c.at], goes(c.id, 6)) {
			t.Errorf("%d: %v, not %v", k, s.Instances, c.want)
		}
		for n, i := range s.Instances {
			if n != c.at && !sameInstance(i, api.Instance{ID: i.ID}) {
				t.Errorf("%d: at %d: %v", k, n, i)
			}
		}
	}
}

// More than an engine has may stand there, and each call ends.
func TestManyInstances(t *testing.T) {
	s := New()
	for k := range 2000 {
		s.SetInstance(api.Instance{ID: k * 7919 % 2000, Next: k})
	}
	for k := range 2000 {
		if i, is := s.Instance(k * 7919 % 2000); i.Next != k || !is {
			t.Fatalf("%d: %v, %t", k, i, is)
		}
	}
	if !slices.IsSorted(ids(s.Instances)) || len(s.Instances) != 2000 {
		t.Errorf("%v", ids(s.Instances))
	}
}

// P14.1: Of

func TestOf(t *testing.T) {
	s := full(t)
	for instance, want := range map[int][]int{2: {3, 4}, 5: {6, 9}, 4: nil, 0: nil, 1: nil, 3: nil, -2: nil, 2 + 1<<32: nil, math.MaxInt: nil, math.MinInt: nil} {
		got := s.Of(instance)
		if !slices.Equal(taskIDs(got), want) {
			t.Errorf("%d: %v, not %v", instance, taskIDs(got), want)
		}
		for _, x := range got {
			if is, _ := s.Get(x.ID); x != is {
				t.Errorf("%d: %v, not %v", instance, x, is)
			}
		}
	}
	stands(t, "as it was", s, some())
	s.Put(work(5, 2), work(1, 2), work(4, 7), work(20, 2))
	if got := taskIDs(s.Of(2)); !slices.Equal(got, []int{1, 3, 5, 20}) {
		t.Errorf("with more, and one in the place: %v", got)
	}
	if got := taskIDs(s.Of(7)); !slices.Equal(got, []int{4}) {
		t.Errorf("of another one: %v", got)
	}
	s.Drop(3, 20, 4)
	if got := taskIDs(s.Of(2)); !slices.Equal(got, []int{1, 5}) {
		t.Errorf("with some dropped: %v", got)
	}
	if got := s.Of(7); len(got) > 0 {
		t.Errorf("of another one, dropped: %v", got)
	}
}

// Whether there is such an instance is not asked, and an ID is any number.
func TestOfAnyInstance(t *testing.T) {
	s := New()
	for k := range 100 {
		s.Put(work(100-k, []int{-1, 0, 7, math.MinInt}[k%4]))
	}
	for k, instance := range []int{-1, 0, 7, math.MinInt} {
		var want []int
		for id := 1; id <= 100; id++ {
			if (100-id)%4 == k {
				want = append(want, id)
			}
		}
		if got := taskIDs(s.Of(instance)); !slices.Equal(got, want) {
			t.Errorf("%d: %v, not %v", instance, got, want)
		}
	}
}

// P14.1: Copy

// changes are deeds of which each is to be seen.
func changes() []func(s *State) {
	return []func(s *State){
		func(s *State) { s.Put(work(30, 2)) },
		func(s *State) { s.Put(work(4, 2)) },
		func(s *State) { s.Drop(3) },
		func(s *State) { s.Queue = *New().Clone() },
		func(s *State) { s.Book.Keep(api.Head{Worker: "amy", Inc: 2, Key: 9}, []byte("r")) },
		func(s *State) { s.Book.Keep(api.Head{Worker: "cat", Inc: 1, Key: 1}, nil) },
		func(s *State) { s.Book.Load() },
		func(s *State) { s.Processes[0].Name = "hut" },
		func(s *State) { s.Processes[0].Nodes[1].Topic = "hew" },
		func(s *State) { s.Processes[1].Nodes[0].Kind = 9 },
		func(s *State) { s.Processes[1].Flows[2].Cond = "" },
		func(s *State) { s.Processes[2] = line("none", "none") },
		func(s *State) { s.Processes = append(s.Processes, line("hut", "hew")) },
		func(s *State) { s.Processes = s.Processes[:1] },
		func(s *State) { s.Instances[0].Vars[1].Value.S = "other" },
		func(s *State) { s.Instances[2].Tokens[0].Stuck = true },
		func(s *State) { s.Instances[1].State = api.Done },
		func(s *State) { s.Instances = s.Instances[1:] },
		func(s *State) { s.SetInstance(failed(3)) },
		func(s *State) { s.SetInstance(failed(2)) },
		func(s *State) { s.SetInstance(failed(9)) },
		func(s *State) { s.NextInstance++ },
		func(s *State) { s.NextTask++ },
		func(s *State) { *s = *New() },
	}
}

func TestCopy(t *testing.T) {
	s := full(t)
	c := s.Copy()
	stands(t, "a copy", c, some())
	stands(t, "a copy of a copy", c.Copy(), some())
	stands(t, "what was copied", s, some())
	stands(t, "a copy of a new one", New().Copy(), plain{nextInstance: 1, nextTask: 1})
}

// What is done to one of the two is not to be seen in the other one.
func TestCopyGoesItsOwnWay(t *testing.T) {
	for k, change := range changes() {
		s := full(t)
		c := s.Copy()
		change(c)
		if of(c).same(some()) {
			t.Errorf("%d: it changes nothing", k)
		}
		stands(t, "what was copied", s, some())
		s = full(t)
		c = s.Copy()
		change(s)
		if of(s).same(some()) {
			t.Errorf("%d: it changes nothing", k)
		}
		stands(t, "the copy", c, some())
	}
	s := full(t)
	c, other := s.Copy(), s.Copy()
	spoilAll(c)
	stands(t, "what was copied", s, some())
	stands(t, "another copy", other, some())
	spoilAll(s)
	stands(t, "a copy", other, some())
}

// What begins as nothing may be filled in one of the two.
func TestCopyOfNothing(t *testing.T) {
	s := New()
	c := s.Copy()
	c.Put(work(1, 1))
	c.SetInstance(goes(1, 0))
	c.Processes = append(c.Processes, line("a", "b"))
	c.Book.Keep(api.Head{Worker: "amy", Inc: 1, Key: 1}, []byte("r"))
	stands(t, "what was copied", s, plain{nextInstance: 1, nextTask: 1})
	stands(t, "the copy", c, plain{
		processes: []api.Process{line("a", "b")}, instances: []api.Instance{goes(1, 0)}, tasks: []api.Task{work(1, 1)},
		pages: []again.Page{{Worker: "amy", Inc: 1, Keys: []int{1}, Replies: [][]byte{[]byte("r")}}}, nextInstance: 1, nextTask: 1,
	})
}

// P0.4: memory

func TestInstanceIsNewMemory(t *testing.T) {
	s := full(t)
	one, _ := s.Instance(2)
	two, _ := s.Instance(2)
	spoilInstance(one)
	if !sameInstance(two, goes(2, 0)) {
		t.Errorf("another answer shows it: %v", two)
	}
	stands(t, "spoilt", s, some())
	three, _ := s.Instance(2)
	s.Instances[0].Vars[0].Name, s.Instances[0].Tokens[0].ID = "spoilt", 99
	if !sameInstance(two, goes(2, 0)) || !sameInstance(three, goes(2, 0)) {
		t.Errorf("what was handed out shows a change: %v, %v", two, three)
	}
}

func TestOfIsNewMemory(t *testing.T) {
	s := full(t)
	one, two := s.Of(2), s.Of(2)
	spoil(one, work(99, 99))
	if !slices.Equal(two, some().tasks[:2]) {
		t.Errorf("another answer shows it: %v", two)
	}
	stands(t, "spoilt", s, some())
	s.Put(broken(3, 2))
	s.Drop(4)
	if !slices.Equal(two, some().tasks[:2]) {
		t.Errorf("what was handed out shows a change: %v", two)
	}
}

// What is handed in is neither changed nor kept, and what lies behind it is neither read nor written.
func TestSetInstanceKeepsNothing(t *testing.T) {
	for _, id := range []int{1, 2, 3, 9} {
		i := goes(id, 3)
		var l []api.Var
		var tokens []api.Token
		i.Vars, l = room(i.Vars)
		i.Tokens, tokens = room(i.Tokens)
		s := full(t)
		s.SetInstance(i)
		if !sameInstance(i, goes(id, 3)) || !slices.Equal(l, append(goes(id, 3).Vars, make([]api.Var, 3)...)) || !slices.Equal(tokens, append(goes(id, 3).Tokens, make([]api.Token, 3)...)) {
			t.Errorf("%d: it is changed: %v, %v", id, l, tokens)
		}
		spoilInstance(i)
		if got, is := s.Instance(id); !sameInstance(got, goes(id, 3)) || !is {
			t.Errorf("%d: it is kept: %v", id, got)
		}
		at := slices.Index(ids(s.Instances), id)
		spoilInstance(s.Instances[at])
		if !slices.Equal(l, slices.Repeat([]api.Var{{Name: "spoilt"}}, len(l))) || tokens[0].ID != 99 {
			t.Errorf("%d: %v, %v", id, l, tokens)
		}
	}
}

// A list that somebody else has too is not written into, nor behind.
func TestSetInstanceWritesIntoNoList(t *testing.T) {
	for _, id := range []int{1, 2, 3, 5, 9} {
		s := full(t)
		var all []api.Instance
		s.Instances, all = room(s.Instances)
		before := s.Instances
		s.SetInstance(failed(id))
		if !slices.EqualFunc(before, some().instances, sameInstance) || !slices.EqualFunc(all, append(some().instances, make([]api.Instance, 3)...), sameInstance) {
			t.Errorf("%d: %v", id, all)
		}
	}
}

// P0.5: the same calls on the same things tell the same.
func TestSameAgain(t *testing.T) {
	want := string(Bytes(full(t)))
	for range 100 {
		s, p := New(), some()
		slices.Reverse(p.tasks)
		slices.Reverse(p.pages)
		for k := range p.tasks {
			s.Put(p.tasks[k])
		}
		s.Book.Load(p.pages...)
		for k := range p.instances {
			s.SetInstance(p.instances[len(p.instances)-1-k])
		}
		s.Processes, s.NextInstance, s.NextTask = p.processes, p.nextInstance, p.nextTask
		stands(t, "put the other way round", s, some())
		if got := string(Bytes(s)); got != want {
			t.Fatalf("%q, not %q", got, want)
		}
		if got := taskIDs(s.Of(5)); !slices.Equal(got, []int{6, 9}) {
			t.Fatalf("of: %v", got)
		}
	}
}
