package work

import (
	"math"
	"slices"
	"strconv"
	"strings"
	"testing"

	"leasehold/api"
	"leasehold/process"
	"leasehold/state"
	"leasehold/vars"
)

// plain is a node of which nothing is asked but its Kind.
func plain(kind int) api.Node { return api.Node{Kind: kind, Default: -1, To: -1} }

// job is a Work.
func job(topic string, priority, retries int) api.Node {
	n := plain(api.Work)
	n.Topic, n.Priority, n.Retries = topic, priority, retries
	return n
}

// catching is a Work that flow leads from where something else came of it.
func catching(topic string, flow int) api.Node {
	n := job(topic, 5, 3)
	n.Catch, n.To = "oops", flow
	return n
}

// choosing is an Exclusive with a Default.
func choosing(flow int) api.Node {
	n := plain(api.Exclusive)
	n.Default = flow
	return n
}

// failing is a Failure.
func failing(code string) api.Node {
	n := plain(api.Failure)
	n.Code = code
	return n
}

// of is a process of nodes, with a flow for each word of ends: 1>2, or 1>2?cond.
func of(t *testing.T, name, ends string, nodes ...api.Node) api.Process {
	t.Helper()
	p := api.Process{Name: name, Nodes: nodes}
	for _, word := range strings.Fields(ends) {
		ways, c, _ := strings.Cut(word, "?")
		from, to, _ := strings.Cut(ways, ">")
		p.Flows = append(p.Flows, api.Flow{From: number(from), To: number(to), Cond: c})
	}
	if err := process.Check(p); err != nil {
		t.Fatal(name, err)
	}
	return p
}

// number is that of the text s.
func number(s string) int {
	n, err := strconv.Atoi(s)
	if err != nil {
		panic(err)
	}
	return n
}

// tokens is one for each word of s: 3:1<4 has ID 3, stands at node 1, came by flow 4; a ! behind it: it is Stuck.
func tokens(s string) []api.Token {
	var l []api.Token
	for _, word := range strings.Fields(s) {
		rest, stuck := strings.CutSuffix(word, "!")
		id, rest, _ := strings.Cut(rest, ":")
		node, in, _ := strings.Cut(rest, "<")
		l = append(l, api.Token{ID: number(id), Node: number(node), In: number(in), Stuck: stuck})
	}
	return l
}

// The places of the processes of made.
const (
	forked = iota // two Works side by side
	caught        // a Work that catches, to a Failure
	short         // no Work
	chosen        // by n: a Work, or at once an End
	round         // a Work that leads to itself again, too
	fails         // at once
	some          // two Works side by side with a way to a Failure, by n
	spins         // a Work side by side with a ring for ever
	stuck         // no way goes on
)

// made is a State with a process of each kind.
func made(t *testing.T) *state.State {
	t.Helper()
	start, end, par, exc := plain(api.Start), plain(api.End), plain(api.Parallel), plain(api.Exclusive)
	s := state.New()
	s.Processes = []api.Process{
		of(t, "forked", "0>1 1>2 1>3 2>4 3>4 4>5", start, par, job("a", 1, 2), job("b", 9, 1), par, end),
		of(t, "caught", "0>1 1>2 1>3", start, catching("c", 1), failing("bad"), end),
		of(t, "short", "0>1", start, end),
		of(t, "chosen", "0>1 1>2?n>1 1>3 2>1", start, choosing(2), job("d", 0, 9), end),
		of(t, "round", "0>1 1>1 1>2", start, catching("e", 1), end),
		of(t, "fails", "0>1", start, failing("at-once")),
		of(t, "some", "0>1 1>2 1>3 2>4 4>5?n==7 4>6 3>6", start, par, job("f", 2, 2), job("g", 2, 2), choosing(5), failing("seven"), end),
		of(t, "spins", "0>1 1>2 1>3 2>4 3>5 5>3?true 5>4?false", start, par, job("h", 3, 3), exc, end, exc),
		of(t, "stuck", "0>1 1>2?n>1 1>3?n>2", start, exc, end, end),
	}
	return s
}

// list is a variable of that number.
func list(n int64) []api.Var { return []api.Var{{Name: "n", Value: vars.Number(n)}} }

// stands is how an instance stands: its State, its Code, its tokens, and its Next.
func stands(s *state.State, id int) string {
	i, is := s.Instance(id)
	if !is {
		return "none"
	}
	words := []string{[]string{"?", "live", "done", "failed"}[i.State] + " " + i.Code}
	for _, x := range i.Tokens {
		word := strconv.Itoa(x.ID) + ":" + strconv.Itoa(x.Node) + "<" + strconv.Itoa(x.In)
		if x.Stuck {
			word += "!"
		}
		words = append(words, word)
	}
	return strings.Join(words, " ") + " next " + strconv.Itoa(i.Next)
}

// tasks is the tasks of s: 4:2.3 is that of ID 4, of the instance 2, of the token 3.
func tasks(s *state.State) string {
	var words []string
	for _, x := range s.All() {
		words = append(words, strconv.Itoa(x.ID)+":"+strconv.Itoa(x.Instance)+"."+strconv.Itoa(x.Token))
	}
	return strings.Join(words, " ")
}

// begun is the ID of an instance that is begun.
func begun(t *testing.T, s *state.State, process int, l []api.Var) int {
	t.Helper()
	id, is := Begin(s, process, l)
	if !is {
		t.Fatalf("begin of %d: no", process)
	}
	return id
}

// same tells whether two instances are.
func same(a, b api.Instance) bool {
	return a.ID == b.ID && a.Process == b.Process && a.State == b.State && a.Code == b.Code && slices.Equal(a.Vars, b.Vars) && slices.Equal(a.Tokens, b.Tokens) && a.Next == b.Next
}

// unchanged holds that do answers no, and that s is then as it was.
func unchanged(t *testing.T, what string, s *state.State, do func() bool) {
	t.Helper()
	was := s.Copy()
	if do() {
		t.Errorf("%s: yes", what)
	}
	if !state.Same(s, was) {
		t.Errorf("%s: %v, not %v", what, s, was)
	}
}

// room is l with spare room behind it, and all of that memory.
func room[T any](l []T, more ...T) (part, all []T) {
	all = append(slices.Clone(l), more...)
	return all[:len(l)], all
}

// spoil writes over all of l.
func spoil[T any](l []T) {
	var none T
	for k := range l {
		l[k] = none
	}
}

// P15.1: Begin

func TestBegin(t *testing.T) {
	for _, c := range []struct {
		process int
		l       []api.Var
		stand   string
		tasks   string
	}{
		{forked, nil, "live  3:2<1 4:3<2 next 5", "40:9.3 41:9.4"},
		{caught, list(1), "live  2:1<0 next 3", "40:9.2"},
		{short, list(1), "done  next 3", ""},
		{chosen, list(2), "live  3:2<1 next 4", "40:9.3"},
		{chosen, list(1), "done  next 4", ""},
		{chosen, nil, "live  2:1<0! next 3", ""},
		{round, nil, "live  2:1<0 next 3", "40:9.2"},
		{fails, list(1), "failed at-once next 3", ""},
		{some, list(7), "live  3:2<1 4:3<2 next 5", "40:9.3 41:9.4"},
		{spins, list(1), "live  3:2<1 402:3<5! next 403", "40:9.3"},
		{stuck, list(1), "live  2:1<0! next 3", ""},
	} {
		s := made(t)
		s.NextInstance, s.NextTask = 9, 40
		id, is := Begin(s, c.process, c.l)
		if id != 9 || !is {
			t.Errorf("%d: %d, %t", c.process, id, is)
		}
		if stands(s, 9) != c.stand || tasks(s) != c.tasks {
			t.Errorf("%d: %s; %s", c.process, stands(s, 9), tasks(s))
		}
		i, _ := s.Instance(9)
		if i.Process != c.process || !slices.Equal(i.Vars, c.l) || len(s.Instances) != 1 {
			t.Errorf("%d: %v", c.process, s.Instances)
		}
		if s.NextInstance != 10 || s.NextTask != 40+s.Len() || len(s.Processes) != 9 || len(s.Book.All()) > 0 {
			t.Errorf("%d: next %d, %d", c.process, s.NextInstance, s.NextTask)
		}
	}
}

func TestTasksThatCome(t *testing.T) {
	s := made(t)
	begun(t, s, chosen, list(5))
	begun(t, s, forked, list(5))
	want := []api.Task{
		{ID: 1, Instance: 1, Token: 3, Node: 2, Topic: "d", Retries: 9},
		{ID: 2, Instance: 2, Token: 3, Node: 2, Topic: "a", Priority: 1, Retries: 2},
		{ID: 3, Instance: 2, Token: 4, Node: 3, Topic: "b", Priority: 9, Retries: 1},
	}
	if !slices.Equal(s.All(), want) || s.NextTask != 4 {
		t.Errorf("%v, next %d", s.All(), s.NextTask)
	}
}

func TestBeginOneBehindTheOther(t *testing.T) {
	s := made(t)
	for k, process := range []int{caught, short, forked, forked, fails} {
		if id := begun(t, s, process, list(int64(k))); id != k+1 {
			t.Errorf("%d: %d", k, id)
		}
	}
	for k, want := range []string{"live  2:1<0 next 3", "done  next 3", "live  3:2<1 4:3<2 next 5", "live  3:2<1 4:3<2 next 5", "failed at-once next 3"} {
		if i, _ := s.Instance(k + 1); stands(s, k+1) != want || !slices.Equal(i.Vars, list(int64(k))) {
			t.Errorf("%d: %s, %v", k+1, stands(s, k+1), i.Vars)
		}
	}
	if tasks(s) != "1:1.2 2:3.3 3:3.4 4:4.3 5:4.4" || s.NextInstance != 6 || s.NextTask != 6 {
		t.Errorf("%s, next %d, %d", tasks(s), s.NextInstance, s.NextTask)
	}
}

func TestBeginOfNoProcess(t *testing.T) {
	s := made(t)
	begun(t, s, forked, nil)
	for _, place := range []int{-1, 9, 10, math.MaxInt, math.MinInt} {
		unchanged(t, strconv.Itoa(place), s, func() bool {
			id, is := Begin(s, place, list(1))
			if id != 0 {
				t.Errorf("%d: %d", place, id)
			}
			return is
		})
	}
	none := state.New()
	unchanged(t, "of none", none, func() bool { _, is := Begin(none, 0, nil); return is })
}

// How many there are, and whether the variables may be, is not asked.
func TestBeginAsksNothingElse(t *testing.T) {
	s := made(t)
	for k := range 2 * api.MaxInstances {
		if id := begun(t, s, caught, nil); id != k+1 {
			t.Errorf("%d: %d", k, id)
		}
	}
	if s.Len() != 2*api.MaxInstances || len(s.Instances) != 2*api.MaxInstances {
		t.Errorf("%d tasks, %d instances", s.Len(), len(s.Instances))
	}
	var l []api.Var
	for k := range api.MaxVars + 2 {
		l = append(l, api.Var{Name: strings.Repeat("?", 30-k), Value: api.Value{Kind: -k, S: "s"}})
	}
	if i, _ := s.Instance(begun(t, s, caught, l)); !slices.Equal(i.Vars, l) || i.State != api.Live {
		t.Errorf("%v", i)
	}
}

// An ID that is taken by then is given anew: nothing is left of who had it but a task whose token waits.
func TestBeginInThePlace(t *testing.T) {
	s := made(t)
	begun(t, s, forked, list(1))
	begun(t, s, forked, list(1))
	s.NextInstance = 1
	if id := begun(t, s, chosen, list(4)); id != 1 {
		t.Errorf("%d", id)
	}
	i, _ := s.Instance(1)
	if stands(s, 1) != "live  3:2<1 next 4" || i.Process != chosen || !slices.Equal(i.Vars, list(4)) || len(s.Instances) != 2 || tasks(s) != "1:1.3 3:2.3 4:2.4" || s.NextInstance != 2 || s.NextTask != 5 {
		t.Errorf("%s; %s; %v", stands(s, 1), tasks(s), s)
	}
}

func TestBeginKeepsNothingHandedIn(t *testing.T) {
	s := made(t)
	part, all := room(list(1), api.Var{Name: "behind"}, api.Var{Name: "behind"})
	id := begun(t, s, forked, part)
	if !slices.Equal(all, append(list(1), api.Var{Name: "behind"}, api.Var{Name: "behind"})) {
		t.Errorf("written over: %v", all)
	}
	spoil(all)
	if i, _ := s.Instance(id); !slices.Equal(i.Vars, list(1)) {
		t.Errorf("kept: %v", i.Vars)
	}
	other := begun(t, s, forked, list(2))
	spoil(s.Instances[1].Vars)
	spoil(s.Instances[1].Tokens)
	if i, _ := s.Instance(id); other != 2 || !slices.Equal(i.Vars, list(1)) || stands(s, id) != "live  3:2<1 4:3<2 next 5" {
		t.Errorf("shared: %v", i)
	}
}

// P15.1: Go

func TestGo(t *testing.T) {
	for k, c := range []struct {
		process, task, flow int
		more                []api.Var
		stand, tasks        string
		next                int
	}{
		{forked, 1, 3, nil, "live  4:3<2 5:4<3 next 6", "2:1.4", 3},
		{forked, 2, 4, nil, "live  3:2<1 5:4<4 next 6", "1:1.3", 3},
		{caught, 1, 2, nil, "done  next 4", "", 2},
		{caught, 1, 1, nil, "failed bad next 4", "", 2},
		// The variables are set ahead of the way being chosen.
		{chosen, 1, 3, nil, "live  5:2<1 next 6", "2:1.5", 3},
		{chosen, 1, 3, list(2), "live  5:2<1 next 6", "2:1.5", 3},
		{chosen, 1, 3, list(1), "done  next 6", "", 2},
		{chosen, 1, 3, []api.Var{{Name: "n", Value: vars.Word("two")}}, "live  4:1<3! next 5", "", 2},
		// It comes to the same node, but it's another token, and another task.
		{round, 1, 1, nil, "live  3:1<1 next 4", "2:1.3", 3},
		{round, 1, 2, nil, "done  next 4", "", 2},
		// Another one goes on yet; a Failure takes it, too, with its task.
		{some, 1, 3, nil, "live  4:3<2 next 7", "2:1.4", 3},
		{some, 2, 6, nil, "live  3:2<1 next 6", "1:1.3", 3},
		{some, 1, 3, list(7), "failed seven next 7", "", 3},
		// Who is Stuck stays so.
		{spins, 1, 3, nil, "live  402:3<5! next 404", "", 2},
	} {
		s := made(t)
		begun(t, s, c.process, list(5))
		if !Go(s, c.task, c.flow, c.more) {
			t.Errorf("%d: no", k)
		}
		if stands(s, 1) != c.stand || tasks(s) != c.tasks || s.NextTask != c.next || s.NextInstance != 2 {
			t.Errorf("%d: %s; %s; next %d", k, stands(s, 1), tasks(s), s.NextTask)
		}
		want := list(5)
		if len(c.more) > 0 {
			want = c.more
		}
		if i, _ := s.Instance(1); !slices.Equal(i.Vars, want) || i.Process != c.process {
			t.Errorf("%d: %v", k, i)
		}
		unchanged(t, "twice", s, func() bool { return Go(s, c.task, c.flow, c.more) })
	}
}

func TestGoToTheEnd(t *testing.T) {
	s := made(t)
	begun(t, s, forked, nil)
	begun(t, s, forked, nil)
	for _, c := range []struct {
		task, flow       int
		one, other, left string
	}{
		{2, 4, "live  3:2<1 5:4<4 next 6", "live  3:2<1 4:3<2 next 5", "1:1.3 3:2.3 4:2.4"},
		{3, 3, "live  3:2<1 5:4<4 next 6", "live  4:3<2 5:4<3 next 6", "1:1.3 4:2.4"},
		{1, 3, "done  next 8", "live  4:3<2 5:4<3 next 6", "4:2.4"},
		{4, 4, "done  next 8", "done  next 8", ""},
	} {
		if !Go(s, c.task, c.flow, nil) || stands(s, 1) != c.one || stands(s, 2) != c.other || tasks(s) != c.left {
			t.Errorf("%d: %s; %s; %s", c.task, stands(s, 1), stands(s, 2), tasks(s))
		}
	}
	if s.NextTask != 5 || s.NextInstance != 3 {
		t.Errorf("next %d, %d", s.NextTask, s.NextInstance)
	}
}

// Each of several rounds has a task of its own.
func TestGoRound(t *testing.T) {
	s := made(t)
	begun(t, s, round, nil)
	for k := range 50 {
		x, is := s.Get(k + 1)
		want := api.Task{ID: k + 1, Instance: 1, Token: k + 2, Node: 1, Topic: "e", Priority: 5, Retries: 3}
		if x != want || !is || s.Len() != 1 {
			t.Fatalf("%d: %v of %d, not %v", k, x, s.Len(), want)
		}
		// Nothing of a task comes to the next one.
		x.Worker, x.Epoch, x.Expiry, x.After, x.Retries, x.Priority = "amy", 9, 70, 8, 1, 0
		s.Put(x)
		if !Go(s, x.ID, 1, nil) {
			t.Fatalf("%d: no", k)
		}
	}
}

func TestGoSetsVariables(t *testing.T) {
	yes := vars.Flag(true)
	more := []api.Var{{Name: "z", Value: yes}, {Name: "n", Value: vars.Number(8)}, {Name: "a", Value: yes}}
	s := made(t)
	begun(t, s, forked, list(1))
	begun(t, s, forked, list(1))
	if !Go(s, 1, 3, more) {
		t.Error("no")
	}
	if i, _ := s.Instance(1); !slices.Equal(i.Vars, []api.Var{more[2], more[1], more[0]}) {
		t.Errorf("%v", i.Vars)
	}
	if i, _ := s.Instance(2); !slices.Equal(i.Vars, list(1)) {
		t.Errorf("of another one: %v", i.Vars)
	}
	// As many as there may be, and not one more.
	var l []api.Var
	for k := range api.MaxVars - 3 {
		l = append(l, api.Var{Name: "v" + strconv.Itoa(k), Value: yes})
	}
	unchanged(t, "one more", s, func() bool { return Go(s, 2, 4, append(l, api.Var{Name: "one", Value: yes})) })
	if !Go(s, 2, 4, l) || stands(s, 1) != "done  next 8" {
		t.Errorf("%s", stands(s, 1))
	}
	if i, _ := s.Instance(1); len(i.Vars) != api.MaxVars || vars.Check(i.Vars) != nil {
		t.Errorf("%v", i.Vars)
	}
}

func TestGoOfWhatCannotBe(t *testing.T) {
	s := made(t)
	begun(t, s, forked, list(1))
	begun(t, s, caught, list(1))
	for _, c := range []struct {
		task, flow int
		more       []api.Var
	}{
		// No such task.
		{0, 3, nil}, {4, 3, nil}, {-1, 3, nil}, {1 + 1<<32, 3, nil}, {math.MaxInt, 3, nil}, {math.MinInt, 3, nil},
		// The flow doesn't lead from its node, or is none.
		{1, 0, nil}, {1, 1, nil}, {1, 2, nil}, {1, 4, nil}, {1, 5, nil}, {1, 6, nil}, {1, -1, nil}, {1, math.MaxInt, nil}, {1, math.MinInt, nil},
		{2, 3, nil}, {3, 0, nil}, {3, 3, nil}, {3, -1, nil},
		// What comes of the variables may not be.
		{1, 3, []api.Var{{Name: "?", Value: vars.Number(1)}}}, {1, 3, []api.Var{{Name: "", Value: vars.Number(1)}}}, {1, 3, []api.Var{{Name: "m"}}},
		{1, 3, []api.Var{{Name: "n", Value: api.Value{Kind: api.Int, S: "s"}}}}, {1, 3, []api.Var{{Name: "m", Value: vars.Word(strings.Repeat("s", 61))}}},
		{2, 4, []api.Var{{Name: "m", Value: vars.Number(1)}, {Name: "n"}}}, {9, 99, []api.Var{{}}},
	} {
		unchanged(t, strconv.Itoa(c.task)+" along "+strconv.Itoa(c.flow), s, func() bool { return Go(s, c.task, c.flow, c.more) })
	}
	none := state.New()
	unchanged(t, "of none", none, func() bool { return Go(none, 1, 0, nil) })
}

// Variables that may not be by themselves, as Begin took them: it hangs on what comes of them.
func TestGoWithOddVariables(t *testing.T) {
	s := made(t)
	begun(t, s, forked, []api.Var{{Name: "n"}})
	unchanged(t, "odd yet", s, func() bool { return Go(s, 1, 3, nil) })
	if !Go(s, 1, 3, list(3)) {
		t.Error("mended: no")
	}
}

// A task that has not all that belongs to it: none of them takes anything on.
func TestGoOfAnOddTask(t *testing.T) {
	right := api.Task{ID: 7, Instance: 1, Token: 3, Node: 2, Topic: "a", Retries: 1}
	for k, change := range []func(x *api.Task, s *state.State){
		func(x *api.Task, _ *state.State) { x.Token = 99 },
		func(x *api.Task, _ *state.State) { x.Token = 0 },
		func(x *api.Task, _ *state.State) { x.Token = 4 }, // that stands at another Work
		func(x *api.Task, _ *state.State) { x.Node = 3 },
		func(x *api.Task, _ *state.State) { x.Node = -1 },
		func(x *api.Task, _ *state.State) { x.Node = 99 },
		func(x *api.Task, _ *state.State) { x.Instance = 2 }, // that is done
		func(x *api.Task, _ *state.State) { x.Instance = 99 },
		func(x *api.Task, _ *state.State) { x.Instance = -1 },
		func(x *api.Task, s *state.State) { s.Instances[0].Process = 99 },
		func(x *api.Task, s *state.State) { s.Instances[0].Process = -1 },
		func(x *api.Task, s *state.State) { s.Instances[0].Tokens = tokens("3:1<0") },
		func(x *api.Task, s *state.State) { s.Instances = nil },
		func(x *api.Task, s *state.State) { s.Processes = nil },
	} {
		s, x := made(t), right
		begun(t, s, forked, nil)
		begun(t, s, short, nil)
		change(&x, s)
		s.Put(x)
		unchanged(t, strconv.Itoa(k), s, func() bool { return Go(s, 7, 3, nil) })
	}
	// Nothing else of it is asked: it's right, though there's another one of that token, that goes with it.
	s := made(t)
	begun(t, s, forked, nil)
	right.Worker, right.Epoch, right.Retries, right.Broken = "amy", 99, 0, true
	s.Put(right)
	if !Go(s, 7, 3, nil) || tasks(s) != "2:1.4" || stands(s, 1) != "live  4:3<2 5:4<3 next 6" {
		t.Errorf("%s; %s", tasks(s), stands(s, 1))
	}
}

// A Stuck token's work may be done yet.
func TestGoOfAStuckToken(t *testing.T) {
	s := made(t)
	begun(t, s, forked, nil)
	s.Instances[0].Tokens[0].Stuck = true
	if !Go(s, 1, 3, nil) || stands(s, 1) != "live  4:3<2 5:4<3 next 6" || tasks(s) != "2:1.4" {
		t.Errorf("%s; %s", stands(s, 1), tasks(s))
	}
}

// Of who isn't Live nothing is settled; how it is stays.
func TestGoOfWhoIsNotLive(t *testing.T) {
	for _, how := range []int{0, api.Done, api.Failed} {
		s := made(t)
		begun(t, s, chosen, list(5))
		s.Instances[0].State, s.Instances[0].Code = how, "so"
		if !Go(s, 1, 3, list(1)) || s.Len() > 0 {
			t.Errorf("%d: %v", how, s)
		}
		if i, _ := s.Instance(1); !same(i, api.Instance{ID: 1, Process: chosen, State: how, Code: "so", Vars: list(1), Tokens: tokens("4:1<3"), Next: 5}) {
			t.Errorf("%d: %v", how, i)
		}
	}
}

// Others' tasks, and its own other ones, stay as they were, whoever has them.
func TestGoLeavesOtherTasks(t *testing.T) {
	s := made(t)
	begun(t, s, forked, nil)
	begun(t, s, forked, nil)
	for _, x := range s.All() {
		x.Worker, x.Epoch, x.Expiry, x.After, x.Priority = "amy", x.ID, 50, 3, 4
		s.Put(x)
	}
	s.Put(api.Task{ID: 90, Instance: 77, Token: 3, Node: 2}, api.Task{ID: 91, Instance: 2, Token: 4, Broken: true})
	want := slices.DeleteFunc(s.All(), func(x api.Task) bool { return x.ID == 1 })
	if !Go(s, 1, 3, nil) || !slices.Equal(s.All(), want) {
		t.Errorf("%v, not %v", s.All(), want)
	}
}

func TestGoKeepsNothingHandedIn(t *testing.T) {
	s := made(t)
	begun(t, s, forked, nil)
	part, all := room(list(1), api.Var{Name: "behind"}, api.Var{Name: "behind"})
	if !Go(s, 1, 3, part) || !slices.Equal(all, append(list(1), api.Var{Name: "behind"}, api.Var{Name: "behind"})) {
		t.Errorf("written over: %v", all)
	}
	spoil(all)
	if i, _ := s.Instance(1); !slices.Equal(i.Vars, list(1)) {
		t.Errorf("kept: %v", i.Vars)
	}
}

// P15.1: End

func TestEnd(t *testing.T) {
	for _, code := range []string{"oops", "", "no name, and much longer than a name may be\xff"} {
		s := made(t)
		begun(t, s, forked, list(1))
		begun(t, s, forked, list(2))
		begun(t, s, stuck, list(1))
		s.Put(api.Task{ID: 50, Instance: 2, Token: 99}, api.Task{ID: 51, Instance: 9, Token: 3})
		if !End(s, 2, code) || tasks(s) != "1:1.3 2:1.4 51:9.3" {
			t.Errorf("%s: %s", code, tasks(s))
		}
		want := api.Instance{ID: 2, Process: forked, State: api.Failed, Code: code, Vars: list(2), Next: 5}
		if i, _ := s.Instance(2); !same(i, want) {
			t.Errorf("%s: %v, not %v", code, i, want)
		}
		if stands(s, 1) != "live  3:2<1 4:3<2 next 5" || stands(s, 3) != "live  2:1<0! next 3" || s.NextInstance != 4 || s.NextTask != 5 {
			t.Errorf("%s: %s; %s; %v", code, stands(s, 1), stands(s, 3), s)
		}
		unchanged(t, "twice", s, func() bool { return End(s, 2, "other") })
		// One without tasks.
		if !End(s, 3, code) || stands(s, 3) != "failed "+code+" next 3" || tasks(s) != "1:1.3 2:1.4 51:9.3" {
			t.Errorf("%s: %s; %s", code, stands(s, 3), tasks(s))
		}
	}
}

func TestEndOfNone(t *testing.T) {
	s := made(t)
	begun(t, s, forked, nil)
	begun(t, s, short, nil)
	begun(t, s, fails, nil)
	s.Put(api.Task{ID: 50, Instance: 2, Token: 1}, api.Task{ID: 51, Instance: 9, Token: 1})
	for _, id := range []int{0, 4, -1, 9, 2, 3, 1 + 1<<32, math.MaxInt, math.MinInt} {
		unchanged(t, strconv.Itoa(id), s, func() bool { return End(s, id, "x") })
	}
	for _, how := range []int{0, api.Done, api.Failed, 4, -1} {
		s.Instances[0].State = how
		unchanged(t, "so: "+strconv.Itoa(how), s, func() bool { return End(s, 1, "x") })
	}
	none := state.New()
	unchanged(t, "of none", none, func() bool { return End(none, 1, "x") })
}

// Which process it is of is not asked.
func TestEndOfAnOddInstance(t *testing.T) {
	for _, process := range []int{-1, 9, math.MaxInt, math.MinInt} {
		s := made(t)
		s.SetInstance(api.Instance{ID: 4, Process: process, State: api.Live, Code: "old", Vars: []api.Var{{Name: "?"}}, Tokens: tokens("3:99<-5 3:1<1!"), Next: -2})
		s.Put(api.Task{ID: 1, Instance: 4, Token: 3})
		if !End(s, 4, "new") || s.Len() > 0 {
			t.Errorf("%d: %s", process, tasks(s))
		}
		if i, _ := s.Instance(4); !same(i, api.Instance{ID: 4, Process: process, State: api.Failed, Code: "new", Vars: []api.Var{{Name: "?"}}, Next: -2}) {
			t.Errorf("%d: %v", process, i)
		}
	}
}

// P15.1: Settle

// on is a State with one instance of that process whose tokens stand so, and no tasks.
func on(t *testing.T, process int, l string, v []api.Var) *state.State {
	t.Helper()
	s := made(t)
	s.SetInstance(api.Instance{ID: 6, Process: process, State: api.Live, Vars: v, Tokens: tokens(l), Next: 30})
	s.NextInstance, s.NextTask = 7, 11
	return s
}

func TestSettle(t *testing.T) {
	for k, c := range []struct {
		process      int
		l            string
		v            []api.Var
		stand, tasks string
	}{
		{forked, "", nil, "done  next 30", ""},
		{forked, "1:0<-1", nil, "live  31:2<1 32:3<2 next 33", "11:6.31 12:6.32"},
		{forked, "1:0<-1!", nil, "live  1:0<-1! next 30", ""},
		// In order of the tokens: those that wait come by as they are.
		{forked, "1:3<2 2:0<-1 3:2<1", nil, "live  1:3<2 3:2<1 31:2<1 32:3<2 next 33", "11:6.1 12:6.3 13:6.31 14:6.32"},
		{forked, "1:2<1 2:2<1 3:2<1", nil, "live  1:2<1 2:2<1 3:2<1 next 30", "11:6.1 12:6.2 13:6.3"},
		// Who is Stuck at a Work doesn't wait; nor does who stands at a join.
		{forked, "1:2<1! 2:3<2 4:4<3", nil, "live  1:2<1! 2:3<2 4:4<3 next 30", "11:6.2"},
		{forked, "1:4<3 2:4<4", nil, "done  next 31", ""},
		{forked, "1:-1<0 2:99<0", nil, "live  1:-1<0 2:99<0 next 30", ""},
		{chosen, "1:1<0", list(2), "live  30:2<1 next 31", "11:6.30"},
		{chosen, "1:1<0 2:2<1", nil, "live  1:1<0! 2:2<1 next 30", "11:6.2"},
		// A Failure takes all.
		{caught, "1:1<0 2:2<1 3:3<2!", nil, "failed bad next 30", ""},
		{caught, "1:1<0 2:2<1! 3:3<2!", nil, "live  1:1<0 2:2<1! 3:3<2! next 30", "11:6.1"},
		{spins, "1:3<2", nil, "live  429:3<5! next 430", ""},
	} {
		s := on(t, c.process, c.l, c.v)
		Settle(s, 6)
		if stands(s, 6) != c.stand || tasks(s) != c.tasks || s.NextTask != 11+s.Len() || s.NextInstance != 7 {
			t.Errorf("%d: %s; %s; next %d", k, stands(s, 6), tasks(s), s.NextTask)
		}
		if i, _ := s.Instance(6); i.Process != c.process || !slices.Equal(i.Vars, c.v) {
			t.Errorf("%d: %v", k, i)
		}
		for _, x := range s.All() {
			n := s.Processes[c.process].Nodes[x.Node]
			if x != (api.Task{ID: x.ID, Instance: 6, Token: x.Token, Node: x.Node, Topic: n.Topic, Priority: n.Priority, Retries: n.Retries}) || n.Kind != api.Work {
				t.Errorf("%d: %v", k, x)
			}
		}
		was := s.Copy()
		Settle(s, 6)
		if !state.Same(s, was) {
			t.Errorf("%d: again: %s; %s", k, stands(s, 6), tasks(s))
		}
	}
}

// As many moves as may be are enough where they are; where one more is needed, the last one is Stuck.
func TestSettleGoesSoFar(t *testing.T) {
	const each = api.MaxMoves / api.MaxTokens // the moves from node 1 on, that to be gone from the End, too
	nodes, ends := []api.Node{plain(api.Start)}, "0>1"
	for k := range each - 1 {
		nodes = append(nodes, plain(api.Exclusive))
		ends += " " + strconv.Itoa(k+1) + ">" + strconv.Itoa(k+2)
	}
	far := of(t, "far", ends, append(nodes, plain(api.End))...)
	for _, c := range []struct{ first, want string }{{"1:1<0", "done  next 460"}, {"1:0<-1", "live  460:10<9! next 461"}} {
		s := made(t)
		s.Processes = append(s.Processes, far)
		i := api.Instance{ID: 6, Process: 9, State: api.Live, Tokens: tokens(c.first), Next: 100}
		for k := range api.MaxTokens - 1 {
			i.Tokens = append(i.Tokens, api.Token{ID: k + 2, Node: 1})
		}
		s.SetInstance(i)
		Settle(s, 6)
		if stands(s, 6) != c.want {
			t.Errorf("%s: %s", c.first, stands(s, 6))
		}
	}
}

// The tasks of tokens that wait yet stay as they are, whoever has them; others of it go; others' stay.
func TestSettleOfTasks(t *testing.T) {
	s := on(t, forked, "1:3<2 2:2<1! 3:2<1 4:4<3 5:2<1", nil)
	stay := []api.Task{
		{ID: 2, Instance: 6, Token: 3, Node: 2, Topic: "a", Worker: "amy", Epoch: 3, Expiry: 40},
		{ID: 4, Instance: 7, Token: 1, Node: 2},
		{ID: 5, Instance: 0, Token: 99},
		{ID: 7, Instance: 6, Token: 3, Node: 77, Topic: "another of the same", Broken: true},
		{ID: 9, Instance: -6, Token: 5, Node: 2},
	}
	s.Put(stay...)
	s.Put(
		api.Task{ID: 1, Instance: 6, Token: 2, Node: 2}, api.Task{ID: 3, Instance: 6, Token: 4, Node: 4}, api.Task{ID: 6, Instance: 6, Token: 99, Node: 2},
		api.Task{ID: 8, Instance: 6, Token: 0, Node: 2}, api.Task{ID: 10, Instance: 6, Token: -1, Node: 2, Worker: "amy", Epoch: 1, Expiry: 99},
	)
	want := append(slices.Clone(stay), api.Task{ID: 11, Instance: 6, Token: 1, Node: 3, Topic: "b", Priority: 9, Retries: 1}, api.Task{ID: 12, Instance: 6, Token: 5, Node: 2, Topic: "a", Priority: 1, Retries: 2})
	for range 2 {
		Settle(s, 6)
		if !slices.Equal(s.All(), want) || s.NextTask != 13 {
			t.Errorf("%v, not %v, next %d", s.All(), want, s.NextTask)
		}
	}
	// One that is dropped comes anew, with another ID.
	s.Drop(2, 7, 11)
	Settle(s, 6)
	if tasks(s) != "4:7.1 5:0.99 9:-6.5 12:6.5 13:6.1 14:6.3" || s.NextTask != 15 {
		t.Errorf("%s, next %d", tasks(s), s.NextTask)
	}
}

func TestSettleOfNone(t *testing.T) {
	for k, change := range []func(i *api.Instance){
		func(i *api.Instance) { i.ID = 7 },
		func(i *api.Instance) { i.State = api.Done },
		func(i *api.Instance) { i.State = api.Failed },
		func(i *api.Instance) { i.State = 0 },
		func(i *api.Instance) { i.State = 4 },
		func(i *api.Instance) { i.State = -1 },
		func(i *api.Instance) { i.Process = -1 },
		func(i *api.Instance) { i.Process = 9 },
		func(i *api.Instance) { i.Process = math.MaxInt },
		func(i *api.Instance) { i.Process = math.MinInt },
	} {
		for _, l := range []string{"1:0<-1 2:2<1 3:3<2", ""} {
			s := on(t, forked, l, nil)
			s.Put(api.Task{ID: 1, Instance: 6, Token: 2, Node: 2}, api.Task{ID: 2, Instance: 6, Token: 99})
			change(&s.Instances[0])
			unchanged(t, strconv.Itoa(k), s, func() bool { Settle(s, 6); return false })
		}
	}
	s := on(t, forked, "1:0<-1", nil)
	for _, id := range []int{0, 1, 5, 7, -6, 6 + 1<<32, math.MaxInt, math.MinInt} {
		unchanged(t, strconv.Itoa(id), s, func() bool { Settle(s, id); return false })
	}
}

// What the Runner leaves is the instance: a Code that it had while Live is gone.
func TestSettleOfAnOddInstance(t *testing.T) {
	s := on(t, forked, "3:2<1 3:3<2 2:2<1", nil)
	s.Instances[0].Code, s.Instances[0].Vars = "old", []api.Var{{Name: "?"}}
	Settle(s, 6)
	want := api.Instance{ID: 6, Process: forked, State: api.Live, Vars: []api.Var{{Name: "?"}}, Tokens: tokens("3:2<1 3:3<2 2:2<1"), Next: 30}
	if i, _ := s.Instance(6); !same(i, want) {
		t.Errorf("%v", i)
	}
	// Of one ID twice, the second one has a task by then; in order of the tokens, not of their IDs.
	if tasks(s) != "11:6.3 12:6.2" || s.NextTask != 13 {
		t.Errorf("%s, next %d", tasks(s), s.NextTask)
	}
}

// Two States go their own ways.
func TestStatesApart(t *testing.T) {
	one := made(t)
	begun(t, one, forked, list(1))
	other := one.Copy()
	if !Go(one, 1, 3, list(2)) || !End(one, 1, "x") {
		t.Error("no")
	}
	begun(t, one, caught, nil)
	i, _ := other.Instance(1)
	if stands(other, 1) != "live  3:2<1 4:3<2 next 5" || !slices.Equal(i.Vars, list(1)) || tasks(other) != "1:1.3 2:1.4" || other.NextInstance != 2 || other.NextTask != 3 {
		t.Errorf("%s; %s; %v", stands(other, 1), tasks(other), other)
	}
}
