package work

import (
	"cmp"
	"math"
	"slices"
	"strconv"
	"testing"

	"leasehold/api"
	"leasehold/flow"
	"leasehold/process"
	"leasehold/state"
	"leasehold/vars"
)

// chance is a source of numbers in no plain order, the same each time.
type chance uint32

func (x *chance) below(n int) int {
	*x ^= *x << 13
	*x ^= *x >> 17
	*x ^= *x << 5
	return int(uint32(*x) >> 8 % uint32(n))
}

// one is one of l.
func one[T any](x *chance, l ...T) T { return l[x.below(len(l))] }

// sketch is some process, and whether process.Check takes it.
func sketch(x *chance) (api.Process, bool) {
	n := 3 + x.below(6)
	p := api.Process{Name: "any", Nodes: make([]api.Node, n), Flows: []api.Flow{{From: 0, To: 1 + x.below(n-1)}}}
	for range x.below(2*n) + n/2 {
		p.Flows = append(p.Flows, api.Flow{From: 1 + x.below(n-1), To: 1 + x.below(n-1)})
	}
	p.Nodes[0] = plain(api.Start)
	for k := 1; k < n; k++ {
		outs := process.Outs(p, k)
		if len(outs) == 0 {
			p.Nodes[k] = one(x, plain(api.End), plain(api.End), failing("bad"+strconv.Itoa(k)))
			continue
		}
		p.Nodes[k] = one(x, job("t"+strconv.Itoa(k), x.below(10), 1+x.below(9)), plain(api.Parallel), plain(api.Exclusive), plain(api.Inclusive))
		if len(outs) < 3 && x.below(2) == 0 {
			p.Nodes[k] = job("t"+strconv.Itoa(k), x.below(10), 1+x.below(9))
		}
		switch {
		case p.Nodes[k].Kind == api.Work && len(outs) == 2:
			p.Nodes[k].Catch, p.Nodes[k].To = "oops", outs[x.below(2)]
		case p.Nodes[k].Kind == api.Exclusive || p.Nodes[k].Kind == api.Inclusive:
			for _, f := range outs {
				p.Flows[f].Cond = one(x, "", "true", "n > 1", "n < 1", "false", "miss")
			}
			if x.below(2) == 0 {
				p.Nodes[k].Default = one(x, outs...)
			}
		}
	}
	return p, process.Check(p) == nil
}

// sketches is that many that process.Check takes.
func sketches(x *chance, n int) []api.Process {
	var l []api.Process
	for len(l) < n {
		if p, is := sketch(x); is {
			l = append(l, p)
		}
	}
	return l
}

// words is a State as the chapter tells of it, by trying all there is.
type words struct {
	processes    []api.Process
	instances    []api.Instance
	tasks        []api.Task // by ID
	nextInstance int
	nextTask     int
}

// instance is the place of the one of that ID; -1: none.
func (w *words) instance(id int) int {
	return slices.IndexFunc(w.instances, func(i api.Instance) bool { return i.ID == id })
}

// put is what Put of a queue does.
func (w *words) put(x api.Task) {
	w.drop(func(y api.Task) bool { return y.ID == x.ID })
	w.tasks = append(w.tasks, x)
	slices.SortFunc(w.tasks, func(a, b api.Task) int { return cmp.Compare(a.ID, b.ID) })
}

// drop takes out those that are meant.
func (w *words) drop(meant func(x api.Task) bool) {
	w.tasks = slices.DeleteFunc(w.tasks, meant)
}

// begin is Begin in the chapter's words.
func (w *words) begin(process int, l []api.Var) (int, bool) {
	if process < 0 || process >= len(w.processes) {
		return 0, false
	}
	i := api.Instance{ID: w.nextInstance, Process: process, State: api.Live, Vars: slices.Clone(l), Tokens: []api.Token{{ID: 1, In: -1}}, Next: 2}
	w.nextInstance++
	w.instances = append(w.instances, i) // no greater ID is there
	w.settle(i.ID)
	return i.ID, true
}

// take is Go in the chapter's words.
func (w *words) take(task, way int, more []api.Var) bool {
	at := slices.IndexFunc(w.tasks, func(x api.Task) bool { return x.ID == task })
	if at < 0 {
		return false
	}
	x := w.tasks[at]
	k := w.instance(x.Instance)
	if k < 0 {
		return false
	}
	i := w.instances[k]
	if i.Process < 0 || i.Process >= len(w.processes) {
		return false
	}
	p := w.processes[i.Process]
	if way < 0 || way >= len(p.Flows) || p.Flows[way].From != x.Node {
		return false
	}
	l, err := vars.Set(i.Vars, more...)
	token := slices.IndexFunc(i.Tokens, func(y api.Token) bool { return y.ID == x.Token && y.Node == x.Node })
	if err != nil || token < 0 || p.Nodes[x.Node].Kind != api.Work {
		return false
	}
	i.Vars = l
	i.Tokens = append(slices.Delete(slices.Clone(i.Tokens), token, token+1), api.Token{ID: i.Next, Node: p.Flows[way].To, In: way})
	i.Next++
	w.instances[k] = i
	w.drop(func(y api.Task) bool { return y.ID == task })
	w.settle(i.ID)
	return true
}

// end is End in the chapter's words.
func (w *words) end(instance int, code string) bool {
	k := w.instance(instance)
	if k < 0 || w.instances[k].State != api.Live {
		return false
	}
	w.instances[k].State, w.instances[k].Code, w.instances[k].Tokens = api.Failed, code, nil
	w.drop(func(x api.Task) bool { return x.Instance == instance })
	return true
}

// settle is Settle in the chapter's words.
func (w *words) settle(instance int) {
	k := w.instance(instance)
	if k < 0 || w.instances[k].State != api.Live {
		return
	}
	i := w.instances[k]
	if i.Process < 0 || i.Process >= len(w.processes) {
		return
	}
	p := w.processes[i.Process]
	r := flow.Runs(i, p)
	for is := false; !is; is = r.Run(400) {
	}
	i = r.Instance(i)
	if i.State != api.Live {
		i.Tokens = nil
	}
	w.instances[k] = i
	waits := func(x api.Task) bool {
		return slices.ContainsFunc(i.Tokens, func(y api.Token) bool { return y.ID == x.Token && !y.Stuck && w.atWork(p, y) })
	}
	w.drop(func(x api.Task) bool { return x.Instance == instance && !waits(x) })
	for _, y := range i.Tokens {
		has := slices.ContainsFunc(w.tasks, func(x api.Task) bool { return x.Instance == instance && x.Token == y.ID })
		if !y.Stuck && w.atWork(p, y) && !has {
			n := p.Nodes[y.Node]
			w.put(api.Task{ID: w.nextTask, Instance: instance, Token: y.ID, Node: y.Node, Topic: n.Topic, Priority: n.Priority, Retries: n.Retries})
			w.nextTask++
		}
	}
}

// atWork tells whether y stands at a Work.
func (w *words) atWork(p api.Process, y api.Token) bool {
	return y.Node >= 0 && y.Node < len(p.Nodes) && p.Nodes[y.Node].Kind == api.Work
}

// check holds s against w.
func check(t *testing.T, what string, s *state.State, w *words) {
	t.Helper()
	if !slices.EqualFunc(s.Instances, w.instances, same) {
		t.Fatalf("%s: %v: %v, not %v", what, w.processes, s.Instances, w.instances)
	}
	if !slices.Equal(s.All(), w.tasks) || s.NextInstance != w.nextInstance || s.NextTask != w.nextTask {
		t.Fatalf("%s: %v: %v, next %d, %d, not %v, next %d, %d", what, w.processes, s.All(), s.NextInstance, s.NextTask, w.tasks, w.nextInstance, w.nextTask)
	}
	if !slices.EqualFunc(s.Processes, w.processes, sameProcess) || len(s.Book.All()) > 0 {
		t.Fatalf("%s: %v, not %v", what, s.Processes, w.processes)
	}
}

func sameProcess(a, b api.Process) bool {
	return a.Name == b.Name && slices.Equal(a.Nodes, b.Nodes) && slices.Equal(a.Flows, b.Flows)
}

// whole holds that of each instance that is Live just the tokens that wait have a task, each one, and of others none has.
func whole(t *testing.T, s *state.State) {
	t.Helper()
	n := 0
	for _, i := range s.Instances {
		l := s.Of(i.ID)
		n += len(l)
		if i.State != api.Live {
			if len(i.Tokens)+len(l) > 0 {
				t.Fatalf("not Live: %v, %v", i, l)
			}
			continue
		}
		waits := flow.Runs(i, s.Processes[i.Process]).Waits()
		if len(waits) != len(l) || len(i.Tokens) == 0 {
			t.Fatalf("%v: %v", i, l)
		}
		for _, y := range waits {
			if !slices.ContainsFunc(l, func(x api.Task) bool { return x.Token == y.ID && x.Node == y.Node }) {
				t.Fatalf("%v: %v", i, l)
			}
		}
	}
	if n != s.Len() {
		t.Fatalf("%v: of no instance", s.All())
	}
}

// someVars is often none, at times such as may not be.
func someVars(x *chance) []api.Var {
	return one(x, nil, nil, list(int64(x.below(4))), list(int64(x.below(4))), []api.Var{{Name: "miss", Value: vars.Flag(x.below(2) == 0)}}, []api.Var{{Name: "?"}})
}

// some things that were done, and how often, so that a test can tell whether it tried enough of each.
type took map[string]int

func (k took) count(what string, is bool) {
	if !is {
		what = "not " + what
	}
	k[what]++
}

// enough holds that each of these came so many times.
func (k took) enough(t *testing.T, least int, l ...string) {
	t.Helper()
	for _, what := range l {
		if k[what] < least {
			t.Errorf("%s: only %d times", what, k[what])
		}
	}
}

// deed does one of the four calls to both, and holds the answers against each other.
func deed(t *testing.T, x *chance, s *state.State, w *words, k took) string {
	t.Helper()
	id := x.below(w.nextInstance+2) - 1
	switch x.below(8) {
	case 0, 1:
		place, l := x.below(len(w.processes)+2)-1, someVars(x)
		want, is := w.begin(place, l)
		if got, yes := Begin(s, place, l); got != want || yes != is {
			t.Fatalf("begin %d: %d, %t, not %d, %t", place, got, yes, want, is)
		}
		k.count("begin", is)
		return "begin"
	case 2:
		code := one(x, "oops", "", "?")
		is := w.end(id, code)
		if End(s, id, code) != is {
			t.Fatalf("end %d: %t", id, !is)
		}
		k.count("end", is)
		return "end"
	case 3:
		Settle(s, id)
		w.settle(id)
		k.count("settle", true)
		return "settle"
	}
	task, way, more := x.below(w.nextTask+2)-1, x.below(12)-1, someVars(x)
	if l := s.All(); len(l) > 0 && x.below(8) > 0 {
		y := one(x, l...)
		task = y.ID
		if k := w.instance(y.Instance); k >= 0 && x.below(8) > 0 && w.instances[k].Process >= 0 && w.instances[k].Process < len(w.processes) {
			outs := process.Outs(w.processes[w.instances[k].Process], y.Node)
			if len(outs) > 0 {
				way = one(x, outs...)
			}
		}
	}
	is := w.take(task, way, more)
	if Go(s, task, way, more) != is {
		t.Fatalf("%v: go %d along %d: %t", w, task, way, !is)
	}
	k.count("go", is)
	return "go"
}

// lease changes all of a task that others may change.
func lease(x *chance, s *state.State, w *words) {
	if s.Len() == 0 {
		return
	}
	y := one(x, s.All()...)
	y.Worker, y.Epoch, y.Expiry, y.After, y.Retries, y.Broken = one(x, "amy", ""), x.below(60), int64(x.below(9)), int64(x.below(9)), x.below(9), x.below(2) == 0
	s.Put(y)
	w.put(y)
}

// start is a State and its words, of some processes.
func start(x *chance) (*state.State, *words) {
	s, l := state.New(), sketches(x, 1+x.below(4))
	s.Processes = slices.Clone(l)
	return s, &words{processes: l, nextInstance: 1, nextTask: 1}
}

// All calls, one behind the other, as an engine does them.
func TestAnyDeeds(t *testing.T) {
	x, k := chance(2463534242), took{}
	for range 1500 {
		s, w := start(&x)
		for range 25 {
			lease(&x, s, w)
			what := deed(t, &x, s, w, k)
			check(t, what, s, w)
			whole(t, s)
		}
		for _, i := range s.Instances {
			k[[]string{"", "live", "done", "failed"}[i.State]]++
			k.count("stuck", slices.ContainsFunc(i.Tokens, func(y api.Token) bool { return y.Stuck }))
		}
	}
	k.enough(t, 500, "begin", "not begin", "go", "not go", "end", "not end", "settle", "live", "done", "failed", "stuck", "not stuck")
}

// odd does something to both that no engine does.
func odd(x *chance, s *state.State, w *words) {
	y := api.Task{ID: 1 + x.below(w.nextTask+3), Instance: x.below(w.nextInstance + 1), Token: x.below(6), Node: x.below(8), Topic: "odd"}
	switch at := x.below(len(w.instances) + 1); {
	case x.below(4) == 0:
		s.Put(y)
		w.put(y)
	case x.below(3) == 0:
		s.Drop(y.ID)
		w.drop(func(z api.Task) bool { return z.ID == y.ID })
	case x.below(6) == 0:
		s.NextTask, w.nextTask = s.NextTask+3, w.nextTask+3
	case at < len(w.instances):
		i := w.instances[at]
		i.Tokens = slices.Clone(i.Tokens)
		for k := range i.Tokens {
			i.Tokens[k].Stuck = x.below(3) == 0
			i.Tokens[k].Node = one(x, i.Tokens[k].Node, i.Tokens[k].Node, i.Tokens[k].Node, x.below(9)-1)
		}
		i.Code = one(x, "", "odd")
		i.Process = one(x, i.Process, i.Process, i.Process, x.below(len(w.processes)+2)-1)
		i.State = one(x, i.State, i.State, api.Live, api.Live, x.below(5))
		s.SetInstance(i)
		w.instances[at] = i
	}
}

// Of States that no engine makes the chapter's words hold, too.
func TestOddStates(t *testing.T) {
	x, k := chance(88675123), took{}
	for range 2500 {
		s, w := start(&x)
		for range 25 {
			if x.below(3) == 0 {
				odd(&x, s, w)
			}
			what := deed(t, &x, s, w, k)
			check(t, what, s, w)
		}
	}
	k.enough(t, 500, "begin", "not begin", "go", "not go", "end", "not end", "settle")
}

// wild is a number of any kind.
func wild(x *chance) int {
	if x.below(6) > 0 {
		return x.below(6) - 1
	}
	return one(x, math.MinInt, math.MaxInt, -7, 99, 7)
}

// wildState is one that has just anything in it.
func wildState(x *chance) *state.State {
	texts := []string{"", "true", "false", "miss", "n", "(", "\xff", "bad"}
	s := state.New()
	for range x.below(3) {
		p := api.Process{Name: one(x, texts...)}
		for range x.below(6) {
			p.Nodes = append(p.Nodes, api.Node{Kind: one(x, api.Work, wild(x)+2), Topic: one(x, texts...), Priority: wild(x), Retries: wild(x), Default: wild(x), To: wild(x), Code: one(x, texts...)})
		}
		for range x.below(9) {
			p.Flows = append(p.Flows, api.Flow{From: wild(x), To: wild(x), Cond: one(x, texts...)})
		}
		s.Processes = append(s.Processes, p)
	}
	for range x.below(5) {
		i := api.Instance{ID: wild(x), Process: x.below(3) - x.below(2), State: 1 + x.below(2)*wild(x), Code: one(x, texts...), Next: wild(x)}
		for range x.below(6) {
			i.Tokens = append(i.Tokens, api.Token{ID: wild(x), Node: wild(x), In: wild(x), Stuck: x.below(5) == 0})
		}
		s.Instances = append(s.Instances, i)
	}
	for range x.below(5) {
		s.Put(api.Task{ID: wild(x), Instance: wild(x), Token: wild(x), Node: wild(x)})
	}
	for _, i := range s.Instances {
		for _, y := range i.Tokens {
			s.Put(api.Task{ID: wild(x), Instance: i.ID, Token: y.ID, Node: y.Node})
		}
	}
	s.NextInstance, s.NextTask = wild(x), wild(x)
	return s
}

// aim is a task and a flow that are wild, or such that a flow of some process leads from the task's node.
func aim(x *chance, s *state.State) (task, way int) {
	if s.Len() == 0 || len(s.Processes) == 0 || x.below(4) == 0 {
		return wild(x), wild(x)
	}
	y, p := one(x, s.All()...), one(x, s.Processes...)
	if outs := process.Outs(p, y.Node); len(outs) > 0 {
		return y.ID, one(x, outs...)
	}
	return y.ID, wild(x)
}

// Of just any State nothing is asked but that each call ends, and that what says no leaves all as it was.
func TestWildStates(t *testing.T) {
	x, k := chance(521288629), took{}
	for range 20000 {
		s := wildState(&x)
		for range 4 {
			was, is := s.Copy(), true
			switch x.below(4) {
			case 0:
				_, is = Begin(s, wild(&x), someVars(&x))
				k.count("begin", is)
			case 1:
				task, way := aim(&x, s)
				is = Go(s, task, way, someVars(&x))
				k.count("go", is)
			case 2:
				is = End(s, wild(&x), "x")
				k.count("end", is)
			case 3:
				Settle(s, wild(&x))
			}
			if !is && !state.Same(s, was) {
				t.Fatalf("%v, not %v", s, was)
			}
		}
	}
	k.enough(t, 100, "begin", "not begin", "go", "not go", "end", "not end")
}
