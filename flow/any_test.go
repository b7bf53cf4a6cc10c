package flow

import (
	"math"
	"slices"
	"strconv"
	"testing"

	"leasehold/api"
	"leasehold/process"
	"leasehold/token"
)

// chance is a source of numbers in no plain order, the same each time.
type chance uint32

func (x *chance) below(n int) int {
	*x ^= *x << 13
	*x ^= *x >> 17
	*x ^= *x << 5
	return int(uint32(*x) >> 8 % uint32(n))
}

// sketch is some process, and whether process.Check takes it.
func sketch(x *chance) (api.Process, bool) {
	n := 2 + x.below(6)
	p := api.Process{Name: "any", Nodes: make([]api.Node, n), Flows: []api.Flow{{From: 0, To: 1 + x.below(n-1)}}}
	for range x.below(2 * n) {
		p.Flows = append(p.Flows, api.Flow{From: 1 + x.below(n-1), To: 1 + x.below(n-1)})
	}
	p.Nodes[0] = plain(api.Start)
	for k := 1; k < n; k++ {
		outs := process.Outs(p, k)
		if len(outs) == 0 {
			p.Nodes[k] = []api.Node{plain(api.End), plain(api.End), failing("bad" + strconv.Itoa(k))}[x.below(3)]
			continue
		}
		p.Nodes[k] = []api.Node{working(), plain(api.Parallel), plain(api.Exclusive), plain(api.Inclusive)}[x.below(4)]
		if p.Nodes[k].Kind == api.Work && len(outs) == 2 {
			p.Nodes[k] = catching(outs[x.below(2)])
		}
		if p.Nodes[k].Kind == api.Exclusive || p.Nodes[k].Kind == api.Inclusive {
			for _, f := range outs {
				p.Flows[f].Cond = []string{"", "true", "n > 1", "n < 1", "false", "miss"}[x.below(6)]
			}
			if x.below(2) == 0 {
				p.Nodes[k].Default = outs[x.below(len(outs))]
			}
		}
	}
	return p, process.Check(p) == nil
}

// scatter is an instance of p with some tokens, now and then as many as may be, or a few more.
func scatter(x *chance, p api.Process) api.Instance {
	i := api.Instance{ID: 2, State: api.Live, Vars: some(), Next: 1}
	n := x.below(9)
	if x.below(10) == 0 {
		n = api.MaxTokens - 4 + x.below(8)
	}
	for range n {
		i.Next += x.below(3)
		node, in := x.below(len(p.Nodes)), -1
		if ins := process.Ins(p, node); len(ins) > 0 && x.below(20) > 0 {
			in = ins[x.below(len(ins))]
		}
		i.Tokens = append(i.Tokens, api.Token{ID: i.Next, Node: node, In: in, Stuck: x.below(6) == 0})
		i.Next++
	}
	return i
}

// course is what a Runner has to be, as the chapter's words go.
type course struct {
	b      token.Board
	moves  int
	failed string
}

// start is a course of its own memory.
func start(i api.Instance, p api.Process) *course {
	return &course{b: token.Board{P: p, Vars: i.Vars, Tokens: slices.Clone(i.Tokens), Next: i.Next}}
}

// next is the place of the first that is Ready.
func (c *course) next() int {
	for at := range c.b.Tokens {
		if token.Ready(c.b, at) {
			return at
		}
	}
	return -1
}

// run is Run in the chapter's words, one token after the other.
func (c *course) run(most int) bool {
	for n := 0; n < most && n < 400 && c.next() >= 0; n++ {
		var m token.Move
		c.b, m, _ = token.Step(c.b, c.next())
		c.moves++
		if m.Failed != "" {
			c.failed = m.Failed
		}
	}
	is := c.next() < 0
	for at := c.next(); at >= 0; at = c.next() {
		c.b.Tokens[at].Stuck = true
	}
	return is
}

// take is Go in the chapter's words.
func (c *course) take(id, flow int) bool {
	for at, t := range c.b.Tokens {
		if t.ID != id {
			continue
		}
		if t.Node < 0 || t.Node >= len(c.b.P.Nodes) || c.b.P.Nodes[t.Node].Kind != api.Work || flow < 0 || flow >= len(c.b.P.Flows) || c.b.P.Flows[flow].From != t.Node {
			return false
		}
		c.b.Tokens = append(slices.Delete(slices.Clone(c.b.Tokens), at, at+1), api.Token{ID: c.b.Next, Node: c.b.P.Flows[flow].To, In: flow})
		c.b.Next++
		return true
	}
	return false
}

// instance is Instance in the chapter's words.
func (c *course) instance(i api.Instance) api.Instance {
	state := api.Live
	if len(c.b.Tokens) == 0 && c.failed == "" {
		state = api.Done
	}
	if c.failed != "" {
		state = api.Failed
	}
	return api.Instance{ID: i.ID, Process: i.Process, State: state, Code: c.failed, Vars: c.b.Vars, Tokens: c.b.Tokens, Next: c.b.Next}
}

// check holds r against c.
func check(t *testing.T, r *Runner, c *course) {
	t.Helper()
	var waits, stuck []api.Token
	for _, x := range c.b.Tokens {
		switch {
		case x.Stuck:
			stuck = append(stuck, x)
		case x.Node >= 0 && x.Node < len(c.b.P.Nodes) && c.b.P.Nodes[x.Node].Kind == api.Work:
			waits = append(waits, x)
		}
	}
	if s := amiss(r, say(c.b.Tokens), c.b.Next, c.moves, c.failed); s != "" || !samePlan(r.Board, c.b.P, c.b.Vars) {
		t.Fatalf("%v: %s", c.b.P, s)
	}
	if !slices.Equal(r.Waits(), waits) || !slices.Equal(r.Stuck(), stuck) || r.Done() != (len(c.b.Tokens) == 0) {
		t.Fatalf("%v: %s: waits %s, stuck %s, done %t", c.b.P, say(r.Tokens), say(r.Waits()), say(r.Stuck()), r.Done())
	}
	i := api.Instance{ID: 5, Process: 6, State: 7, Code: "old", Tokens: tokens("1:1<1"), Next: 8}
	if got, want := r.Instance(i), c.instance(i); !sameInstance(got, want) {
		t.Fatalf("%v: %v, not %v", c.b.P, got, want)
	}
}

// went counts what the Runners came to, so that a test can tell whether it tried enough of each.
type went struct{ through, cut, along, not, failed, done, stuck int }

// enough tells whether each was met at least so many times.
func (w *went) enough(n int) bool {
	return min(w.through, w.cut, w.along, w.not, w.failed, w.done, w.stuck) >= n
}

// tryRunner lets r and c go on side by side for a while.
func tryRunner(t *testing.T, x *chance, r *Runner, c *course, w *went) {
	t.Helper()
	check(t, r, c)
	for range 8 {
		if x.below(3) > 0 {
			most := []int{-1, 0, 1, 2, 3, 7, api.MaxMoves, math.MaxInt}[x.below(8)]
			is := c.run(most)
			if r.Run(most) != is {
				t.Fatalf("%v: run of %d: %t", c.b.P, most, !is)
			}
			w.through, w.cut = w.through+one(is), w.cut+one(!is)
		} else {
			id, way := x.below(c.b.Next+2)-1, x.below(len(c.b.P.Flows)+2)-1
			if l := r.Waits(); len(l) > 0 && x.below(2) == 0 {
				id = l[x.below(len(l))].ID
			}
			is := c.take(id, way)
			if r.Go(id, way) != is {
				t.Fatalf("%v: %d along %d: %t", c.b.P, id, way, !is)
			}
			w.along, w.not = w.along+one(is), w.not+one(!is)
		}
		check(t, r, c)
	}
	w.failed, w.done, w.stuck = w.failed+one(r.Failed != ""), w.done+one(r.Done()), w.stuck+one(len(r.Stuck()) > 0)
}

// one is 1 where it is so.
func one(is bool) int {
	if is {
		return 1
	}
	return 0
}

func TestAnyRunner(t *testing.T) {
	x := chance(2463534242)
	var w went
	for k := range 24000 {
		p, is := sketch(&x)
		if !is {
			continue
		}
		if k%2 == 0 {
			c := start(api.Instance{Vars: some(), Tokens: tokens("1:0<-1"), Next: 2}, p)
			tryRunner(t, &x, New(p, some()), c, &w)
			continue
		}
		i := scatter(&x, p)
		tryRunner(t, &x, Runs(i, p), start(i, p), &w)
	}
	if !w.enough(300) {
		t.Errorf("too few of some kind: %v", w)
	}
}

// wild is a number of any kind.
func wild(x *chance) int {
	if x.below(6) > 0 {
		return x.below(6) - 1
	}
	return []int{math.MinInt, math.MaxInt, -7, 99, 7}[x.below(5)]
}

// Of processes that process.Check doesn't take nothing is asked but that each call ends, and leaves what is handed in.
func TestWildRunners(t *testing.T) {
	x := chance(521288629)
	texts := []string{"", "true", "false", "miss", "n", "n / 0 == n", "(", "1 2", "\xff", "bad"}
	for range 30000 {
		var p api.Process
		i := api.Instance{ID: wild(&x), Process: wild(&x), State: wild(&x), Code: texts[x.below(len(texts))], Next: wild(&x)}
		for range x.below(6) {
			p.Nodes = append(p.Nodes, api.Node{Kind: wild(&x) + 2, Default: wild(&x), To: wild(&x), Code: texts[x.below(len(texts))]})
		}
		for range x.below(9) {
			p.Flows = append(p.Flows, api.Flow{From: wild(&x), To: wild(&x), Cond: texts[x.below(len(texts))]})
		}
		for range x.below(9) {
			i.Tokens = append(i.Tokens, api.Token{ID: wild(&x), Node: wild(&x), In: wild(&x), Stuck: x.below(5) == 0})
		}
		nodes, flows, stand := slices.Clone(p.Nodes), slices.Clone(p.Flows), slices.Clone(i.Tokens)
		r := Runs(i, p)
		if x.below(3) == 0 {
			r = New(p, i.Vars)
		}
		for range 4 {
			r.Go(wild(&x), wild(&x))
			r.Run(wild(&x))
			if !r.Run(9) {
				t.Fatalf("%v: %s: one is Ready yet", p, say(r.Tokens))
			}
		}
		r.Instance(i)
		if len(r.Waits())+len(r.Stuck()) > len(r.Tokens) || !slices.Equal(p.Nodes, nodes) || !slices.Equal(p.Flows, flows) || !slices.Equal(i.Tokens, stand) {
			t.Fatalf("%v: %v, or written over", p, r)
		}
	}
}
