package token

import (
	"errors"
	"math"
	"slices"
	"strconv"
	"testing"

	"leasehold/api"
	"leasehold/process"
)

// chance is a source of numbers in no plain order, the same each time.
type chance uint32

func (x *chance) below(n int) int {
	*x ^= *x << 13
	*x ^= *x >> 17
	*x ^= *x << 5
	return int(uint32(*x) >> 8 % uint32(n))
}

// conds is conditions, and tells what each comes to where n is 2.
func conds() (texts []string, holds []bool, errs []error) {
	for _, c := range []struct {
		text string
		is   bool
		err  error
	}{
		{"", true, nil}, {"true", true, nil}, {"false", false, nil}, {"n > 1", true, nil}, {"n < 1", false, nil},
		{"miss", false, api.ErrNone}, {"n", false, api.ErrType}, {"n / 0 == n", false, api.ErrZero},
	} {
		texts, holds, errs = append(texts, c.text), append(holds, c.is), append(errs, c.err)
	}
	return texts, holds, errs
}

// sketch is some process, and whether process.Check takes it.
func sketch(x *chance) (api.Process, bool) {
	n := 2 + x.below(6)
	p := api.Process{Name: "any", Nodes: make([]api.Node, n), Flows: []api.Flow{{From: 0, To: 1 + x.below(n-1)}}}
	for range x.below(2 * n) {
		p.Flows = append(p.Flows, api.Flow{From: 1 + x.below(n-1), To: 1 + x.below(n-1)})
	}
	p.Nodes[0] = plain(api.Start)
	texts, _, _ := conds()
	for k := 1; k < n; k++ {
		outs := process.Outs(p, k)
		if len(outs) == 0 {
			p.Nodes[k] = []api.Node{plain(api.End), plain(api.End), failing("bad" + strconv.Itoa(k))}[x.below(3)]
			continue
		}
		p.Nodes[k] = []api.Node{working(), plain(api.Parallel), plain(api.Exclusive), plain(api.Inclusive)}[x.below(4)]
		if p.Nodes[k].Kind == api.Exclusive || p.Nodes[k].Kind == api.Inclusive {
			for _, f := range outs {
				p.Flows[f].Cond = texts[x.below(len(texts))]
			}
			if x.below(2) == 0 {
				p.Nodes[k].Default = outs[x.below(len(outs))]
			}
		}
	}
	return p, process.Check(p) == nil
}

// scatter is a board of p with some tokens, now and then as many as may be, or a few more.
func scatter(x *chance, p api.Process) Board {
	b := board(p, "1")
	n := x.below(9)
	if x.below(8) == 0 {
		n = api.MaxTokens - 4 + x.below(8)
	}
	for range n {
		b.Next += x.below(3)
		node, in := x.below(len(p.Nodes)), -1
		if ins := process.Ins(p, node); len(ins) > 0 && x.below(20) > 0 {
			in = ins[x.below(len(ins))]
		}
		b.Tokens = append(b.Tokens, api.Token{ID: b.Next, Node: node, In: in, Stuck: x.below(6) == 0})
		b.Next++
	}
	return b
}

// leads tells whether some flows of p lead from one node to another one, by trying all ways.
func leads(p api.Process, from, to int) bool {
	seen := make([]bool, len(p.Nodes))
	var look func(at int) bool
	look = func(at int) bool {
		for _, f := range p.Flows {
			if f.From == at && (f.To == to || !seen[f.To]) {
				seen[f.To] = true
				if f.To == to || look(f.To) {
					return true
				}
			}
		}
		return false
	}
	return look(from)
}

// isReady tells what Ready has to, as the chapter's words go, of a board whose tokens stand by their IDs.
func isReady(b Board, at int) bool {
	t := b.Tokens[at]
	kind, ins := b.P.Nodes[t.Node].Kind, process.Ins(b.P, t.Node)
	if t.Stuck || kind == api.Work {
		return false
	}
	if len(ins) < 2 || kind != api.Parallel && kind != api.Inclusive {
		return true
	}
	missing := slices.Clone(ins)
	for k, x := range b.Tokens {
		if x.Node == t.Node && k < at || kind == api.Inclusive && x.Node != t.Node && leads(b.P, x.Node, t.Node) {
			return false
		}
		if x.Node == t.Node {
			missing = slices.DeleteFunc(missing, func(f int) bool { return f == x.In })
		}
	}
	return kind == api.Inclusive || len(missing) == 0
}

// leaving tells what comes of the flows from a node of which conditions are asked.
func leaving(b Board, node int) ([]int, error) {
	texts, holds, errs := conds()
	n, outs := b.P.Nodes[node], process.Outs(b.P, node)
	if n.Kind == api.Exclusive && len(outs) == 1 {
		return outs, nil
	}
	var l []int
	for _, f := range outs {
		k := slices.Index(texts, b.P.Flows[f].Cond)
		switch {
		case f == n.Default:
		case errs[k] != nil:
			return nil, errs[k]
		case holds[k]:
			l = append(l, f)
		}
		if len(l) == 1 && n.Kind == api.Exclusive {
			break
		}
	}
	if len(l) == 0 && n.Default >= 0 {
		l = append(l, n.Default)
	}
	if len(l) == 0 {
		return nil, api.ErrStuck
	}
	return l, nil
}

// wanted is what a Step of a token that is Ready has to come to.
func wanted(b Board, at int) (out Board, failed string, err error) {
	t := b.Tokens[at]
	n, outs := b.P.Nodes[t.Node], process.Outs(b.P, t.Node)
	out = deep(b)
	drop := func(is func(x api.Token) bool) {
		out.Tokens = slices.DeleteFunc(out.Tokens, is)
	}
	switch n.Kind {
	case api.Failure:
		out.Tokens, failed = nil, n.Code
	case api.Parallel:
		for _, f := range process.Ins(b.P, t.Node) {
			k := slices.IndexFunc(out.Tokens, func(x api.Token) bool { return x.Node == t.Node && x.In == f })
			if k >= 0 {
				out.Tokens = slices.Delete(out.Tokens, k, k+1)
			}
		}
	case api.Inclusive:
		outs, err = leaving(b, t.Node)
		drop(func(x api.Token) bool { return x.Node == t.Node })
	case api.Exclusive:
		outs, err = leaving(b, t.Node)
		drop(func(x api.Token) bool { return x.ID == t.ID })
	default:
		drop(func(x api.Token) bool { return x.ID == t.ID })
	}
	for _, f := range outs {
		out.Tokens = append(out.Tokens, api.Token{ID: out.Next, Node: b.P.Flows[f].To, In: f})
		out.Next++
	}
	if err == nil && len(out.Tokens) > api.MaxTokens {
		err = api.ErrMany
	}
	if err != nil {
		out = deep(b)
		out.Tokens[at].Stuck = true
		return out, "", err
	}
	return out, failed, nil
}

// met counts what the boards came to, so that a test can tell whether it tried enough of each.
type met struct {
	unready, moved, failed [8]int
	errs                   map[string]int
}

// enough tells whether each was met at least so many times.
func (m *met) enough(least int) bool {
	for _, kind := range []int{api.Start, api.End, api.Failure, api.Exclusive, api.Parallel, api.Inclusive} {
		if m.moved[kind] < least || m.unready[kind] < least {
			return false
		}
	}
	for _, err := range []error{api.ErrStuck, api.ErrMany, api.ErrNone, api.ErrType, api.ErrZero} {
		if m.errs[err.Error()] < least {
			return false
		}
	}
	return m.unready[api.Work] >= least
}

// tryStep checks Ready and Step of the token at that place against the words of the chapter.
func tryStep(t *testing.T, b Board, at int, m *met) {
	t.Helper()
	part, all := roomy(b)
	before := deep(all)
	kind := b.P.Nodes[b.Tokens[at].Node].Kind
	want, failed, err := deep(b), "", error(api.ErrRange)
	is := isReady(b, at)
	if is {
		want, failed, err = wanted(b, at)
	}
	switch {
	case !is:
		m.unready[kind]++
	case err != nil:
		m.failed[kind]++
		m.errs[err.Error()]++
	default:
		m.moved[kind]++
	}
	if got := Ready(part, at); got != is {
		t.Fatalf("%v: %s at %d: ready %t", b.P, say(b), at, got)
	}
	got, move, gotErr := Step(part, at)
	if !sameBoard(got, want) || move != (Move{Moved: err == nil, Failed: failed}) || gotErr != err {
		t.Fatalf("%v: %s at %d: %s, %v, %v, not %s, %v", b.P, say(b), at, say(got), move, gotErr, say(want), err)
	}
	if !sameBoard(all, before) {
		t.Fatalf("%v: %s at %d: written over what was handed in", b.P, say(b), at)
	}
}

func TestAnyBoard(t *testing.T) {
	x := chance(2463534242)
	m := met{errs: map[string]int{}}
	for range 60000 {
		p, is := sketch(&x)
		if !is {
			continue
		}
		b := scatter(&x, p)
		for at := range b.Tokens {
			tryStep(t, b, at, &m)
		}
	}
	if !m.enough(100) {
		t.Errorf("too few of some kind: %v", m)
	}
}

// From one token on, as long as something is Ready: the tokens stand by their IDs, all of them below Next, at the nodes to which the flows lead that they came by.
func TestAnyWay(t *testing.T) {
	x := chance(88172645)
	steps := 0
	for range 4000 {
		p, is := sketch(&x)
		if !is {
			continue
		}
		b := Put(Board{P: p, Vars: board(p, "1").Vars, Next: 1}, api.Token{In: -1})
		for range 40 {
			at := slices.IndexFunc(b.Tokens, func(t api.Token) bool { return !t.Stuck && p.Nodes[t.Node].Kind == api.Work })
			if x.below(2) == 0 && at >= 0 {
				b, _ = Along(b, at, process.Outs(p, b.Tokens[at].Node)[0])
			}
			for at := range b.Tokens {
				if Ready(b, at) {
					b, _, _ = Step(b, at)
					steps++
					break
				}
			}
			last := 0
			for _, x := range b.Tokens {
				if x.ID <= last || x.ID >= b.Next || x.In >= 0 && p.Flows[x.In].To != x.Node || x.In < 0 && x.Node != 0 {
					t.Fatalf("%v: %s", p, say(b))
				}
				last = x.ID
			}
			if len(b.Tokens) > api.MaxTokens {
				t.Fatalf("%v: %d tokens", p, len(b.Tokens))
			}
		}
	}
	if steps < 5000 {
		t.Errorf("too few steps: %d", steps)
	}
}

// wild is a number of any kind.
func wild(x *chance) int {
	if x.below(6) > 0 {
		return x.below(6) - 1
	}
	return []int{math.MinInt, math.MaxInt, -7, 99, 7}[x.below(5)]
}

// Of boards with processes that process.Check doesn't take nothing is asked but that each call ends, tells an error that it may tell, and leaves what is handed in.
func TestWildBoards(t *testing.T) {
	x := chance(521288629)
	texts, _, _ := conds()
	texts = append(texts, "(", "not", "1 2", "\xff", "\"")
	for range 60000 {
		b := Board{Next: wild(&x)}
		for range x.below(6) {
			b.P.Nodes = append(b.P.Nodes, api.Node{Kind: wild(&x) + 2, Default: wild(&x), To: wild(&x), Code: texts[x.below(len(texts))]})
		}
		for range x.below(9) {
			b.P.Flows = append(b.P.Flows, api.Flow{From: wild(&x), To: wild(&x), Cond: texts[x.below(len(texts))]})
		}
		for range x.below(9) {
			b.Tokens = append(b.Tokens, api.Token{ID: wild(&x), Node: wild(&x), In: wild(&x), Stuck: x.below(5) == 0})
		}
		part, all := roomy(b)
		before := deep(all)
		at, flow := wild(&x), wild(&x)
		is := Ready(part, at)
		got, m, err := Step(part, at)
		if m.Moved != (err == nil) || is == (err == api.ErrRange) || !samePlan(got, b) || !is && !sameBoard(got, b) {
			t.Fatalf("%v at %d: %t, %v, %v, %v", b, at, is, got, m, err)
		}
		for _, one := range []error{nil, api.ErrRange, api.ErrStuck, api.ErrMany, api.ErrNone, api.ErrType, api.ErrZero, api.ErrSyntax} {
			if errors.Is(err, one) {
				err = nil
			}
		}
		if _, e := Along(part, at, flow); err != nil || e != nil && e != api.ErrRange || !sameBoard(all, before) {
			t.Fatalf("%v at %d: %v, %v, or written over", b, at, err, e)
		}
	}
}
