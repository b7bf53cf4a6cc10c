package process

import (
	"errors"
	"math"
	"slices"
	"testing"

	"leasehold/api"
	"leasehold/cond"
	"leasehold/vars"
)

// P6.1

// wrong is an error as a test wants it: around a place, or alone where pos is -1; without one: no error.
type wrong struct {
	pos int
	err error
}

// is tells whether err is just as wanted: a sentinel alone, or a *api.At right around it.
func (w wrong) is(err error) bool {
	if w.pos < 0 {
		return err == w.err
	}
	at, ok := err.(*api.At)
	return ok && at.Pos == w.pos && at.Err == w.err && errors.Is(err, w.err)
}

// change is what makes another process of one.
type change func(p *api.Process)

// with is the full process with changes made.
func with(l ...change) api.Process {
	p := full()
	for _, f := range l {
		f(&p)
	}
	return p
}

// The changes, each of one thing.
func name(s string) change         { return func(p *api.Process) { p.Name = s } }
func kind(k, n int) change         { return func(p *api.Process) { p.Nodes[k].Kind = n } }
func topic(k int, s string) change { return func(p *api.Process) { p.Nodes[k].Topic = s } }
func code(k int, s string) change  { return func(p *api.Process) { p.Nodes[k].Code = s } }
func catch(k int, s string) change { return func(p *api.Process) { p.Nodes[k].Catch = s } }
func priority(k, n int) change     { return func(p *api.Process) { p.Nodes[k].Priority = n } }
func retries(k, n int) change      { return func(p *api.Process) { p.Nodes[k].Retries = n } }
func byDefault(k, n int) change    { return func(p *api.Process) { p.Nodes[k].Default = n } }
func caughtBy(k, n int) change     { return func(p *api.Process) { p.Nodes[k].To = n } }
func from(k, n int) change         { return func(p *api.Process) { p.Flows[k].From = n } }
func to(k, n int) change           { return func(p *api.Process) { p.Flows[k].To = n } }
func when(k int, s string) change  { return func(p *api.Process) { p.Flows[k].Cond = s } }
func node(n api.Node) change       { return func(p *api.Process) { p.Nodes = append(p.Nodes, n) } }
func flow(from, to int) change {
	return func(p *api.Process) { p.Flows = append(p.Flows, api.Flow{From: from, To: to}) }
}

// small is a process of these nodes, with flows.
func small(l []api.Node, ends ...[2]int) api.Process {
	return api.Process{Name: "small", Nodes: l, Flows: flows(ends...)}
}

// wide is one of so many nodes and flows: a Parallel, and an End for each way.
func wide(nodes, count int) api.Process {
	p := small([]api.Node{plain(api.Start), plain(api.Parallel)}, [2]int{0, 1})
	for k := 2; k < nodes; k++ {
		p.Nodes = append(p.Nodes, plain(api.End))
		p.Flows = append(p.Flows, api.Flow{From: 1, To: k})
	}
	for len(p.Flows) < count {
		p.Flows = append(p.Flows, api.Flow{From: 1, To: nodes - 1})
	}
	return p
}

func TestCheckTakes(t *testing.T) {
	start, end := plain(api.Start), plain(api.End)
	for k, p := range []api.Process{
		full(), with(name("a")), with(name("-")), with(name(xs(24, "z"))), with(name("a-9_")),
		small([]api.Node{start, end}, [2]int{0, 1}), small([]api.Node{start, failing("no")}, [2]int{0, 1}), small([]api.Node{start, work("w"), end}, [2]int{0, 1}, [2]int{1, 2}),
		wide(30, 29), wide(30, 60), wide(3, 60), wide(29, 59),
		// Each number at its edges.
		with(priority(2, 0)), with(priority(2, 9)), with(retries(2, 1)), with(retries(2, 9)), with(priority(3, 0), retries(3, 1)),
		// Each name at its edges.
		with(topic(2, xs(24, "a")), catch(2, "-"), code(6, xs(24, "_"))), with(topic(2, "dry")), with(catch(2, xs(24, "9"))),
		// Each way that may be told.
		with(byDefault(1, -1)), with(byDefault(1, 1)), with(byDefault(5, -1)), with(byDefault(5, 8)), with(caughtBy(2, 3)), with(kind(1, api.Exclusive)), with(kind(5, api.Inclusive)),
		with(catch(2, ""), caughtBy(2, -1), from(4, 4)),
		// Each condition that may be.
		with(when(1, "")), with(when(2, "n > 3")), with(when(9, "x")), with(when(8, " 1")), with(when(8, "(((((((((((("+"1"+"))))))))))))")), with(when(8, "x"+xs(79, " "))), with(when(8, "1 + true")), with(when(8, "1 / 0 == not_there")),
		// Rings, twice the same flow, and what can't be come to.
		with(to(3, 2)), with(to(4, 2), flow(4, 6)), with(to(3, 2), to(4, 2), flow(4, 6)), with(flow(4, 4)), with(flow(1, 2), flow(1, 2)), with(node(plain(api.Parallel)), flow(8, 8)), with(node(work("lost")), flow(8, 8)),
		with(node(work("lost")), node(end), flow(8, 8), flow(9, 9), from(11, 8), to(11, 9), from(10, 1)),
	} {
		if err := Check(p); err != nil {
			t.Errorf("%d: %v", k, err)
		}
	}
}

func TestCheckOfItsName(t *testing.T) {
	for _, s := range []string{"", "A", "a b", xs(25, "a"), xs(9000, "a"), "\xff", "a.", "a\x00"} {
		for k, p := range []api.Process{with(name(s)), with(name(s), from(0, -1), kind(0, 9)), {Name: s}, {Name: s, Nodes: make([]api.Node, 31), Flows: make([]api.Flow, 61)}} {
			if err := Check(p); !(wrong{-1, api.ErrName}).is(err) {
				t.Errorf("%.30q, %d: %v", s, k, err)
			}
		}
	}
}

func TestCheckOfTooManyOrTooFew(t *testing.T) {
	for k, p := range []api.Process{
		{Name: "p"}, small([]api.Node{}), small([]api.Node{plain(api.Start)}), small([]api.Node{plain(api.Start)}, [2]int{0, 0}),
		wide(31, 30), wide(31, 60), wide(32, 31), wide(30, 61), wide(3, 61), wide(3, 5000),
		{Name: "p", Nodes: make([]api.Node, 31)}, {Name: "p", Nodes: make([]api.Node, 5), Flows: make([]api.Flow, 61)},
		{Name: "p", Nodes: make([]api.Node, 300000), Flows: make([]api.Flow, 300000)}, {Name: "p", Flows: flows([2]int{-1, -1})},
	} {
		if err := Check(p); !(wrong{-1, api.ErrMany}).is(err) {
			t.Errorf("%d: %v", k, err)
		}
	}
}

// fault is a process of which something is amiss.
type fault struct {
	p     api.Process
	wrong wrong
}

// tellsAll checks that Check tells what is amiss with each.
func tellsAll(t *testing.T, l []fault) {
	t.Helper()
	for k, f := range l {
		if err := Check(f.p); !f.wrong.is(err) {
			t.Errorf("%d: %v, not %d: %v", k, err, f.wrong.pos, f.wrong.err)
		}
	}
}

func TestCheckOfFlows(t *testing.T) {
	for _, n := range []int{-1, 8, 9, math.MaxInt, math.MinInt} {
		for k := range full().Flows {
			tellsAll(t, []fault{
				{with(from(k, n)), wrong{100 + k, api.ErrRange}}, {with(to(k, n)), wrong{100 + k, api.ErrRange}}, {with(from(k, n), to(k, n)), wrong{100 + k, api.ErrRange}},
				// Ahead of its Cond, and of all behind.
				{with(from(k, n), when(k, "?")), wrong{100 + k, api.ErrRange}}, {with(to(k, n), when(k, "1")), wrong{100 + k, api.ErrRange}}, {with(to(k, n), flow(-1, -1), kind(0, 0), byDefault(7, 3)), wrong{100 + k, api.ErrRange}},
			})
		}
	}
	last := wide(30, 60)
	last.Flows[59].To = 30
	tellsAll(t, []fault{{last, wrong{159, api.ErrRange}}})
}

func TestCheckOfConditions(t *testing.T) {
	for k, f := range full().Flows {
		chooses := f.From == 1 || f.From == 5
		for s, err := range map[string]error{"1": nil, "n > 3 and not done": nil, "": nil, " ": api.ErrSyntax, "?": api.ErrSyntax, "n >": api.ErrSyntax, "a a": api.ErrSyntax, xs(13, "("): api.ErrDeep, "1" + xs(80, " "): api.ErrLong, xs(81, "("): api.ErrLong, xs(9000, "x"): api.ErrLong} {
			w := wrong{100 + k, err}
			switch {
			case !chooses && s != "":
				w.err = api.ErrShape
			case err == nil:
				w.pos = -1
			}
			tellsAll(t, []fault{{with(when(k, s)), w}})
			if w.err != nil {
				tellsAll(t, []fault{{with(when(k, s), flow(0, 99), kind(0, 0), topic(2, "")), w}})
			}
		}
	}
	tellsAll(t, []fault{
		// From is held against its Kind, whatever else is amiss with it.
		{with(kind(5, 8), when(9, "1")), wrong{108, api.ErrShape}}, {with(kind(5, api.Parallel), when(8, "")), wrong{5, api.ErrShape}}, {with(kind(3, api.Exclusive), when(5, "?")), wrong{105, api.ErrSyntax}},
		{with(kind(1, api.Work)), wrong{101, api.ErrShape}}, {with(when(8, "?"), when(1, "n >")), wrong{101, api.ErrSyntax}}, {with(when(1, xs(13, "-")), when(0, "1")), wrong{100, api.ErrShape}},
	})
}

func TestCheckOfStarts(t *testing.T) {
	for n := -1; n < 9; n++ {
		if n != api.Start {
			tellsAll(t, []fault{{with(kind(0, n)), wrong{0, api.ErrShape}}, {with(kind(0, n), topic(0, "t"), retries(0, 1)), wrong{0, api.ErrShape}}})
		}
	}
	tellsAll(t, []fault{
		{with(kind(3, api.Start)), wrong{3, api.ErrShape}}, {with(kind(7, api.Start)), wrong{7, api.ErrShape}}, {with(node(plain(api.Start)), flow(8, 1)), wrong{8, api.ErrShape}}, {with(node(plain(api.Start))), wrong{8, api.ErrShape}},
		{with(to(8, 0), when(8, "")), wrong{0, api.ErrShape}}, {with(flow(0, 1)), wrong{0, api.ErrShape}}, {with(flow(0, 0)), wrong{0, api.ErrShape}}, {with(to(0, 0)), wrong{0, api.ErrShape}}, {with(from(0, 4)), wrong{0, api.ErrShape}}, {with(flow(4, 0)), wrong{0, api.ErrShape}},
		{small([]api.Node{plain(api.Start), plain(api.End)}), wrong{0, api.ErrShape}}, {small([]api.Node{plain(api.End), plain(api.Start)}, [2]int{1, 0}), wrong{0, api.ErrShape}},
	})
}

func TestCheckOfKindsAndTheirFlows(t *testing.T) {
	for _, n := range []int{0, -1, 8, 9, 1 << 32, 1<<32 + 2, math.MaxInt, math.MinInt} {
		tellsAll(t, []fault{{with(kind(7, n)), wrong{7, api.ErrShape}}, {with(kind(4, n)), wrong{4, api.ErrShape}}, {with(kind(3, n)), wrong{3, api.ErrShape}}, {with(node(plain(n))), wrong{8, api.ErrShape}}})
	}
	// lone is one more node that something leads to, or that leads on, so often.
	lone := func(n api.Node, ins, outs int) api.Process {
		p := with(node(n))
		for range ins {
			p.Flows = append(p.Flows, api.Flow{From: 4, To: 8})
		}
		for range outs {
			p.Flows = append(p.Flows, api.Flow{From: 8, To: 4})
		}
		return p
	}
	for ins := range 4 {
		for outs := range 4 {
			for _, c := range []struct {
				n     api.Node
				right bool
			}{
				{plain(api.Start), false}, {plain(api.End), ins > 0 && outs == 0}, {failing("f"), ins > 0 && outs == 0},
				{work("w"), ins > 0 && outs == 1}, {catching("w", "c", 10+ins), ins > 0 && outs == 2},
				{plain(api.Exclusive), ins > 0 && outs > 0}, {plain(api.Parallel), ins > 0 && outs > 0}, {plain(api.Inclusive), ins > 0 && outs > 0},
			} {
				w := wrong{8, api.ErrShape}
				if c.right {
					w = wrong{-1, nil}
				}
				tellsAll(t, []fault{{lone(c.n, ins, outs), w}})
			}
		}
	}
	// A flow to itself is one of both.
	tellsAll(t, []fault{{with(flow(7, 7)), wrong{7, api.ErrShape}}, {with(flow(6, 6)), wrong{6, api.ErrShape}}, {with(flow(3, 3)), wrong{3, api.ErrShape}}, {with(flow(2, 2)), wrong{2, api.ErrShape}}})
}

// noNames are texts that are no names.
func noNames() []string {
	return []string{"A", "a b", "?", xs(25, "a"), xs(5000, "a"), "\x00", "\xff", "a\n"}
}

func TestCheckOfNames(t *testing.T) {
	for _, s := range append(noNames(), "") {
		tellsAll(t, []fault{{with(topic(2, s)), wrong{2, api.ErrName}}, {with(topic(3, s)), wrong{3, api.ErrName}}, {with(code(6, s)), wrong{6, api.ErrName}}})
	}
	for _, s := range noNames() {
		tellsAll(t, []fault{{with(catch(2, s)), wrong{2, api.ErrName}}})
	}
	for _, s := range append(noNames(), "name") {
		for k, n := range full().Nodes {
			if n.Kind != api.Work {
				tellsAll(t, []fault{{with(topic(k, s)), wrong{k, api.ErrName}}, {with(catch(k, s)), wrong{k, api.ErrName}}, {with(catch(k, s), caughtBy(k, 0)), wrong{k, api.ErrName}}})
			}
			if n.Kind != api.Failure {
				tellsAll(t, []fault{{with(code(k, s)), wrong{k, api.ErrName}}})
			}
			// Behind what is amiss with its shape, ahead of its numbers and ways.
			tellsAll(t, []fault{{with(code(k, s+"?"), priority(k, -1), retries(k, 10), byDefault(k, 99), caughtBy(k, 99)), wrong{k, api.ErrName}}, {with(code(k, "?"), kind(k, 8), when(1, ""), when(8, "")), wrong{k, api.ErrShape}}})
		}
	}
	// Of a Work without Catch one of Outs is right, whatever Catch's name would be.
	tellsAll(t, []fault{{with(catch(3, "?")), wrong{3, api.ErrShape}}, {with(catch(2, "")), wrong{2, api.ErrShape}}})
}

func TestCheckOfNumbers(t *testing.T) {
	for k, n := range full().Nodes {
		for _, v := range []int{-1, 0, 1, 9, 10, 100, 1 << 32, math.MaxInt, math.MinInt} {
			isWork := n.Kind == api.Work
			p, r := wrong{k, api.ErrRange}, wrong{k, api.ErrRange}
			if v == 0 || isWork && v > 0 && v <= 9 {
				p = wrong{-1, nil}
			}
			if isWork && v > 0 && v <= 9 || !isWork && v == 0 {
				r = wrong{-1, nil}
			}
			tellsAll(t, []fault{{with(priority(k, v)), p}, {with(retries(k, v)), r}})
			if p.err != nil {
				tellsAll(t, []fault{{with(priority(k, v), byDefault(k, 99), caughtBy(k, 99)), p}})
			}
			if r.err != nil {
				tellsAll(t, []fault{{with(retries(k, v), byDefault(k, 99), caughtBy(k, 99)), r}})
			}
		}
	}
}

func TestCheckOfDefaults(t *testing.T) {
	for k, n := range full().Nodes {
		for v := -3; v < 14; v++ {
			w := wrong{k, api.ErrShape}
			if v == -1 || (n.Kind == api.Exclusive || n.Kind == api.Inclusive) && slices.Contains(Outs(full(), k), v) {
				w = wrong{-1, nil}
			}
			tellsAll(t, []fault{{with(byDefault(k, v)), w}})
		}
		tellsAll(t, []fault{{with(byDefault(k, math.MaxInt)), wrong{k, api.ErrShape}}, {with(byDefault(k, math.MinInt)), wrong{k, api.ErrShape}}})
	}
	// The flow's Cond is its own.
	tellsAll(t, []fault{{with(byDefault(1, 1), when(2, "x")), wrong{-1, nil}}, {with(byDefault(5, 9), when(9, "x")), wrong{-1, nil}}})
}

func TestCheckOfTheWayOfACatch(t *testing.T) {
	for k := range full().Nodes {
		for v := -3; v < 14; v++ {
			w := wrong{k, api.ErrShape}
			if k != 2 && v == -1 || k == 2 && (v == 3 || v == 4) {
				w = wrong{-1, nil}
			}
			tellsAll(t, []fault{{with(caughtBy(k, v)), w}})
		}
		tellsAll(t, []fault{{with(caughtBy(k, math.MaxInt)), wrong{k, api.ErrShape}}, {with(caughtBy(k, math.MinInt)), wrong{k, api.ErrShape}}})
	}
}

func TestCheckTellsTheFirstNode(t *testing.T) {
	amiss := []func(k int) change{
		func(k int) change { return kind(k, 99) }, func(k int) change { return code(k, "?") }, func(k int) change { return priority(k, 10) },
		func(k int) change { return retries(k, -1) }, func(k int) change { return byDefault(k, 99) }, func(k int) change { return caughtBy(k, 99) },
	}
	faults := []error{api.ErrShape, api.ErrName, api.ErrRange, api.ErrRange, api.ErrShape, api.ErrShape}
	for i, first := range amiss {
		for j, second := range amiss {
			for k := range 7 {
				bare := []change{when(1, ""), when(8, "")}
				tellsAll(t, []fault{
					{with(append(bare, first(k), second(k+1))...), wrong{k, faults[i]}},
					{with(append(bare, second(k), first(k))...), wrong{k, faults[min(i, j)]}},
				})
			}
		}
	}
}

func TestCheckChangesNothing(t *testing.T) {
	for _, p := range []api.Process{full(), with(byDefault(7, 2)), with(when(8, "n >"))} {
		part, all := roomy(p)
		before := copied(all)
		first, second := Check(part), Check(part)
		if !same(all, before) {
			t.Error("Check wrote into its argument, or behind it")
		}
		if first == nil {
			continue
		}
		pos := first.(*api.At).Pos
		first.(*api.At).Pos, first.(*api.At).Err = 9, api.ErrFull
		if third := Check(part); second.(*api.At).Pos != pos || third.(*api.At).Pos != pos || errors.Is(second, api.ErrFull) {
			t.Errorf("two errors share their memory: %v, %v", second, third)
		}
	}
}

// rule is a sentence of the chapter: what is amiss, and which error that is.
type rule struct {
	amiss bool
	err   error
}

// first is the error of the first one that is amiss.
func first(l []rule) error {
	for _, r := range l {
		if r.amiss {
			return r.err
		}
	}
	return nil
}

// readingOfFlow is a second one of what the chapter says of a flow.
func readingOfFlow(p api.Process, f api.Flow) error {
	if min(f.From, f.To) < 0 || max(f.From, f.To) >= len(p.Nodes) {
		return api.ErrRange
	}
	if k := p.Nodes[f.From].Kind; f.Cond == "" || k != 5 && k != 7 {
		return first([]rule{{f.Cond != "", api.ErrShape}})
	}
	_, err := cond.Parse(f.Cond)
	return errors.Unwrap(err)
}

// readingOfNode is a second one of what the chapter says of a node.
func readingOfNode(p api.Process, k int) error {
	n := p.Nodes[k]
	var ins, outs int
	mine := map[int]bool{}
	for at, f := range p.Flows {
		if f.To == k {
			ins++
		}
		if f.From == k {
			outs++
			mine[at] = true
		}
	}
	noName := func(s string) bool { return !vars.Name(s) }
	return first([]rule{
		{k == 0 && n.Kind != 1, api.ErrShape}, {k > 0 && n.Kind == 1, api.ErrShape}, {n.Kind < 1 || n.Kind > 7, api.ErrShape},
		{n.Kind == 1 && (ins != 0 || outs != 1), api.ErrShape}, {n.Kind != 1 && ins == 0, api.ErrShape}, {(n.Kind == 2 || n.Kind == 3) && outs != 0, api.ErrShape},
		{n.Kind == 4 && n.Catch == "" && outs != 1, api.ErrShape}, {n.Kind == 4 && n.Catch != "" && outs != 2, api.ErrShape}, {n.Kind >= 5 && outs == 0, api.ErrShape},
		{n.Kind == 4 && noName(n.Topic), api.ErrName}, {n.Kind == 3 && noName(n.Code), api.ErrName}, {n.Kind != 4 && n.Topic != "", api.ErrName}, {n.Kind != 3 && n.Code != "", api.ErrName},
		{n.Catch != "" && n.Kind != 4, api.ErrName}, {n.Catch != "" && noName(n.Catch), api.ErrName},
		{n.Kind == 4 && (n.Priority < 0 || n.Priority > 9 || n.Retries < 1 || n.Retries > 9), api.ErrRange}, {n.Kind != 4 && (n.Priority != 0 || n.Retries != 0), api.ErrRange},
		{n.Default != -1 && n.Kind != 5 && n.Kind != 7, api.ErrShape}, {n.Default != -1 && !mine[n.Default], api.ErrShape},
		{n.Catch == "" && n.To != -1, api.ErrShape}, {n.Catch != "" && !mine[n.To], api.ErrShape},
	})
}

// reading is a second one of Check.
func reading(p api.Process) wrong {
	for k, f := range p.Flows {
		if err := readingOfFlow(p, f); err != nil {
			return wrong{100 + k, err}
		}
	}
	for k := range p.Nodes {
		if err := readingOfNode(p, k); err != nil {
			return wrong{k, err}
		}
	}
	return wrong{-1, nil}
}

// anyChange is one of any thing, mostly to what may stand somewhere.
func anyChange(x *number) change {
	k, f := x.below(8), x.below(10)
	s := []string{"", "", "name", "other", "?"}[x.below(5)]
	switch x.below(14) {
	case 0:
		return kind(k, x.below(9))
	case 1:
		return topic(k, s)
	case 2:
		return code(k, s)
	case 3:
		return catch(k, s)
	case 4:
		return priority(k, x.below(13)-2)
	case 5:
		return retries(k, x.below(13)-2)
	case 6, 7:
		return byDefault(k, x.below(13)-2)
	case 8, 9:
		return caughtBy(k, x.below(13)-2)
	case 10:
		return from(f, x.below(9))
	case 11:
		return to(f, x.below(9))
	case 12:
		return when(f, []string{"", "", "1", "a == b", "?", xs(13, "("), xs(81, "1")}[x.below(7)])
	}
	return flow(x.below(8), x.below(8))
}

// TestCheckAgainstASecondReading holds what Check tells of many processes against what the reading tells.
func TestCheckAgainstASecondReading(t *testing.T) {
	x := number(2463534242)
	told := map[error]int{}
	for range 200000 {
		p := full()
		for range 1 + x.below(6) {
			anyChange(&x)(&p)
		}
		w := reading(p)
		told[w.err]++
		if err := Check(p); !w.is(err) {
			t.Fatalf("%v: %v, not %d: %v", p, err, w.pos, w.err)
		}
	}
	for _, err := range []error{nil, api.ErrShape, api.ErrName, api.ErrRange, api.ErrSyntax, api.ErrDeep, api.ErrLong} {
		if told[err] < 300 {
			t.Errorf("too few of %v: %d", err, told[err])
		}
	}
}
