package process

import (
	"math"
	"slices"
	"strconv"
	"strings"
	"testing"

	"leasehold/api"
)

// plain is a node of which nothing is asked but its Kind.
func plain(kind int) api.Node { return api.Node{Kind: kind, Default: -1, To: -1} }

// work is a Work that catches nothing.
func work(topic string) api.Node {
	return api.Node{Kind: api.Work, Topic: topic, Priority: 5, Retries: 3, Default: -1, To: -1}
}

// catching is a Work that catches something by the flow to.
func catching(topic, catch string, to int) api.Node {
	n := work(topic)
	n.Catch, n.To = catch, to
	return n
}

// failing is a Failure.
func failing(code string) api.Node {
	n := plain(api.Failure)
	n.Code = code
	return n
}

// choosing is a node with a Default.
func choosing(kind, way int) api.Node {
	n := plain(kind)
	n.Default = way
	return n
}

// flows is one for each pair of ends.
func flows(ends ...[2]int) []api.Flow {
	var l []api.Flow
	for _, e := range ends {
		l = append(l, api.Flow{From: e[0], To: e[1]})
	}
	return l
}

// full is a process with a node of each Kind, each thing that a node may have, and a ring.
func full() api.Process {
	l := flows([2]int{0, 1}, [2]int{1, 2}, [2]int{1, 3}, [2]int{2, 4}, [2]int{2, 6}, [2]int{3, 4}, [2]int{4, 5}, [2]int{4, 7}, [2]int{5, 1}, [2]int{5, 7})
	l[1].Cond, l[8].Cond = "n > 3", "not done"
	return api.Process{Name: "full", Nodes: []api.Node{
		plain(api.Start), choosing(api.Inclusive, 2), catching("paint", "spilt", 4), work("dry"),
		plain(api.Parallel), choosing(api.Exclusive, 9), failing("wet"), plain(api.End),
	}, Flows: l}
}

// copied is p in memory of its own.
func copied(p api.Process) api.Process {
	return api.Process{Name: p.Name, Nodes: slices.Clone(p.Nodes), Flows: slices.Clone(p.Flows)}
}

// same tells whether a and b are the same definition.
func same(a, b api.Process) bool {
	return a.Name == b.Name && slices.Equal(a.Nodes, b.Nodes) && slices.Equal(a.Flows, b.Flows)
}

// roomy is p with spare room behind its lists, in which something stands, and all of that memory.
func roomy(p api.Process) (part, all api.Process) {
	all = copied(p)
	all.Nodes = append(all.Nodes, work("behind"), plain(api.Start))
	all.Flows = append(all.Flows, api.Flow{From: 1, To: 2, Cond: "behind"}, api.Flow{From: 2, To: 1}, api.Flow{From: -9, To: 99})
	part = all
	part.Nodes, part.Flows = all.Nodes[:len(p.Nodes)], all.Flows[:len(p.Flows)]
	return part, all
}

// xs is n bytes of s.
func xs(n int, s string) string { return strings.Repeat(s, n) }

// number is a source of numbers in no plain order, the same each time.
type number uint32

func (x *number) below(n int) int {
	*x ^= *x << 13
	*x ^= *x >> 17
	*x ^= *x << 5
	return int(uint32(*x) >> 8 % uint32(n))
}

// sketch is some nodes with flows between them, and now and then from or to what is no node.
func sketch(x *number) api.Process {
	p := api.Process{Nodes: make([]api.Node, x.below(7))}
	for range x.below(9) {
		p.Flows = append(p.Flows, api.Flow{From: x.below(len(p.Nodes)+2) - 1, To: x.below(len(p.Nodes)+2) - 1})
	}
	return p
}

// P6.1

func TestOutsAndIns(t *testing.T) {
	for node, want := range [][2][]int{
		{{0}, nil}, {{1, 2}, {0, 8}}, {{3, 4}, {1}}, {{5}, {2}}, {{6, 7}, {3, 5}}, {{8, 9}, {6}}, {nil, {4}}, {nil, {7, 9}},
	} {
		if outs, ins := Outs(full(), node), Ins(full(), node); !slices.Equal(outs, want[0]) || !slices.Equal(ins, want[1]) {
			t.Errorf("node %d: %v, %v, not %v", node, outs, ins, want)
		}
	}
	p := api.Process{Nodes: make([]api.Node, 2), Flows: flows([2]int{1, 1}, [2]int{0, 1}, [2]int{0, 1}, [2]int{1, 9}, [2]int{-1, 0}, [2]int{0, 2})}
	for node, want := range [][2][]int{{{1, 2, 5}, {4}}, {{0, 3}, {0, 1, 2}}} {
		if outs, ins := Outs(p, node), Ins(p, node); !slices.Equal(outs, want[0]) || !slices.Equal(ins, want[1]) {
			t.Errorf("node %d of two: %v, %v, not %v", node, outs, ins, want)
		}
	}
}

func TestOutsAndInsOfNoNode(t *testing.T) {
	for _, node := range []int{-1, -2, 2, 3, 100, math.MaxInt, math.MinInt} {
		p := api.Process{Nodes: make([]api.Node, 2), Flows: flows([2]int{node, node}, [2]int{0, node}, [2]int{node, 0}, [2]int{0, 1})}
		if outs, ins := Outs(p, node), Ins(p, node); len(outs)+len(ins) > 0 {
			t.Errorf("%d: %v, %v", node, outs, ins)
		}
		part, _ := roomy(p)
		if outs, ins := Outs(part, node), Ins(part, node); len(outs)+len(ins) > 0 {
			t.Errorf("%d, with nodes behind the length: %v, %v", node, outs, ins)
		}
	}
	none := api.Process{Flows: flows([2]int{0, 0})}
	if outs, ins := Outs(none, 0), Ins(none, 0); len(outs)+len(ins) > 0 {
		t.Errorf("without nodes: %v, %v", outs, ins)
	}
}

func TestOutsAndInsOfAnyProcess(t *testing.T) {
	x := number(77)
	for range 3000 {
		part, _ := roomy(sketch(&x))
		var outs, ins int
		for node := -3; node < 12; node++ {
			for _, k := range Outs(part, node) {
				outs++
				if part.Flows[k].From != node {
					t.Fatalf("%v: %d is no flow from %d", part.Flows, k, node)
				}
			}
			for _, k := range Ins(part, node) {
				ins++
				if part.Flows[k].To != node {
					t.Fatalf("%v: %d is no flow to %d", part.Flows, k, node)
				}
			}
		}
		for _, f := range part.Flows {
			if f.From >= 0 && f.From < len(part.Nodes) {
				outs--
			}
			if f.To >= 0 && f.To < len(part.Nodes) {
				ins--
			}
		}
		if outs != 0 || ins != 0 {
			t.Fatalf("%v: %d too many Outs, %d too many Ins", part.Flows, outs, ins)
		}
	}
}

func TestOutsAndInsHandOutNewMemory(t *testing.T) {
	p := full()
	for _, call := range []func(api.Process, int) []int{Outs, Ins} {
		first, second := call(p, 1), call(p, 1)
		want := slices.Clone(second)
		_ = append(first, 55, 66)
		first = first[:cap(first)]
		for k := range first {
			first[k] = 77
		}
		if !slices.Equal(second, want) || !slices.Equal(call(p, 1), want) || !same(p, full()) {
			t.Errorf("two answers share memory: %v, %v", second, want)
		}
	}
}

// P6.2

func TestRing(t *testing.T) {
	for k, c := range []struct {
		nodes int
		l     []api.Flow
		want  bool
	}{
		{0, nil, false}, {1, nil, false}, {5, nil, false},
		{1, flows([2]int{0, 0}), true}, {3, flows([2]int{2, 2}), true}, {3, flows([2]int{0, 1}, [2]int{2, 2}), true},
		{2, flows([2]int{0, 1}), false}, {2, flows([2]int{1, 0}), false}, {2, flows([2]int{0, 1}, [2]int{1, 0}), true},
		{2, flows([2]int{0, 1}, [2]int{0, 1}), false}, {3, flows([2]int{0, 1}, [2]int{1, 2}, [2]int{2, 0}), true},
		{4, flows([2]int{0, 1}, [2]int{0, 2}, [2]int{1, 3}, [2]int{2, 3}), false}, {4, flows([2]int{0, 1}, [2]int{0, 2}, [2]int{1, 3}, [2]int{3, 2}, [2]int{2, 1}), true},
		{4, flows([2]int{0, 1}, [2]int{1, 2}, [2]int{2, 1}, [2]int{2, 3}), true}, {4, flows([2]int{3, 2}, [2]int{2, 1}, [2]int{1, 0}), false},
		// No way leads by what is no node.
		{0, flows([2]int{0, 0}), false}, {1, flows([2]int{1, 1}), false}, {1, flows([2]int{-1, -1}), false},
		{1, flows([2]int{0, 1}, [2]int{1, 0}), false}, {2, flows([2]int{0, -1}, [2]int{-1, 0}, [2]int{0, 1}), false},
		{2, flows([2]int{0, math.MaxInt}, [2]int{math.MinInt, 1}, [2]int{1, 0}), false}, {2, flows([2]int{0, 5}, [2]int{1, 1}), true},
	} {
		if got := Ring(api.Process{Nodes: make([]api.Node, c.nodes), Flows: c.l}); got != c.want {
			t.Errorf("%d: %t", k, got)
		}
	}
	p := full()
	if !Ring(p) {
		t.Error("the ring of the full one isn't told")
	}
	p.Flows[8].To = 7
	if Ring(p) {
		t.Error("a ring of what has none any more")
	}
}

// back tells whether a way of at most so many flows leads from one node to another one.
func back(p api.Process, from, to, flows int) bool {
	for _, f := range p.Flows {
		if flows > 0 && f.From == from && f.To >= 0 && f.To < len(p.Nodes) && (f.To == to || back(p, f.To, to, flows-1)) {
			return true
		}
	}
	return false
}

func TestRingOfAnyProcess(t *testing.T) {
	x := number(31)
	told := [2]int{}
	for range 6000 {
		part, all := roomy(sketch(&x))
		before := copied(all)
		want := false
		for node := range part.Nodes {
			want = want || back(part, node, node, len(part.Nodes))
		}
		if got := Ring(part); got != want || !same(all, before) {
			t.Fatalf("%d nodes, %v: %t", len(part.Nodes), part.Flows, got)
		}
		if want {
			told[1]++
		} else {
			told[0]++
		}
	}
	if told[0] < 1000 || told[1] < 1000 {
		t.Errorf("too few of one kind: %v", told)
	}
}

func TestRingOfVeryMany(t *testing.T) {
	const n = 300000
	p := api.Process{Nodes: make([]api.Node, n)}
	for k := range n - 1 {
		p.Flows = append(p.Flows, api.Flow{From: k, To: k + 1})
	}
	if Ring(p) {
		t.Error("a long way is a ring")
	}
	p.Flows = append(p.Flows, api.Flow{From: n - 1, To: 0})
	if !Ring(p) {
		t.Error("a long ring isn't told")
	}
}

func TestTopics(t *testing.T) {
	for k, c := range []struct {
		nodes []api.Node
		want  []string
	}{
		{nil, nil}, {[]api.Node{plain(api.Start), plain(api.End)}, nil}, {full().Nodes, []string{"paint", "dry"}},
		{[]api.Node{work("b"), work("a"), work("c"), work("a"), work("b")}, []string{"b", "a", "c"}},
		{[]api.Node{work(""), work("No Topic"), work(""), work("\xff")}, []string{"", "No Topic", "\xff"}},
		{[]api.Node{catching("a", "x", 0), work("a"), catching("b", "a", 0)}, []string{"a", "b"}},
		{[]api.Node{work(xs(90, "x")), work(xs(91, "x"))}, []string{xs(90, "x"), xs(91, "x")}},
	} {
		if got := Topics(api.Process{Name: "no topic", Nodes: c.nodes}); !slices.Equal(got, c.want) {
			t.Errorf("%d: %q, not %q", k, got, c.want)
		}
	}
}

func TestTopicsOfOtherKinds(t *testing.T) {
	var l []api.Node
	for _, kind := range []int{api.Start, api.End, api.Failure, api.Exclusive, api.Parallel, api.Inclusive, 0, -4, 8, math.MaxInt, math.MinInt} {
		n := work("other" + strconv.Itoa(kind))
		n.Kind, n.Code, n.Catch = kind, "code", "catch"
		l = append(l, n)
	}
	if got := Topics(api.Process{Nodes: l}); len(got) > 0 {
		t.Errorf("%q", got)
	}
	l = append(l, work("other1"))
	if got := Topics(api.Process{Nodes: l}); !slices.Equal(got, []string{"other1"}) {
		t.Errorf("%q", got)
	}
}

func TestTopicsOfVeryMany(t *testing.T) {
	const n = 200000
	var p api.Process
	var want []string
	for k := range n {
		topic := strconv.Itoa((k * 7) % (n / 2))
		p.Nodes = append(p.Nodes, work(topic))
		if k < n/2 {
			want = append(want, topic)
		}
	}
	if got := Topics(p); !slices.Equal(got, want) {
		t.Errorf("%d topics, not %d, or not in their order", len(got), len(want))
	}
}

func TestTopicsHandsOutNewMemory(t *testing.T) {
	part, all := roomy(full())
	before := copied(all)
	first, second := Topics(part), Topics(part)
	_ = append(first, "more", "still")
	first = first[:cap(first)]
	for k := range first {
		first[k] = "scribbled"
	}
	if want := []string{"paint", "dry"}; !slices.Equal(second, want) || !slices.Equal(Topics(part), want) || !same(all, before) {
		t.Errorf("two answers share memory: %q", second)
	}
}
