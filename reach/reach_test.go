package reach

import (
	"math"
	"slices"
	"testing"

	"leasehold/api"
	"leasehold/process"
)

// of is a process of so many nodes, with one flow for each pair of ends.
func of(nodes int, ends ...[2]int) api.Process {
	p := api.Process{Nodes: make([]api.Node, nodes)}
	for _, e := range ends {
		p.Flows = append(p.Flows, api.Flow{From: e[0], To: e[1]})
	}
	return p
}

// whole is a process that process.Check takes, with a ring where round says so.
func whole(round bool) api.Process {
	plain := func(kind int) api.Node { return api.Node{Kind: kind, Default: -1, To: -1} }
	work := func(topic string) api.Node {
		return api.Node{Kind: api.Work, Topic: topic, Priority: 5, Retries: 3, Default: -1, To: -1}
	}
	p := of(0, [2]int{0, 1}, [2]int{1, 3}, [2]int{1, 2}, [2]int{2, 4}, [2]int{3, 4}, [2]int{4, 5}, [2]int{5, 7}, [2]int{5, 6})
	p.Nodes = []api.Node{plain(api.Start), plain(api.Inclusive), work("dry"), work("paint"), plain(api.Parallel), plain(api.Exclusive), plain(api.End), plain(api.End)}
	if round {
		p.Flows = append(p.Flows, api.Flow{From: 5, To: 1, Cond: "n > 3"})
	}
	return p
}

// marked is the places of the marks.
func marked(l []bool) []int {
	var out []int
	for k, is := range l {
		if is {
			out = append(out, k)
		}
	}
	return out
}

// copied is p in memory of its own.
func copied(p api.Process) api.Process {
	return api.Process{Name: p.Name, Nodes: slices.Clone(p.Nodes), Flows: slices.Clone(p.Flows)}
}

// same tells whether a and b are the same definition.
func same(a, b api.Process) bool {
	return a.Name == b.Name && slices.Equal(a.Nodes, b.Nodes) && slices.Equal(a.Flows, b.Flows)
}

// roomy is p with spare room behind its lists, in which something stands, and all of that memory.
func roomy(p api.Process) (part, all api.Process) {
	all = copied(p)
	all.Nodes = append(all.Nodes, api.Node{Kind: api.Work}, api.Node{})
	all.Flows = append(all.Flows, api.Flow{From: 0, To: 1}, api.Flow{From: 1, To: 0}, api.Flow{From: 2, To: 2}, api.Flow{From: -9, To: 99})
	part = all
	part.Nodes, part.Flows = all.Nodes[:len(p.Nodes)], all.Flows[:len(p.Flows)]
	return part, all
}

// number is a source of numbers in no plain order, the same each time.
type number uint32

func (x *number) below(n int) int {
	*x ^= *x << 13
	*x ^= *x >> 17
	*x ^= *x << 5
	return int(uint32(*x) >> 8 % uint32(n))
}

// sketch is up to six nodes with flows between them, and now and then from or to what is no node.
func sketch(x *number) api.Process {
	p := api.Process{Nodes: make([]api.Node, x.below(7))}
	for range x.below(9) {
		p.Flows = append(p.Flows, api.Flow{From: x.below(len(p.Nodes)+2) - 1, To: x.below(len(p.Nodes)+2) - 1})
	}
	return p
}

// joined tells, for each two nodes, how many flows lead from one right to the other one.
func joined(p api.Process) [6][6]int {
	var l [6][6]int
	for _, f := range p.Flows {
		if f.From >= 0 && f.From < len(p.Nodes) && f.To >= 0 && f.To < len(p.Nodes) {
			l[f.From][f.To]++
		}
	}
	return l
}

// P7.1: From and To

func TestFromAndTo(t *testing.T) {
	line, tree := of(4, [2]int{0, 1}, [2]int{1, 2}, [2]int{2, 3}), of(5, [2]int{4, 3}, [2]int{4, 1}, [2]int{3, 0}, [2]int{3, 2})
	for k, c := range []struct {
		p        api.Process
		node     int
		from, to []int
	}{
		{of(1), 0, nil, nil}, {of(3), 1, nil, nil}, {line, 0, []int{1, 2, 3}, nil}, {line, 1, []int{2, 3}, []int{0}}, {line, 3, nil, []int{0, 1, 2}},
		{tree, 4, []int{0, 1, 2, 3}, nil}, {tree, 3, []int{0, 2}, []int{4}}, {tree, 2, nil, []int{3, 4}}, {tree, 1, nil, []int{4}},
		{whole(false), 2, []int{4, 5, 6, 7}, []int{0, 1}}, {whole(false), 5, []int{6, 7}, []int{0, 1, 2, 3, 4}}, {whole(true), 2, []int{1, 2, 3, 4, 5, 6, 7}, []int{0, 1, 2, 3, 4, 5}},
		// Itself only by a ring.
		{of(1, [2]int{0, 0}), 0, []int{0}, []int{0}}, {of(2, [2]int{0, 1}, [2]int{1, 0}), 0, []int{0, 1}, []int{0, 1}}, {of(3, [2]int{0, 1}, [2]int{1, 1}, [2]int{1, 2}), 0, []int{1, 2}, nil},
		{of(4, [2]int{0, 1}, [2]int{1, 2}, [2]int{2, 1}, [2]int{2, 3}), 0, []int{1, 2, 3}, nil}, {of(4, [2]int{0, 1}, [2]int{1, 2}, [2]int{2, 1}, [2]int{2, 3}), 1, []int{1, 2, 3}, []int{0, 1, 2}}, {of(4, [2]int{0, 1}, [2]int{1, 2}, [2]int{2, 1}, [2]int{2, 3}), 3, nil, []int{0, 1, 2}},
		{of(4, [2]int{0, 1}, [2]int{0, 2}, [2]int{1, 3}, [2]int{2, 3}), 0, []int{1, 2, 3}, nil}, {of(2, [2]int{0, 1}, [2]int{0, 1}), 0, []int{1}, nil},
		// Flows whose ends are no nodes.
		{of(1, [2]int{0, 1}, [2]int{1, 0}), 0, nil, nil}, {of(2, [2]int{0, -1}, [2]int{-1, 1}), 0, nil, nil}, {of(2, [2]int{0, 2}, [2]int{2, 1}), 1, nil, nil},
		{of(2, [2]int{0, math.MaxInt}, [2]int{math.MinInt, 0}, [2]int{0, 1}), 0, []int{1}, nil}, {of(2, [2]int{2, 2}, [2]int{-1, -1}, [2]int{0, 1}), 1, nil, []int{0}},
	} {
		from, to := From(c.p, c.node), To(c.p, c.node)
		if len(from) != len(c.p.Nodes) || len(to) != len(c.p.Nodes) || !slices.Equal(marked(from), c.from) || !slices.Equal(marked(to), c.to) {
			t.Errorf("%d: %v, %v, not %v, %v", k, from, to, c.from, c.to)
		}
	}
}

func TestFromAndToOfNoNode(t *testing.T) {
	for _, node := range []int{-1, -2, 2, 3, 100, math.MaxInt, math.MinInt} {
		p := of(2, [2]int{node, node}, [2]int{0, node}, [2]int{node, 0}, [2]int{node, 1}, [2]int{0, 1}, [2]int{1, 0})
		part, _ := roomy(p)
		for k, l := range [][]bool{From(p, node), To(p, node), From(part, node), To(part, node)} {
			if !slices.Equal(l, []bool{false, false}) {
				t.Errorf("%d, call %d: %v", node, k, l)
			}
		}
	}
	none := of(0, [2]int{0, 0})
	if from, to := From(none, 0), To(none, 0); len(from)+len(to) > 0 {
		t.Errorf("without nodes: %v, %v", from, to)
	}
}

func TestFromAndToOfAnyProcess(t *testing.T) {
	x := number(7)
	for range 5000 {
		part, all := roomy(sketch(&x))
		before := copied(all)
		n := len(part.Nodes)
		leads := joined(part)
		for by := range n {
			for a := range n {
				for b := range n {
					leads[a][b] += leads[a][by] * leads[by][b]
				}
			}
		}
		for a := range n {
			from, to := From(part, a), To(part, a)
			for b := range n {
				if from[b] != (leads[a][b] > 0) || to[b] != (leads[b][a] > 0) {
					t.Fatalf("%d nodes, %v: from %d %v, to it %v", n, part.Flows, a, from, to)
				}
			}
		}
		if !same(all, before) {
			t.Fatalf("%v: it is changed", before)
		}
	}
}

func TestFromAndToHandOutNewMemory(t *testing.T) {
	part, all := roomy(whole(true))
	before := copied(all)
	for k, call := range []func(api.Process, int) []bool{From, To} {
		first, second := call(part, 2), call(part, 2)
		want := slices.Clone(second)
		first = first[:cap(first)]
		for k := range first {
			first[k] = !first[k]
		}
		if !slices.Equal(second, want) || !slices.Equal(call(part, 2), want) || !same(all, before) {
			t.Errorf("call %d: two answers share memory: %v, %v", k, second, want)
		}
	}
}

// P7.1: Order

func TestOrder(t *testing.T) {
	for k, c := range []struct {
		p    api.Process
		want []int
	}{
		{of(0), nil}, {of(1), []int{0}}, {of(4), []int{0, 1, 2, 3}}, {of(4, [2]int{0, 1}, [2]int{1, 2}, [2]int{2, 3}), []int{0, 1, 2, 3}}, {of(4, [2]int{3, 2}, [2]int{2, 1}, [2]int{1, 0}), []int{3, 2, 1, 0}},
		{of(3, [2]int{2, 0}), []int{1, 2, 0}}, {of(3, [2]int{1, 0}), []int{1, 0, 2}}, {of(2, [2]int{1, 0}, [2]int{1, 0}), []int{1, 0}},
		// The least of those that could come next, and not those first that could come first.
		{of(5, [2]int{2, 0}, [2]int{2, 1}), []int{2, 0, 1, 3, 4}}, {of(6, [2]int{5, 0}, [2]int{4, 0}, [2]int{0, 1}, [2]int{2, 3}), []int{2, 3, 4, 5, 0, 1}}, {of(5, [2]int{0, 4}, [2]int{3, 1}, [2]int{3, 2}), []int{0, 3, 1, 2, 4}},
		{of(6, [2]int{1, 0}, [2]int{3, 2}, [2]int{5, 4}), []int{1, 0, 3, 2, 5, 4}}, {of(5, [2]int{4, 2}, [2]int{4, 1}, [2]int{4, 3}, [2]int{4, 0}), []int{4, 0, 1, 2, 3}}, {of(4, [2]int{0, 2}, [2]int{0, 3}, [2]int{3, 1}), []int{0, 2, 3, 1}},
		{whole(false), []int{0, 1, 2, 3, 4, 5, 6, 7}},
		// Flows whose ends are no nodes.
		{of(0, [2]int{0, 0}), nil}, {of(1, [2]int{1, 1}, [2]int{-1, -1}), []int{0}}, {of(2, [2]int{1, 2}, [2]int{2, 0}, [2]int{-1, 0}, [2]int{1, -1}), []int{0, 1}}, {of(2, [2]int{0, 2}, [2]int{2, 0}, [2]int{1, 0}), []int{1, 0}},
		{of(2, [2]int{math.MinInt, 0}, [2]int{1, math.MaxInt}), []int{0, 1}},
	} {
		if got, is := Order(c.p); !is || !slices.Equal(got, c.want) {
			t.Errorf("%d: %v, %t, not %v", k, got, is, c.want)
		}
	}
}

// rings are processes with a ring, of which some nodes could come in an order.
func rings() []api.Process {
	return []api.Process{
		of(1, [2]int{0, 0}), of(3, [2]int{2, 2}), of(2, [2]int{0, 1}, [2]int{1, 0}), of(3, [2]int{0, 1}, [2]int{1, 2}, [2]int{2, 1}), of(4, [2]int{0, 1}, [2]int{1, 2}, [2]int{2, 1}, [2]int{2, 3}),
		of(5, [2]int{0, 1}, [2]int{2, 3}, [2]int{3, 4}, [2]int{4, 2}), of(6, [2]int{0, 1}, [2]int{1, 2}, [2]int{2, 3}, [2]int{3, 4}, [2]int{5, 5}), of(2, [2]int{0, 1}, [2]int{1, 1}, [2]int{7, 7}), whole(true),
	}
}

func TestOrderAndLongestOfARing(t *testing.T) {
	for k, p := range rings() {
		if got, is := Order(p); is || len(got) > 0 {
			t.Errorf("%d: order %v, %t", k, got, is)
		}
		if got, is := Longest(p); is || got != 0 {
			t.Errorf("%d: longest %d, %t", k, got, is)
		}
	}
}

// fits tells whether each flow leads on in that order.
func fits(leads [6][6]int, order []int) bool {
	for k, node := range order {
		for _, at := range order[:k+1] {
			if leads[node][at] > 0 {
				return false
			}
		}
	}
	return true
}

// firstFit is the least order of n nodes, place by place, that fits, with that one as its beginning; nil: none.
func firstFit(leads [6][6]int, order []int, n int) []int {
	if !fits(leads, order) {
		return nil
	}
	if len(order) == n {
		return order
	}
	for node := range n {
		if slices.Contains(order, node) {
			continue
		}
		if got := firstFit(leads, append(slices.Clone(order), node), n); got != nil {
			return got
		}
	}
	return nil
}

// longestFrom is how many flows the longest way from node has, of those of at most most flows.
func longestFrom(leads [6][6]int, node, most int) int {
	got := 0
	for to, n := range leads[node] {
		if n > 0 && most > 0 {
			got = max(got, 1+longestFrom(leads, to, most-1))
		}
	}
	return got
}

func TestOrderAndLongestOfAnyProcess(t *testing.T) {
	x := number(99)
	told := [2]int{}
	for range 5000 {
		part, all := roomy(sketch(&x))
		before := copied(all)
		leads, n, long := joined(part), len(part.Nodes), 0
		for node := range n {
			long = max(long, longestFrom(leads, node, n))
		}
		// A way with as many flows as there are nodes comes twice to one of them.
		want := n == 0 || long < n
		if !want {
			long = 0
		}
		order, is := Order(part)
		longest, also := Longest(part)
		if is != want || also != want || longest != long || !slices.Equal(order, firstFit(leads, []int{}, n)) || process.Ring(part) == want {
			t.Fatalf("%d nodes, %v: %v, %t; %d, %t, not %d, %t", n, part.Flows, order, is, longest, also, long, want)
		}
		if !same(all, before) {
			t.Fatalf("%v: it is changed", before)
		}
		if want {
			told[1]++
		} else {
			told[0]++
		}
	}
	if told[0] < 1000 || told[1] < 1000 {
		t.Errorf("too few of one kind: %v", told)
	}
}

func TestOrderHandsOutNewMemory(t *testing.T) {
	part, all := roomy(whole(false))
	before := copied(all)
	first, _ := Order(part)
	second, _ := Order(part)
	want := slices.Clone(second)
	first = first[:cap(first)]
	for k := range first {
		first[k] = 77
	}
	if third, _ := Order(part); !slices.Equal(second, want) || !slices.Equal(third, want) || !same(all, before) {
		t.Errorf("two answers share memory: %v, %v", second, want)
	}
}

// P7.1: Longest

func TestLongest(t *testing.T) {
	for k, c := range []struct {
		p    api.Process
		want int
	}{
		{of(0), 0}, {of(1), 0}, {of(9), 0}, {of(2, [2]int{0, 1}), 1}, {of(2, [2]int{1, 0}), 1}, {of(2, [2]int{0, 1}, [2]int{0, 1}, [2]int{0, 1}), 1}, {of(4, [2]int{3, 2}, [2]int{2, 1}, [2]int{1, 0}), 3},
		// A short way and a long one to the same node, whichever of them stands first.
		{of(3, [2]int{0, 2}, [2]int{0, 1}, [2]int{1, 2}), 2}, {of(3, [2]int{1, 2}, [2]int{0, 1}, [2]int{0, 2}), 2}, {of(4, [2]int{0, 1}, [2]int{1, 3}, [2]int{0, 2}, [2]int{2, 3}), 2},
		// The longest begins neither at the first node, nor ends at the last one.
		{of(7, [2]int{0, 6}, [2]int{1, 2}, [2]int{2, 3}, [2]int{3, 4}, [2]int{0, 5}), 3}, {of(6, [2]int{0, 1}, [2]int{2, 1}, [2]int{3, 2}, [2]int{4, 3}), 3}, {of(5, [2]int{0, 1}, [2]int{2, 3}), 1}, {of(5, [2]int{0, 1}, [2]int{1, 2}, [2]int{0, 3}, [2]int{0, 4}), 2},
		{whole(false), 5},
		// Flows whose ends are no nodes.
		{of(0, [2]int{0, 0}), 0}, {of(1, [2]int{0, 1}, [2]int{-1, 0}, [2]int{1, 1}), 0}, {of(2, [2]int{0, 1}, [2]int{1, 2}, [2]int{-1, 0}), 1}, {of(2, [2]int{0, 2}, [2]int{2, 1}), 0}, {of(2, [2]int{math.MinInt, math.MaxInt}, [2]int{math.MaxInt, 0}), 0},
	} {
		if got, is := Longest(c.p); !is || got != c.want {
			t.Errorf("%d: %d, %t, not %d", k, got, is, c.want)
		}
	}
}

// Very many: none of the calls takes a step for each two of them, or goes deeper with each of them.

const many = 300000

// turned is a line of nodes that goes from the last one to the first one, each flow n times.
func turned(nodes, n int) api.Process {
	p := of(nodes)
	for k := range nodes - 1 {
		p.Flows = append(p.Flows, slices.Repeat([]api.Flow{{From: k + 1, To: k}}, n)...)
	}
	return p
}

func TestOfALongLine(t *testing.T) {
	p := turned(many, 2)
	from, to := marked(From(p, many/3)), marked(To(p, many/3))
	if len(from) != many/3 || from[0] != 0 || len(to) != many-many/3-1 || to[0] != many/3+1 {
		t.Errorf("from %d, to %d", len(from), len(to))
	}
	order, is := Order(p)
	slices.Reverse(order)
	if !is || len(order) != many || !slices.IsSorted(order) {
		t.Errorf("order of %d, %t", len(order), is)
	}
	if got, is := Longest(p); !is || got != many-1 {
		t.Errorf("longest %d, %t", got, is)
	}
	p.Flows = append(p.Flows, api.Flow{From: 0, To: many - 1})
	order, is = Order(p)
	if got, also := Longest(p); is || also || got != 0 || len(order) > 0 {
		t.Errorf("a long ring: %d, %t, order of %d, %t", got, also, len(order), is)
	}
	if from, to := marked(From(p, 5)), marked(To(p, 5)); len(from) != many || len(to) != many {
		t.Errorf("a long ring: from %d, to %d", len(from), len(to))
	}
}

func TestOfAWideOne(t *testing.T) {
	// The last node leads to each one from 1 up to the middle, the greatest first, and each of these to one behind the middle.
	const middle = many / 2
	p := of(many)
	for k := middle - 1; k > 0; k-- {
		p.Flows = append(p.Flows, api.Flow{From: many - 1, To: k}, api.Flow{From: k, To: middle + k - 1})
	}
	want := []int{0, many - 1}
	for k := range many - 2 {
		want = append(want, k+1)
	}
	if order, is := Order(p); !is || !slices.Equal(order, want) {
		t.Errorf("order of %d, %t", len(order), is)
	}
	if got, is := Longest(p); !is || got != 2 {
		t.Errorf("longest %d, %t", got, is)
	}
	if from, to := marked(From(p, many-1)), marked(To(p, middle)); len(from) != many-2 || !slices.Equal(to, []int{1, many - 1}) {
		t.Errorf("from %d, to %v", len(from), to)
	}
}
