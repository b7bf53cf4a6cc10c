package flow

import (
	"math"
	"slices"
	"strconv"
	"strings"
	"testing"

	"leasehold/api"
	"leasehold/process"
	"leasehold/token"
	"leasehold/vars"
)

// plain is a node of which nothing is asked but its Kind.
func plain(kind int) api.Node { return api.Node{Kind: kind, Default: -1, To: -1} }

// working is a Work.
func working() api.Node {
	n := plain(api.Work)
	n.Topic, n.Retries = "paint", 1
	return n
}

// catching is a Work that flow leads from where something else came of it.
func catching(flow int) api.Node {
	n := working()
	n.Catch, n.To = "late", flow
	return n
}

// failing is a Failure.
func failing(code string) api.Node {
	n := plain(api.Failure)
	n.Code = code
	return n
}

// of is a process of nodes, with a flow for each word of ends: 1>2, or 1>2?cond.
func of(t *testing.T, ends string, nodes ...api.Node) api.Process {
	t.Helper()
	p := api.Process{Name: "p", Nodes: nodes}
	for _, word := range strings.Fields(ends) {
		ways, c, _ := strings.Cut(word, "?")
		from, to, _ := strings.Cut(ways, ">")
		p.Flows = append(p.Flows, api.Flow{From: number(from), To: number(to), Cond: c})
	}
	if err := process.Check(p); err != nil {
		t.Fatal(err)
	}
	return p
}

// number is that of the text s.
func number(s string) int {
	n, err := strconv.Atoi(s)
	if err != nil {
		panic(err)
	}
	return n
}

// tokens is one for each word of s: 3:1<4 has ID 3, stands at node 1, came by flow 4; a ! behind it: it is Stuck.
func tokens(s string) []api.Token {
	var l []api.Token
	for _, word := range strings.Fields(s) {
		rest, stuck := strings.CutSuffix(word, "!")
		id, rest, _ := strings.Cut(rest, ":")
		node, in, _ := strings.Cut(rest, "<")
		l = append(l, api.Token{ID: number(id), Node: number(node), In: number(in), Stuck: stuck})
	}
	return l
}

// say is what tokens reads of l.
func say(l []api.Token) string {
	var words []string
	for _, t := range l {
		word := strconv.Itoa(t.ID) + ":" + strconv.Itoa(t.Node) + "<" + strconv.Itoa(t.In)
		if t.Stuck {
			word += "!"
		}
		words = append(words, word)
	}
	return strings.Join(words, " ")
}

// some is two variables: n is 2, and sad is false.
func some() []api.Var {
	return []api.Var{{Name: "n", Value: vars.Number(2)}, {Name: "sad", Value: vars.Flag(false)}}
}

// on is a Runner of p with these tokens.
func on(p api.Process, s string, next int) *Runner {
	return Runs(api.Instance{ID: 3, Process: 1, State: api.Live, Vars: some(), Tokens: tokens(s), Next: next}, p)
}

// amiss tells where r stands, and where it has to; nothing, if all is as told.
func amiss(r *Runner, l string, next, moves int, failed string) string {
	if say(r.Tokens) == l && r.Next == next && r.Moves == moves && r.Failed == failed {
		return ""
	}
	return say(r.Tokens) + ", next " + strconv.Itoa(r.Next) + ", " + strconv.Itoa(r.Moves) + " moves, failed " + r.Failed + ", not " + l + ", next " + strconv.Itoa(next) + ", " + strconv.Itoa(moves) + " moves, failed " + failed
}

// line is a Start, a Work, an End.
func line(t *testing.T) api.Process {
	return of(t, "0>1 1>2", plain(api.Start), working(), plain(api.End))
}

// spin is a Start, and two Exclusives from one to the other for ever.
func spin(t *testing.T) api.Process {
	return of(t, "0>1 1>2 2>1?true 2>3?false", plain(api.Start), plain(api.Exclusive), plain(api.Exclusive), plain(api.End))
}

// fork is a Start, a Parallel to two Works and to an Exclusive, a join of all, an End.
func fork(t *testing.T) api.Process {
	return of(t, "0>1 1>2 1>3 1>4 2>5 3>5 4>5 5>6", plain(api.Start), plain(api.Parallel), working(), working(), plain(api.Exclusive), plain(api.Parallel), plain(api.End))
}

// samePlan tells whether b is of p and l.
func samePlan(b token.Board, p api.Process, l []api.Var) bool {
	return b.P.Name == p.Name && slices.Equal(b.P.Nodes, p.Nodes) && slices.Equal(b.P.Flows, p.Flows) && slices.Equal(b.Vars, l)
}

// P9.1: New

func TestNew(t *testing.T) {
	for _, c := range []struct {
		p api.Process
		l []api.Var
	}{{line(t), some()}, {spin(t), nil}, {fork(t), []api.Var{}}, {api.Process{}, some()}, {api.Process{Name: "no name", Flows: []api.Flow{{From: 5, To: -5}}}, nil}} {
		r := New(c.p, c.l)
		if s := amiss(r, "1:0<-1", 2, 0, ""); s != "" || !samePlan(r.Board, c.p, c.l) {
			t.Errorf("%v, %v: %s, %v", c.p, c.l, s, r.Board)
		}
		if r.Done() || len(r.Waits()) > 0 || len(r.Stuck()) > 0 {
			t.Errorf("%v: done %t, waits %v, stuck %v", c.p, r.Done(), r.Waits(), r.Stuck())
		}
	}
}

// room is l with spare room behind it, in which something stands, and all of that memory.
func room[T any](l []T, behind ...T) (part, all []T) {
	all = append(slices.Clone(l), behind...)
	return all[:len(l)], all
}

func TestNewKeepsNothingHandedIn(t *testing.T) {
	p, l := line(t), some()
	nodes, allNodes := room(p.Nodes, plain(api.Parallel), plain(api.End))
	flows, allFlows := room(p.Flows, api.Flow{From: 1, To: 1}, api.Flow{From: 0, To: 2})
	more, allVars := room(l, api.Var{Name: "behind"})
	r := New(api.Process{Name: "p", Nodes: nodes, Flows: flows}, more)
	second := New(api.Process{Name: "p", Nodes: nodes, Flows: flows}, more)
	second.P.Nodes[1].Topic, second.P.Flows[0].To, second.Vars[0].Name = "other", 2, "other"
	_, _, _ = append(second.P.Nodes, api.Node{}), append(second.P.Flows, api.Flow{}), append(second.Vars, api.Var{})
	second.Tokens[0].Node = 2
	for k := range allNodes {
		if k < len(nodes) && allNodes[k] != p.Nodes[k] || k == len(nodes) && allNodes[k] != plain(api.Parallel) {
			t.Errorf("node %d: written over: %v", k, allNodes[k])
		}
		allNodes[k] = api.Node{Kind: 99}
	}
	for k := range allFlows {
		if k < len(flows) && allFlows[k] != p.Flows[k] || k == len(flows) && allFlows[k] != (api.Flow{From: 1, To: 1}) {
			t.Errorf("flow %d: written over: %v", k, allFlows[k])
		}
		allFlows[k] = api.Flow{From: 99}
	}
	for k := range allVars {
		if k < len(l) && allVars[k] != l[k] || k == len(l) && allVars[k] != (api.Var{Name: "behind"}) {
			t.Errorf("variable %d: written over: %v", k, allVars[k])
		}
		allVars[k] = api.Var{Name: "written"}
	}
	if !r.Run(9) || amiss(r, "2:1<0", 3, 1, "") != "" || !samePlan(r.Board, p, l) {
		t.Errorf("kept: %v", r.Board)
	}
}

// P9.1: Run

func TestRun(t *testing.T) {
	far := of(t, "0>1 1>2 2>3 3>4", plain(api.Start), plain(api.Exclusive), plain(api.Parallel), plain(api.Inclusive), plain(api.End))
	half := of(t, "0>1 1>2 1>3 1>4 4>3", plain(api.Start), plain(api.Parallel), plain(api.End), plain(api.End), working())
	broken := of(t, "0>1 1>2 1>3 2>4?miss 2>4?false 3>4", plain(api.Start), plain(api.Parallel), plain(api.Exclusive), plain(api.Exclusive), plain(api.End))
	for k, c := range []struct {
		p     api.Process
		most  int
		is    bool
		want  string
		next  int
		moves int
	}{
		{line(t), 1, true, "2:1<0", 3, 1}, {line(t), 2, true, "2:1<0", 3, 1}, {line(t), math.MaxInt, true, "2:1<0", 3, 1},
		// None at all: what is Ready is Stuck at once.
		{line(t), 0, false, "1:0<-1!", 2, 0}, {line(t), -1, false, "1:0<-1!", 2, 0}, {line(t), math.MinInt, false, "1:0<-1!", 2, 0},
		// Just as many as it takes, one less, one more.
		{far, 5, true, "", 6, 5}, {far, 4, false, "5:4<3!", 6, 4}, {far, 6, true, "", 6, 5}, {far, 1, false, "2:1<0!", 3, 1}, {far, 2, false, "3:2<1!", 4, 2}, {far, 3, false, "4:3<2!", 5, 3},
		// The first one each time: of three, the one that came first.
		{fork(t), 2, false, "3:2<1 4:3<2 5:4<3!", 6, 2}, {fork(t), 3, true, "3:2<1 4:3<2 6:5<6", 7, 3},
		{half, 2, false, "3:2<1! 4:3<2! 5:4<3", 6, 2}, {half, 3, false, "4:3<2! 5:4<3", 6, 3}, {half, 4, true, "5:4<3", 6, 4}, {half, 99, true, "5:4<3", 6, 4},
		// A step that errs is one, too, and its token isn't stepped again.
		{broken, 2, false, "3:2<1! 4:3<2!", 5, 2}, {broken, 3, false, "3:2<1! 4:3<2!", 5, 3}, {broken, 4, false, "3:2<1! 5:4<5!", 6, 4}, {broken, 5, true, "3:2<1!", 6, 5}, {broken, 50, true, "3:2<1!", 6, 5},
		// For ever.
		{spin(t), 5, false, "6:1<2!", 7, 5}, {spin(t), 6, false, "7:2<1!", 8, 6},
	} {
		r := New(c.p, some())
		if is := r.Run(c.most); is != c.is {
			t.Errorf("%d: %d: %t", k, c.most, is)
		}
		if s := amiss(r, c.want, c.next, c.moves, ""); s != "" || !samePlan(r.Board, c.p, some()) {
			t.Errorf("%d: %d: %s", k, c.most, s)
		}
		// None is Ready any more, so that the next one has nothing to do.
		if is := r.Run(c.most); !is || amiss(r, c.want, c.next, c.moves, "") != "" {
			t.Errorf("%d: %d: again %t, %s", k, c.most, is, say(r.Tokens))
		}
		if is := r.Run(api.MaxMoves); !is || amiss(r, c.want, c.next, c.moves, "") != "" {
			t.Errorf("%d: %d: again, more: %t, %s", k, c.most, is, say(r.Tokens))
		}
	}
}

func TestRunOfTheMostMoves(t *testing.T) {
	for _, c := range []struct{ most, moves int }{
		{api.MaxMoves - 1, api.MaxMoves - 1}, {api.MaxMoves, api.MaxMoves}, {api.MaxMoves + 1, api.MaxMoves}, {100 * api.MaxMoves, api.MaxMoves}, {math.MaxInt, api.MaxMoves},
	} {
		r := New(spin(t), nil)
		if r.Run(c.most) || r.Moves != c.moves || r.Next != c.moves+2 || len(r.Stuck()) != 1 || len(r.Tokens) != 1 {
			t.Errorf("%d: %d moves, %s", c.most, r.Moves, say(r.Tokens))
		}
	}
	// So many of each Run, not of all of them.
	p := of(t, "0>1 1>2 1>4 2>3 3>2?true 3>5?false 4>2", plain(api.Start), plain(api.Parallel), plain(api.Exclusive), plain(api.Exclusive), working(), plain(api.End))
	r := New(p, nil)
	if r.Run(api.MaxMoves) || r.Moves != api.MaxMoves || !r.Go(4, 6) || r.Run(api.MaxMoves) || r.Moves != 2*api.MaxMoves || len(r.Stuck()) != 2 || len(r.Tokens) != 2 {
		t.Errorf("%d moves, %s", r.Moves, say(r.Tokens))
	}
}

func TestRunOfWhatStands(t *testing.T) {
	p := of(t, "0>1 1>2 1>3 1>4 2>5 3>5 4>6 5>7 6>7", plain(api.Start), plain(api.Parallel), working(), plain(api.Exclusive), working(), plain(api.Parallel), plain(api.Exclusive), plain(api.End))
	for k, c := range []struct {
		l     string
		most  int
		is    bool
		want  string
		next  int
		moves int
	}{
		{"", 0, true, "", 20, 0}, {"", 9, true, "", 20, 0}, {"1:2<1 2:4<3", 9, true, "1:2<1 2:4<3", 20, 0},
		// Who is Stuck stays; who waits at a join stays till the last one came.
		{"1:0<-1! 2:3<2!", 9, true, "1:0<-1! 2:3<2!", 20, 0}, {"1:3<2 2:2<1", 9, true, "2:2<1 20:5<5", 21, 1}, {"1:3<2 2:5<4", 9, true, "", 22, 3}, {"1:3<2 2:5<4!", 9, true, "2:5<4! 20:5<5", 21, 1},
		{"2:5<4 7:5<5", 9, true, "", 21, 2}, {"2:5<4 7:5<5 9:5<4", 9, true, "9:5<4", 21, 2},
		// The first that is Ready isn't the first one: at a join, at a Work, Stuck.
		{"1:5<4 2:2<1 3:6<6! 4:6<6 5:3<2", 1, false, "1:5<4 2:2<1 3:6<6! 5:3<2! 20:7<8!", 21, 1}, {"1:5<4 2:2<1 3:6<6! 4:6<6 5:3<2", 2, false, "1:5<4! 2:2<1 3:6<6! 20:7<8! 21:5<5", 22, 2},
		// Of a join the least alone is Ready, and gets Stuck; the others stay as they were.
		{"1:5<4 2:5<5 3:5<4 4:5<5", 0, false, "1:5<4! 2:5<5 3:5<4 4:5<5", 20, 0}, {"1:5<4 2:5<5 3:5<4 4:5<5", 1, false, "3:5<4! 4:5<5 20:7<7!", 21, 1},
		{"1:7<7 2:7<7 3:7<8", 0, false, "1:7<7! 2:7<7! 3:7<8!", 20, 0}, {"1:7<7 2:7<7 3:7<8", 2, false, "3:7<8!", 20, 2}, {"1:7<7 2:7<7 3:7<8", 3, true, "", 20, 3},
		// At no node: never Ready.
		{"1:-1<0 2:8<0 3:99<0 4:0<-1", 1, false, "1:-1<0 2:8<0 3:99<0 20:1<0!", 21, 1},
	} {
		r := on(p, c.l, 20)
		if is := r.Run(c.most); is != c.is {
			t.Errorf("%d: %s: %t", k, c.l, is)
		}
		if s := amiss(r, c.want, c.next, c.moves, ""); s != "" {
			t.Errorf("%d: %s: %s", k, c.l, s)
		}
	}
}

// Each time around the ring one more waits: with as many as may be the fork errs, and that move is counted, too.
func TestRunOfTooMany(t *testing.T) {
	p := of(t, "0>1 1>2 2>1 2>3 3>4", plain(api.Start), plain(api.Exclusive), plain(api.Parallel), working(), plain(api.End))
	r := New(p, some())
	if !r.Run(api.MaxMoves) || r.Moves != 1+2*api.MaxTokens || len(r.Waits()) != api.MaxTokens-1 || len(r.Stuck()) != 1 || r.Stuck()[0].Node != 2 {
		t.Errorf("%d moves, %s", r.Moves, say(r.Tokens))
	}
	// One more goes on its way: there's room again, but who is Stuck stays so.
	if !r.Go(r.Waits()[0].ID, 4) || !r.Run(9) || r.Moves != 2+2*api.MaxTokens || len(r.Waits()) != api.MaxTokens-2 || len(r.Stuck()) != 1 {
		t.Errorf("%d moves, %s", r.Moves, say(r.Tokens))
	}
}

func TestRunToAFailure(t *testing.T) {
	p := of(t, "0>1 1>2 1>3 1>4 2>5 3>5", plain(api.Start), plain(api.Parallel), working(), plain(api.Exclusive), failing("bad"), plain(api.End))
	for _, c := range []struct {
		most  int
		is    bool
		want  string
		next  int
		moves int
		code  string
	}{
		{3, false, "3:2<1 5:4<3! 6:5<5!", 7, 3, ""}, {4, true, "", 7, 4, "bad"}, {5, true, "", 7, 4, "bad"}, {math.MaxInt, true, "", 7, 4, "bad"},
	} {
		r := New(p, nil)
		if is := r.Run(c.most); is != c.is {
			t.Errorf("%d: %t", c.most, is)
		}
		if s := amiss(r, c.want, c.next, c.moves, c.code); s != "" || r.Done() != (c.want == "") {
			t.Errorf("%d: done %t: %s", c.most, r.Done(), s)
		}
		if !r.Run(9) || r.Failed != c.code {
			t.Errorf("%d: again: failed %s", c.most, r.Failed)
		}
	}
	// Of two the one that is stepped first; who waits, or is Stuck, is gone, too.
	q := of(t, "0>1 1>2 1>3 1>4 4>3", plain(api.Start), plain(api.Parallel), failing("two"), failing("three"), working())
	for _, c := range []struct{ l, code string }{{"1:0<-1", "two"}, {"1:3<2 2:2<1", "three"}, {"1:2<1! 2:3<2 3:4<3", "three"}, {"1:4<3 2:0<-1! 3:2<1", "two"}} {
		r := on(q, c.l, 9)
		if !r.Run(9) || !r.Done() || r.Failed != c.code {
			t.Errorf("%s: %s, failed %s", c.l, say(r.Tokens), r.Failed)
		}
	}
	if r := on(q, "1:2<1! 2:3<2! 3:4<3", 9); !r.Run(9) || r.Failed != "" || r.Done() {
		t.Errorf("stuck at a Failure: %s, failed %s", say(r.Tokens), r.Failed)
	}
}

func TestRunLeavesABoardThatWasTaken(t *testing.T) {
	for _, most := range []int{0, 1, 2, 9} {
		r := New(fork(t), some())
		ahead, l := r.Board, slices.Clone(r.Tokens)
		r.Run(most)
		if !slices.Equal(ahead.Tokens, l) {
			t.Errorf("%d: %s", most, say(ahead.Tokens))
		}
	}
}

// P9.1: Done, Waits, Stuck

func TestDoneWaitsStuck(t *testing.T) {
	for k, c := range []struct{ l, waits, stuck string }{
		{"", "", ""}, {"1:0<-1", "", ""}, {"1:2<1", "1:2<1", ""}, {"1:2<1!", "", "1:2<1!"}, {"1:4<3!", "", "1:4<3!"}, {"1:6<7", "", ""},
		{"1:2<1 2:3<2! 3:4<3 4:5<4 5:3<2 6:0<-1! 7:2<1! 8:2<1", "1:2<1 5:3<2 8:2<1", "2:3<2! 6:0<-1! 7:2<1!"}, {"8:3<2 2:3<2 5:2<1! 1:2<1!", "8:3<2 2:3<2", "5:2<1! 1:2<1!"},
		{"1:-1<0 2:7<0 3:99<0 4:-1<0! 5:7<0! 6:2<99", "6:2<99", "4:-1<0! 5:7<0!"},
	} {
		r := on(fork(t), c.l, 30)
		if got := say(r.Waits()); got != c.waits {
			t.Errorf("%d: %s: waits %s", k, c.l, got)
		}
		if got := say(r.Stuck()); got != c.stuck {
			t.Errorf("%d: %s: stuck %s", k, c.l, got)
		}
		if r.Done() != (c.l == "") {
			t.Errorf("%d: %s: done %t", k, c.l, r.Done())
		}
		if s := amiss(r, c.l, 30, 0, ""); s != "" {
			t.Errorf("%d: %s", k, s)
		}
	}
	r := New(line(t), nil)
	if !r.Run(9) || r.Done() || !r.Go(2, 1) || r.Done() || !r.Run(9) || !r.Done() {
		t.Errorf("%s: done %t", say(r.Tokens), r.Done())
	}
}

// spoil writes over all of l's memory, its spare room too.
func spoil[T any](l []T) {
	var none T
	l = l[:cap(l)]
	for k := range l {
		l[k] = none
	}
}

func TestWaitsAndStuckHandOutNewMemory(t *testing.T) {
	const all, waits, stuck = "1:2<1 2:3<2! 3:4<3 4:2<1 5:3<2 6:4<3! 7:2<1!", "1:2<1 4:2<1 5:3<2", "2:3<2! 6:4<3! 7:2<1!"
	r := on(fork(t), all, 9)
	first, second := r.Waits(), r.Stuck()
	spoil(r.Waits())
	spoil(r.Stuck())
	if say(first) != waits || say(second) != stuck || say(r.Tokens) != all || say(r.Waits()) != waits || say(r.Stuck()) != stuck {
		t.Errorf("%s; %s; %s", say(first), say(second), say(r.Tokens))
	}
	r.Go(4, 4)
	if say(first) != waits {
		t.Errorf("the Runner shows: %s", say(first))
	}
}

// P9.1: Go

func TestGo(t *testing.T) {
	p := of(t, "0>1 1>2 1>3 2>4 2>5 3>5 1>5 5>6", plain(api.Start), plain(api.Parallel), catching(4), working(), plain(api.End), plain(api.Exclusive), plain(api.End))
	const all = "2:2<1 4:3<2 5:2<1! 6:5<6 7:0<-1 8:1<0 9:4<3 10:-1<0 11:7<0"
	for k, c := range []struct {
		id, flow int
		is       bool
		want     string
	}{
		{2, 3, true, "4:3<2 5:2<1! 6:5<6 7:0<-1 8:1<0 9:4<3 10:-1<0 11:7<0 20:4<3"}, {2, 4, true, "4:3<2 5:2<1! 6:5<6 7:0<-1 8:1<0 9:4<3 10:-1<0 11:7<0 20:5<4"},
		{4, 5, true, "2:2<1 5:2<1! 6:5<6 7:0<-1 8:1<0 9:4<3 10:-1<0 11:7<0 20:5<5"},
		// Stuck or not isn't asked; what comes of it is not Stuck.
		{5, 4, true, "2:2<1 4:3<2 6:5<6 7:0<-1 8:1<0 9:4<3 10:-1<0 11:7<0 20:5<4"},
		// No such token.
		{0, 3, false, all}, {1, 3, false, all}, {3, 3, false, all}, {12, 3, false, all}, {20, 3, false, all}, {-2, 3, false, all}, {math.MaxInt, 3, false, all}, {math.MinInt, 3, false, all},
		// It stands at no Work.
		{6, 7, false, all}, {7, 0, false, all}, {8, 1, false, all}, {8, 6, false, all}, {9, 3, false, all}, {10, 0, false, all}, {11, 0, false, all},
		// The flow doesn't lead from there, or is none.
		{2, 1, false, all}, {2, 5, false, all}, {2, 0, false, all}, {2, 7, false, all}, {4, 3, false, all}, {4, 4, false, all}, {4, 2, false, all}, {5, 5, false, all},
		{2, -1, false, all}, {2, 8, false, all}, {2, math.MaxInt, false, all}, {2, math.MinInt, false, all},
	} {
		r := on(p, all, 20)
		next := 20
		if c.is {
			next = 21
		}
		if is := r.Go(c.id, c.flow); is != c.is {
			t.Errorf("%d: %d along %d: %t", k, c.id, c.flow, is)
		}
		if s := amiss(r, c.want, next, 0, ""); s != "" || !samePlan(r.Board, p, some()) {
			t.Errorf("%d: %d along %d: %s", k, c.id, c.flow, s)
		}
		// Once only.
		if c.is && (r.Go(c.id, c.flow) || amiss(r, c.want, next, 0, "") != "") {
			t.Errorf("%d: twice: %s", k, say(r.Tokens))
		}
	}
}

func TestGoOfNothing(t *testing.T) {
	for _, r := range []*Runner{New(api.Process{}, nil), Runs(api.Instance{}, api.Process{}), Runs(api.Instance{Tokens: tokens("1:0<0")}, api.Process{Flows: []api.Flow{{From: 0, To: 0}}}), on(line(t), "", 1)} {
		if r.Go(0, 0) || r.Go(1, 0) || r.Go(1, 1) || r.Go(1, -1) {
			t.Errorf("%v", r)
		}
	}
}

func TestGoBetweenRuns(t *testing.T) {
	r := New(fork(t), some())
	steps := []struct {
		id, flow, most int
		want           string
		next, moves    int
	}{{4, 5, 0, "3:2<1 6:5<6 7:5<5", 8, 3}, {3, 4, 9, "", 10, 5}}
	if !r.Run(9) || amiss(r, "3:2<1 4:3<2 6:5<6", 7, 3, "") != "" {
		t.Fatal(say(r.Tokens))
	}
	for _, c := range steps {
		if !r.Go(c.id, c.flow) || !r.Run(c.most) {
			t.Errorf("%v: no", c)
		}
		if s := amiss(r, c.want, c.next, c.moves, ""); s != "" {
			t.Errorf("%v: %s", c, s)
		}
	}
	if !r.Done() || r.Failed != "" {
		t.Errorf("%s, failed %s", say(r.Tokens), r.Failed)
	}
	// A Work that comes to itself again needs no Run between.
	self := of(t, "0>1 1>1 1>2", plain(api.Start), catching(1), plain(api.End))
	r = New(self, nil)
	r.Run(9)
	if !r.Go(2, 1) || !r.Go(3, 1) || amiss(r, "4:1<1", 5, 1, "") != "" || !r.Go(4, 2) || !r.Run(9) || amiss(r, "", 6, 2, "") != "" {
		t.Errorf("%s", say(r.Tokens))
	}
}

func TestGoLeavesABoardThatWasTaken(t *testing.T) {
	r := on(fork(t), "1:2<1 2:3<2! 3:3<2", 9)
	ahead, l := r.Board, slices.Clone(r.Tokens)
	if !r.Go(1, 4) || !slices.Equal(ahead.Tokens, l) {
		t.Errorf("%s", say(ahead.Tokens))
	}
}

// P9.2: Runs

func TestRuns(t *testing.T) {
	for k, c := range []struct {
		i api.Instance
		p api.Process
	}{
		{api.Instance{}, line(t)}, {api.Instance{}, api.Process{}},
		{api.Instance{ID: 7, Process: 2, State: api.Live, Vars: some(), Tokens: tokens("3:1<0 5:2<1! 8:0<-1"), Next: 11}, line(t)},
		// How it was tells nothing of how it goes on.
		{api.Instance{ID: 7, State: api.Failed, Code: "bad", Vars: some(), Next: 4}, line(t)}, {api.Instance{State: api.Done, Tokens: tokens("1:0<-1"), Next: 2}, fork(t)}, {api.Instance{State: -9, Code: "?", Tokens: tokens("1:-9<-9! 1:99<99"), Next: -4}, spin(t)},
	} {
		r := Runs(c.i, c.p)
		if s := amiss(r, say(c.i.Tokens), c.i.Next, 0, ""); s != "" || !samePlan(r.Board, c.p, c.i.Vars) {
			t.Errorf("%d: %s, %v", k, s, r.Board)
		}
	}
	// It goes on from there: with its variables, and with its Next.
	p := of(t, "0>1 1>2?n==2 1>3?true 2>3", plain(api.Start), plain(api.Exclusive), working(), plain(api.End))
	for _, c := range []struct {
		n    int64
		want string
	}{{2, "31:2<1"}, {3, ""}} {
		i := api.Instance{Vars: []api.Var{{Name: "n", Value: vars.Number(c.n)}}, Tokens: tokens("7:0<-1"), Next: 30}
		if r := Runs(i, p); !r.Run(9) || say(r.Tokens) != c.want || r.Next != 32 {
			t.Errorf("%d: %s, next %d", c.n, say(r.Tokens), r.Next)
		}
	}
}

func TestRunsKeepsNothingHandedIn(t *testing.T) {
	p, l, stand := fork(t), some(), tokens("2:0<-1 4:3<2")
	nodes, allNodes := room(p.Nodes, plain(api.End))
	flows, allFlows := room(p.Flows, api.Flow{From: 3, To: 6})
	more, allVars := room(l, api.Var{Name: "behind"})
	part, allTokens := room(stand, tokens("98:4<3 99:4<3")...)
	i := api.Instance{ID: 1, State: api.Live, Vars: more, Tokens: part, Next: 9}
	r := Runs(i, api.Process{Name: "p", Nodes: nodes, Flows: flows})
	still := Runs(i, api.Process{Name: "p", Nodes: nodes, Flows: flows})
	if r.Run(1) || say(r.Tokens) != "4:3<2 9:1<0!" || !r.Go(4, 5) {
		t.Errorf("%s", say(r.Tokens))
	}
	if say(allTokens) != "2:0<-1 4:3<2 98:4<3 99:4<3" || !slices.Equal(allNodes[:len(nodes)], p.Nodes) || !slices.Equal(allFlows[:len(flows)], p.Flows) || allFlows[len(flows)] != (api.Flow{From: 3, To: 6}) || !slices.Equal(allVars, append(some(), api.Var{Name: "behind"})) {
		t.Errorf("written over: %s, %v, %v, %v", say(allTokens), allNodes, allFlows, allVars)
	}
	spoil(allNodes)
	spoil(allFlows)
	spoil(allVars)
	spoil(allTokens)
	if s := amiss(r, "9:1<0! 10:5<5", 11, 1, ""); s != "" || !samePlan(r.Board, p, l) {
		t.Errorf("kept: %s, %v", s, r.Board)
	}
	if s := amiss(still, "2:0<-1 4:3<2", 9, 0, ""); s != "" || !samePlan(still.Board, p, l) {
		t.Errorf("kept: %s, %v", s, still.Board)
	}
	spoil(still.Tokens)
	if s := amiss(r, "9:1<0! 10:5<5", 11, 1, ""); s != "" {
		t.Errorf("shared: %s", s)
	}
}

// P9.2: Instance

// sameInstance tells whether a and b are the same in all that they hold.
func sameInstance(a, b api.Instance) bool {
	return a.ID == b.ID && a.Process == b.Process && a.State == b.State && a.Code == b.Code && slices.Equal(a.Vars, b.Vars) && slices.Equal(a.Tokens, b.Tokens) && a.Next == b.Next
}

func TestInstance(t *testing.T) {
	p := of(t, "0>1 1>2 1>3?n>9 2>4", plain(api.Start), plain(api.Inclusive), working(), failing("bad"), plain(api.End))
	before := []api.Instance{
		{}, {ID: 5, Process: 3, State: api.Live, Next: 2}, {ID: 6, State: api.Failed, Code: "old", Vars: []api.Var{{Name: "old"}}, Tokens: tokens("44:4<4"), Next: 99}, {ID: -1, Process: -1, State: api.Done, Code: "old"}, {State: 77},
	}
	more := []api.Var{{Name: "n", Value: vars.Number(10)}}
	for k, c := range []struct {
		l     string
		v     []api.Var
		most  int
		state int
		code  string
		left  string
		next  int
	}{
		{"1:0<-1", some(), 9, api.Live, "", "21:2<1", 22}, {"1:0<-1!", some(), 9, api.Live, "", "1:0<-1!", 20}, {"1:0<-1", some(), 0, api.Live, "", "1:0<-1!", 20}, {"1:0<-1", nil, 9, api.Live, "", "20:1<0!", 21},
		{"1:4<3", some(), 9, api.Done, "", "", 20}, {"", some(), 9, api.Done, "", "", 20}, {"", nil, 0, api.Done, "", "", 20}, {"1:4<3 2:2<1", some(), 9, api.Live, "", "2:2<1", 20},
		{"1:0<-1", more, 9, api.Failed, "bad", "", 23}, {"1:3<2 2:2<1", some(), 9, api.Failed, "bad", "", 20}, {"1:3<2 2:2<1", some(), 0, api.Live, "", "1:3<2! 2:2<1", 20},
	} {
		for _, i := range before {
			r := Runs(api.Instance{ID: 70, Process: 71, State: 72, Code: "no", Vars: c.v, Tokens: tokens(c.l), Next: 20}, p)
			r.Run(c.most)
			want := api.Instance{ID: i.ID, Process: i.Process, State: c.state, Code: c.code, Vars: c.v, Tokens: tokens(c.left), Next: c.next}
			for range 2 {
				if got := r.Instance(i); !sameInstance(got, want) {
					t.Errorf("%d: %v: %v, not %v", k, i, got, want)
				}
			}
		}
	}
	// Before anything, and there and back.
	i := api.Instance{ID: 4, Process: 1, State: api.Live, Vars: some(), Tokens: tokens("3:2<1 5:1<0!"), Next: 8}
	if got := Runs(i, p).Instance(i); !sameInstance(got, i) {
		t.Errorf("%v", got)
	}
	if got := New(p, some()).Instance(api.Instance{ID: 2}); !sameInstance(got, api.Instance{ID: 2, State: api.Live, Vars: some(), Tokens: tokens("1:0<-1"), Next: 2}) {
		t.Errorf("%v", got)
	}
}

func TestInstanceHandsOutNewMemory(t *testing.T) {
	vary, allVars := room([]api.Var{{Name: "old"}}, api.Var{Name: "behind"})
	stand, allTokens := room(tokens("7:7<7"), tokens("8:8<8")...)
	i := api.Instance{ID: 1, State: api.Done, Vars: vary, Tokens: stand, Next: 5}
	r := on(fork(t), "3:2<1 5:4<3!", 8)
	want := api.Instance{ID: 1, State: api.Live, Vars: some(), Tokens: tokens("3:2<1 5:4<3!"), Next: 8}
	first := r.Instance(i)
	second := r.Instance(i)
	spoil(second.Vars)
	spoil(second.Tokens)
	if !sameInstance(first, want) || amiss(r, "3:2<1 5:4<3!", 8, 0, "") != "" || !samePlan(r.Board, fork(t), some()) || !sameInstance(r.Instance(i), want) {
		t.Errorf("%v, %v", first, r.Board)
	}
	r.Go(3, 4)
	if !sameInstance(first, want) {
		t.Errorf("the Runner shows: %v", first)
	}
	if allVars[0].Name != "old" || allVars[1].Name != "behind" || say(allTokens) != "7:7<7 8:8<8" || i.State != api.Done || i.Next != 5 {
		t.Errorf("written over: %v, %v", allVars, allTokens)
	}
}
