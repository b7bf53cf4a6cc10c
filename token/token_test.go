package token

import (
	"math"
	"slices"
	"strconv"
	"strings"
	"testing"

	"leasehold/api"
	"leasehold/process"
	"leasehold/vars"
)

// plain is a node of which nothing is asked but its Kind.
func plain(kind int) api.Node { return api.Node{Kind: kind, Default: -1, To: -1} }

// choosing is a node with a Default.
func choosing(kind, way int) api.Node {
	n := plain(kind)
	n.Default = way
	return n
}

// working is a Work.
func working() api.Node {
	return api.Node{Kind: api.Work, Topic: "paint", Retries: 1, Default: -1, To: -1}
}

// failing is a Failure.
func failing(code string) api.Node {
	n := plain(api.Failure)
	n.Code = code
	return n
}

// of is a process of nodes, with a flow for each word of ends: 1>2, or 1>2?cond with _ for blanks.
func of(t *testing.T, ends string, nodes ...api.Node) api.Process {
	t.Helper()
	p := api.Process{Name: "p", Nodes: nodes}
	for _, word := range strings.Fields(ends) {
		ways, c, _ := strings.Cut(word, "?")
		from, to, _ := strings.Cut(ways, ">")
		p.Flows = append(p.Flows, api.Flow{From: number(from), To: number(to), Cond: strings.ReplaceAll(c, "_", " ")})
	}
	if err := process.Check(p); err != nil {
		t.Fatal(err)
	}
	return p
}

// number is that of the text s.
func number(s string) int {
	n, err := strconv.Atoi(s)
	if err != nil {
		panic(err)
	}
	return n
}

// board is one of p, with a token for each word of s but the last, which is Next: 3:1<4 has ID 3, stands at node 1, came by flow 4; a ! behind it: it is Stuck. Variable n is 2.
func board(p api.Process, s string) Board {
	b := Board{P: p, Vars: []api.Var{{Name: "n", Value: vars.Number(2)}}}
	words := strings.Fields(s)
	for _, word := range words[:len(words)-1] {
		rest, stuck := strings.CutSuffix(word, "!")
		id, rest, _ := strings.Cut(rest, ":")
		node, in, _ := strings.Cut(rest, "<")
		b.Tokens = append(b.Tokens, api.Token{ID: number(id), Node: number(node), In: number(in), Stuck: stuck})
	}
	b.Next = number(words[len(words)-1])
	return b
}

// say is what board reads of b.
func say(b Board) string {
	var words []string
	for _, t := range b.Tokens {
		word := strconv.Itoa(t.ID) + ":" + strconv.Itoa(t.Node) + "<" + strconv.Itoa(t.In)
		if t.Stuck {
			word += "!"
		}
		words = append(words, word)
	}
	return strings.Join(append(words, strconv.Itoa(b.Next)), " ")
}

// ready is the IDs of the tokens that are Ready.
func ready(b Board) string {
	var words []string
	for k, t := range b.Tokens {
		if Ready(b, k) {
			words = append(words, strconv.Itoa(t.ID))
		}
	}
	return strings.Join(words, " ")
}

// crowd is n tokens at that node, that came by that flow, with IDs from id on.
func crowd(n, id, node, in int) string {
	s := ""
	for k := range n {
		s += strconv.Itoa(id+k) + ":" + strconv.Itoa(node) + "<" + strconv.Itoa(in) + " "
	}
	return s
}

// deep is b in memory of its own.
func deep(b Board) Board {
	b.P.Nodes, b.P.Flows = slices.Clone(b.P.Nodes), slices.Clone(b.P.Flows)
	b.Vars, b.Tokens = slices.Clone(b.Vars), slices.Clone(b.Tokens)
	return b
}

// sameBoard tells whether a and b are the same in all that they hold.
func sameBoard(a, b Board) bool {
	return samePlan(a, b) && slices.Equal(a.Tokens, b.Tokens) && a.Next == b.Next
}

// samePlan tells whether a and b have the same process and variables.
func samePlan(a, b Board) bool {
	return a.P.Name == b.P.Name && slices.Equal(a.P.Nodes, b.P.Nodes) && slices.Equal(a.P.Flows, b.P.Flows) && slices.Equal(a.Vars, b.Vars)
}

// roomy is b with spare room behind its lists, in which something stands, and all of that memory.
func roomy(b Board) (part, all Board) {
	all = deep(b)
	all.P.Nodes = append(all.P.Nodes, plain(api.End), plain(api.Parallel))
	all.P.Flows = append(all.P.Flows, api.Flow{From: 1, To: 1}, api.Flow{From: 2, To: 1}, api.Flow{From: 1, To: 2})
	all.Vars = append(all.Vars, api.Var{Name: "behind"}, api.Var{Name: "miss", Value: vars.Flag(true)})
	all.Tokens = append(all.Tokens, api.Token{ID: -5, Node: 1, In: 0}, api.Token{ID: 99, Node: 2, In: 1}, api.Token{ID: 100})
	part = all
	part.P.Nodes, part.P.Flows = all.P.Nodes[:len(b.P.Nodes)], all.P.Flows[:len(b.P.Flows)]
	part.Vars, part.Tokens = all.Vars[:len(b.Vars)], all.Tokens[:len(b.Tokens)]
	return part, all
}

// scribble writes over all of b's memory, its spare room too.
func scribble(b Board) {
	for k := range b.P.Nodes[:cap(b.P.Nodes)] {
		b.P.Nodes[:cap(b.P.Nodes)][k] = api.Node{Kind: 77}
	}
	for k := range b.P.Flows[:cap(b.P.Flows)] {
		b.P.Flows[:cap(b.P.Flows)][k] = api.Flow{Cond: "scribbled"}
	}
	for k := range b.Vars[:cap(b.Vars)] {
		b.Vars[:cap(b.Vars)][k] = api.Var{Name: "scribbled"}
	}
	for k := range b.Tokens[:cap(b.Tokens)] {
		b.Tokens[:cap(b.Tokens)][k] = api.Token{ID: 77, Node: 77, In: 77}
	}
}

// line is a Start, a Work, an End.
func line(t *testing.T) api.Process {
	return of(t, "0>1 1>2", plain(api.Start), working(), plain(api.End))
}

// P8.1: Put

func TestPut(t *testing.T) {
	for k, c := range []struct {
		b      string
		tokens string
		want   string
	}{
		{"1", "0", "1"}, {"1:0<-1 2", "0", "1:0<-1 2"}, {"1", "5:0<-1 0", "1:0<-1 2"},
		{"1:0<-1 2", "7:1<0 0", "1:0<-1 2:1<0 3"}, {"1:1<0 3:1<0! 8", "2:2<1 1:1<0! 2:0<5 0", "1:1<0 3:1<0! 8:2<1 9:1<0! 10:0<5 11"},
		{"1:1<0 2", "1:1<0 1:1<0 0", "1:1<0 2:1<0 3:1<0 4"}, {"0", "0:0<0 0", "0:0<0 1"}, {"-2", "9:1<0 9:1<0 9:1<0 0", "-2:1<0 -1:1<0 0:1<0 1"},
		{"4", "1:-9<-9! 2:99<99 0", "4:-9<-9! 5:99<99 6"}, {"9000000000", "-4:0<0 0", "9000000000:0<0 9000000001"},
	} {
		b, more := board(line(t), c.b), board(line(t), c.tokens).Tokens
		got := Put(b, more...)
		if say(got) != c.want || !samePlan(got, b) || say(b) != c.b {
			t.Errorf("%d: %s, not %s; handed in %s", k, say(got), c.want, say(b))
		}
	}
	if got := Put(Board{}); !sameBoard(got, Board{}) {
		t.Errorf("nothing on nothing: %v", got)
	}
	if got := Put(Board{}, api.Token{ID: 3, Node: 4, In: 5}); say(got) != "0:4<5 1" {
		t.Errorf("on nothing: %s", say(got))
	}
}

func TestPutOfItsOwnTokens(t *testing.T) {
	b, _ := roomy(board(line(t), "1:1<0 2:2<1! 3"))
	if got := say(Put(b, b.Tokens...)); got != "1:1<0 2:2<1! 3:1<0 4:2<1! 5" || say(b) != "1:1<0 2:2<1! 3" {
		t.Errorf("%s, of %s", got, say(b))
	}
}

func TestPutOfMany(t *testing.T) {
	const many = 200000
	got := Put(Put(board(line(t), "1"), make([]api.Token, many)...), make([]api.Token, many)...)
	if len(got.Tokens) != 2*many || got.Next != 2*many+1 {
		t.Fatalf("%d tokens, next %d", len(got.Tokens), got.Next)
	}
	for k, x := range got.Tokens {
		if x.ID != k+1 {
			t.Fatalf("at %d ID %d", k, x.ID)
		}
	}
}

func TestPutLeavesWhatIsHandedIn(t *testing.T) {
	b, all := roomy(board(line(t), "1:1<0 2:2<1! 3"))
	before := deep(all)
	tokens := []api.Token{{ID: 8, Node: 1, In: 0}, {ID: 9, Node: 2, In: 1}, {ID: 10}}
	first := Put(b, tokens[:2]...)
	second := Put(b, tokens[:2]...)
	want := deep(second)
	scribble(first)
	if !sameBoard(all, before) || !sameBoard(second, want) {
		t.Errorf("written over: %v, %v", all, second)
	}
	if !slices.Equal(tokens, []api.Token{{ID: 8, Node: 1, In: 0}, {ID: 9, Node: 2, In: 1}, {ID: 10}}) {
		t.Errorf("the tokens are other ones: %v", tokens)
	}
	scribble(b)
	if !sameBoard(second, want) {
		t.Errorf("kept: %v", second)
	}
}

// P8.1: Along

func TestAlong(t *testing.T) {
	for k, c := range []struct {
		b        string
		at, flow int
		want     string
	}{
		{"1:1<0 2", 0, 1, "2:2<1 3"}, {"1:1<0 2:1<0 3", 0, 1, "2:1<0 3:2<1 4"}, {"1:1<0 2:1<0 3", 1, 1, "1:1<0 3:2<1 4"},
		{"1:1<0 4:0<-1 6:2<1 9", 1, 0, "1:1<0 6:2<1 9:1<0 10"}, {"1:0<-1 2", 0, 0, "2:1<0 3"},
		// Wherever the token stands, and whatever it is.
		{"1:0<-1 2", 0, 1, "2:2<1 3"}, {"1:2<1 2", 0, 0, "2:1<0 3"}, {"1:2<1! 2", 0, 1, "2:2<1 3"}, {"1:99<-7 2", 0, 0, "2:1<0 3"},
		{crowd(50, 1, 1, 0) + "51", 49, 1, crowd(49, 1, 1, 0) + "51:2<1 52"},
	} {
		b := board(line(t), c.b)
		got, err := Along(b, c.at, c.flow)
		if say(got) != c.want || err != nil || !samePlan(got, b) || say(b) != c.b {
			t.Errorf("%d: %s, %v, not %s; handed in %s", k, say(got), err, c.want, say(b))
		}
	}
}

func TestAlongOfNone(t *testing.T) {
	for _, c := range [][2]int{
		{-1, 0}, {2, 0}, {3, 0}, {0, -1}, {0, 2}, {0, 3}, {-1, -1}, {2, 2}, {math.MaxInt, 0}, {math.MinInt, 0}, {0, math.MaxInt}, {0, math.MinInt},
	} {
		b, all := roomy(board(line(t), "1:1<0 2:1<0 3"))
		before := deep(all)
		if got, err := Along(b, c[0], c[1]); !sameBoard(got, Board{}) || err != api.ErrRange || !sameBoard(all, before) {
			t.Errorf("%v: %v, %v", c, got, err)
		}
	}
	if got, err := Along(Board{}, 0, 0); !sameBoard(got, Board{}) || err != api.ErrRange {
		t.Errorf("of nothing: %v, %v", got, err)
	}
}

func TestAlongLeavesWhatIsHandedIn(t *testing.T) {
	b, all := roomy(board(line(t), "1:1<0 2:1<0 3:2<1! 4"))
	before := deep(all)
	first, _ := Along(b, 0, 1)
	second, _ := Along(b, 0, 1)
	want := deep(second)
	scribble(first)
	if !sameBoard(all, before) || !sameBoard(second, want) {
		t.Errorf("written over: %v, %v", all, second)
	}
	scribble(b)
	if !sameBoard(second, want) {
		t.Errorf("kept: %v", second)
	}
}

// P8.2: Ready

func TestReadyOfEachKind(t *testing.T) {
	p := of(t, "0>1 1>2 2>3 3>4 4>5 5>1 4>6 4>7 4>4", plain(api.Start), plain(api.Exclusive), plain(api.Inclusive), working(), plain(api.Parallel), working(), plain(api.End), failing("bad"))
	for k, c := range []struct{ b, want string }{
		{"1", ""}, {"1:0<-1 2", "1"}, {"1:1<0 2", "1"}, {"1:2<1 2", "1"}, {"1:3<2 2", ""}, {"1:4<3 2", ""}, {"1:5<4 2", ""}, {"1:6<6 2", "1"}, {"1:7<7 2", "1"},
		{"1:0<-1! 2", ""}, {"1:1<0! 2", ""}, {"1:2<1! 2", ""}, {"1:3<2! 2", ""}, {"1:4<3! 2", ""}, {"1:6<6! 2", ""}, {"1:7<7! 2", ""},
		{"1:0<-1 2:3<2 3:6<6! 4:6<6 5:1<5 6", "1 4 5"},
		// An Exclusive waits for nobody; nor does what has one of Ins alone.
		{"1:1<5 2:1<0 3:1<0 4", "1 2 3"}, {"1:1<5! 2:1<0 3", "2"}, {"1:2<1 2:2<1 3:1<0 4", "1 2 3"}, {"1:2<1! 2:2<1 3", "2"},
		// The ring of the Parallel itself is one of its Ins.
		{"1:4<3 2:4<8 3", "1"}, {"1:4<8 2:4<8 3", ""}, {"1:4<8! 2:4<3 3", ""},
	} {
		if got := ready(board(p, c.b)); got != c.want {
			t.Errorf("%d: %s: %q, not %q", k, c.b, got, c.want)
		}
	}
}

// joining is a gate of that Kind with two Works ahead of it, and an End behind; a gate parts them.
func joining(t *testing.T, kind int) api.Process {
	return of(t, "0>1 1>2 1>3 2>4 3>4 4>5", plain(api.Start), plain(kind), working(), working(), plain(kind), plain(api.End))
}

func TestReadyOfAParallel(t *testing.T) {
	for k, c := range []struct{ b, want string }{
		{"1:4<3 2", ""}, {"1:4<4 2", ""}, {"1:4<3 2:4<4 3", "1"}, {"1:4<4 2:4<3 3", "1"}, {"1:4<3 2:4<3 3", ""}, {"1:4<3 2:4<3 3:4<4 4", "1"},
		{"3:4<4 5:4<4 7:4<3 9", "3"}, {"1:4<3 2:3<2 3", ""}, {"1:4<3 2:4<4 3:2<1 4:3<2 5", "1"},
		// One that is Stuck stands there, too, but doesn't go on.
		{"1:4<3 2:4<4! 3", "1"}, {"1:4<3! 2:4<4 3", ""}, {"1:4<3! 2:4<4 3:4<3 4", ""}, {"1:4<3 2:4<3! 3:4<4! 4", "1"},
		// Of this node alone: another one that came by the flow is none.
		{"1:4<3 2:5<4 3", "2"}, {"1:4<3 2:2<4 3:5<5 4", "3"}, {"1:5<5 2:4<3 3:4<4 4", "1 2"},
		// One that came by none of Ins is the least of all that stand here.
		{"1:4<-1 2:4<3 3", ""}, {"1:4<-1 2:4<3 3:4<4 4", "1"}, {"1:4<3 2:4<-1 3:4<4 4", "1"},
		// Of one of Ins: each.
		{"1:1<0 2:1<0 3:4<3 4", "1 2"},
	} {
		if got := ready(board(joining(t, api.Parallel), c.b)); got != c.want {
			t.Errorf("%d: %s: %q, not %q", k, c.b, got, c.want)
		}
	}
	p := of(t, "0>1 1>2 1>2 1>3 2>3 2>3 3>4", plain(api.Start), plain(api.Parallel), plain(api.Parallel), plain(api.Parallel), plain(api.End))
	for k, c := range []struct{ b, want string }{{"1:3<3 2:3<4 3", ""}, {"1:3<3 2:3<4 3:3<5 4", "1"}, {"1:3<5 2:3<4 3:3<4 4:2<1 5", ""}, {"1:2<1 2:2<2 3", "1"}, {"1:2<2 2:2<2 3", ""}} {
		if got := ready(board(p, c.b)); got != c.want {
			t.Errorf("two flows between two, %d: %s: %q, not %q", k, c.b, got, c.want)
		}
	}
}

func TestReadyOfAnInclusive(t *testing.T) {
	for k, c := range []struct{ b, want string }{
		{"1:4<3 2", "1"}, {"1:4<4 2", "1"}, {"1:4<3 2:4<4 3", "1"}, {"1:4<4 2:4<4 3:4<3 4", "1"}, {"1:4<-1 2", "1"},
		// Nobody else can come any more; one that is Stuck could.
		{"1:4<3 2:3<2 3", ""}, {"1:2<1 2:4<4 3", ""}, {"1:4<3 2:1<0 3", "2"}, {"1:0<-1 2:4<3 3", "1"}, {"1:4<3 2:3<2! 3", ""}, {"1:4<3 2:0<-1! 3", ""},
		{"1:4<3 2:5<5 3", "1 2"}, {"1:5<5! 2:4<3 3", "2"}, {"1:4<3 2:4<4 3:2<1 4", ""},
		{"1:4<3! 2:4<4 3", ""}, {"1:4<3 2:4<4! 3", "1"},
		// One at no node can't come.
		{"1:4<3 2:-1<3 3:6<4 4:1000<0 5", "1"},
		// Of one of Ins: each, whoever comes.
		{"1:1<0 2:1<0 3:0<-1 4", "1 2 3"},
	} {
		if got := ready(board(joining(t, api.Inclusive), c.b)); got != c.want {
			t.Errorf("%d: %s: %q, not %q", k, c.b, got, c.want)
		}
	}
	// Behind the gate, in its ring: they can come again. A token of this node itself could, too, but it is of no other node.
	p := of(t, "0>1 1>2 2>3 3>1 3>4", plain(api.Start), plain(api.Inclusive), working(), plain(api.Exclusive), plain(api.End))
	for k, c := range []struct{ b, want string }{{"1:1<0 2", "1"}, {"1:1<0 2:1<3 3", "1"}, {"1:1<0 2:2<1 3", ""}, {"1:3<2 2:1<0 3", "1"}, {"1:1<0 2:4<4 3", "1 2"}} {
		if got := ready(board(p, c.b)); got != c.want {
			t.Errorf("in a ring, %d: %s: %q, not %q", k, c.b, got, c.want)
		}
	}
}

func TestReadyOfNoToken(t *testing.T) {
	b, all := roomy(board(line(t), "1:0<-1 2:2<1 3"))
	before := deep(all)
	for _, at := range []int{-1, -2, 2, 3, 4, 100, math.MaxInt, math.MinInt} {
		if Ready(b, at) {
			t.Errorf("%d", at)
		}
	}
	if !sameBoard(all, before) || Ready(Board{}, 0) || Ready(Board{}, -1) {
		t.Error("of nothing, or written over")
	}
	// At no node.
	for _, node := range []int{-1, 3, 4, math.MaxInt, math.MinInt} {
		b.Tokens[0].Node = node
		if Ready(b, 0) || !Ready(b, 1) {
			t.Errorf("at %d", node)
		}
	}
}

// P8.2: Step

// stepCase is a step of the token at a place, and what it has to come to.
type stepCase struct {
	b      string
	at     int
	want   string
	failed string
	err    error
}

// checkSteps checks each of l on p.
func checkSteps(t *testing.T, p api.Process, l []stepCase) {
	t.Helper()
	for k, c := range l {
		b := board(p, c.b)
		got, m, err := Step(b, c.at)
		if say(got) != c.want || m != (Move{Moved: c.err == nil, Failed: c.failed}) || err != c.err {
			t.Errorf("%d: %s at %d: %s, %v, %v, not %s, %v", k, c.b, c.at, say(got), m, err, c.want, c.err)
		}
		if !samePlan(got, b) || say(b) != c.b {
			t.Errorf("%d: %s at %d: the plan is another one, or what was handed in: %s", k, c.b, c.at, say(b))
		}
	}
}

func TestStepOfStartAndEnds(t *testing.T) {
	p := of(t, "0>1 1>2 1>3 1>4 4>2", plain(api.Start), plain(api.Parallel), plain(api.End), failing("wet"), working())
	checkSteps(t, p, []stepCase{
		{"1:0<-1 2", 0, "2:1<0 3", "", nil}, {"1:0<-1 2:0<-1 3:4<3 7", 1, "1:0<-1 3:4<3 7:1<0 8", "", nil},
		{"1:2<1 2", 0, "2", "", nil}, {"1:4<3 2:2<1 3:2<4! 4", 1, "1:4<3 3:2<4! 4", "", nil}, {"1:2<1 2:2<1 3", 1, "1:2<1 3", "", nil},
		{"1:3<2 2", 0, "2", "wet", nil}, {"1:4<3 2:3<2 3:2<1! 4:0<-1 5", 1, "5", "wet", nil}, {"1:3<2! 2:3<2 3", 1, "3", "wet", nil},
	})
}

func TestStepOfWhatIsNotReady(t *testing.T) {
	p := joining(t, api.Parallel)
	checkSteps(t, p, []stepCase{
		{"1:2<1 2", 0, "1:2<1 2", "", api.ErrRange}, {"1:0<-1! 2", 0, "1:0<-1! 2", "", api.ErrRange}, {"1:4<3 2", 0, "1:4<3 2", "", api.ErrRange},
		{"1:4<3 2:4<4 3", 1, "1:4<3 2:4<4 3", "", api.ErrRange}, {"1:4<3! 2:4<4 3", 1, "1:4<3! 2:4<4 3", "", api.ErrRange},
		{"1:0<-1 2", -1, "1:0<-1 2", "", api.ErrRange}, {"1:0<-1 2", 1, "1:0<-1 2", "", api.ErrRange}, {"1", 0, "1", "", api.ErrRange},
		{"1:0<-1 2", math.MaxInt, "1:0<-1 2", "", api.ErrRange}, {"1:0<-1 2", math.MinInt, "1:0<-1 2", "", api.ErrRange},
		{"1:-1<0 2", 0, "1:-1<0 2", "", api.ErrRange}, {"1:6<0 2", 0, "1:6<0 2", "", api.ErrRange},
		{crowd(45, 1, 2, 1) + "46", 0, crowd(45, 1, 2, 1) + "46", "", api.ErrRange},
	})
	checkSteps(t, joining(t, api.Inclusive), []stepCase{
		{"1:4<3 2:2<1 3", 0, "1:4<3 2:2<1 3", "", api.ErrRange}, {"1:4<3 2:4<4 3", 1, "1:4<3 2:4<4 3", "", api.ErrRange},
	})
	if got, m, err := Step(Board{}, 0); !sameBoard(got, Board{}) || m != (Move{}) || err != api.ErrRange {
		t.Errorf("of nothing: %v, %v, %v", got, m, err)
	}
}

func TestStepOfAnExclusive(t *testing.T) {
	for k, c := range []struct {
		flows string
		other int
		want  string
		err   error
	}{
		// The first that holds; an empty one does.
		{"1>2?true 1>3?true", -1, "2:2<1 3", nil}, {"1>2?false 1>3?n_==_2", -1, "2:3<2 3", nil}, {"1>2 1>3", -1, "2:2<1 3", nil}, {"1>2?n_>_2 1>3", -1, "2:3<2 3", nil},
		{"1>3?false 1>2?n_<_3", 1, "2:2<2 3", nil}, {"1>3?not_true 1>3?1_>_2 1>2?n_>_1 1>3?true", -1, "2:2<3 3", nil},
		// The Default isn't looked at, but taken where none holds.
		{"1>2?true 1>3?true", 1, "2:3<2 3", nil}, {"1>2 1>3?false", 1, "2:2<1 3", nil}, {"1>2?false 1>3?false", 1, "2:2<1 3", nil}, {"1>2?false 1>3?false", 2, "2:3<2 3", nil},
		{"1>2?miss 1>3?false", 1, "2:2<1 3", nil}, {"1>2?false 1>3?n", 2, "2:3<2 3", nil}, {"1>2?n 1>3?true", 1, "2:3<2 3", nil},
		{"1>2?false 1>3?false", -1, "1:1<0! 2", api.ErrStuck}, {"1>2?n_>_2 1>3?n_<_2 1>2?n_!=_2", -1, "1:1<0! 2", api.ErrStuck},
		// What a Cond tells; not one behind that which holds.
		{"1>2?miss 1>3", -1, "1:1<0! 2", api.ErrNone}, {"1>2?n 1>3", -1, "1:1<0! 2", api.ErrType}, {"1>2?n_/_0_==_1 1>3", -1, "1:1<0! 2", api.ErrZero},
		{"1>2?miss 1>3", 2, "1:1<0! 2", api.ErrNone}, {"1>2?true 1>3?miss", -1, "2:2<1 3", nil}, {"1>2?false 1>3?miss 1>2?n", -1, "1:1<0! 2", api.ErrNone}, {"1>2?n 1>3?miss", -1, "1:1<0! 2", api.ErrType},
		// One alone is taken whatever it says.
		{"1>2", -1, "2:2<1 3", nil}, {"1>2?false", -1, "2:2<1 3", nil}, {"1>2?miss", -1, "2:2<1 3", nil}, {"1>2?n", 1, "2:2<1 3", nil},
	} {
		nodes := []api.Node{plain(api.Start), choosing(api.Exclusive, c.other), plain(api.End)}
		if strings.Contains(c.flows, ">3") {
			nodes = append(nodes, plain(api.End))
		}
		b := board(of(t, "0>1 "+c.flows, nodes...), "1:1<0 2")
		if got, m, err := Step(b, 0); say(got) != c.want || m != (Move{Moved: c.err == nil}) || err != c.err || !samePlan(got, b) {
			t.Errorf("%d: %s, %d: %s, %v, %v, not %s, %v", k, c.flows, c.other, say(got), m, err, c.want, c.err)
		}
	}
	// Only the one that is stepped goes, and only it gets Stuck.
	p := of(t, "0>1 1>2?n_>_2 1>3 2>1 3>1?false 3>4?miss", plain(api.Start), plain(api.Exclusive), working(), plain(api.Exclusive), plain(api.End))
	checkSteps(t, p, []stepCase{
		{"1:1<0 2:1<3 3:2<1 4", 0, "2:1<3 3:2<1 4:3<2 5", "", nil}, {"1:1<0 2:1<3 3:2<1 4", 1, "1:1<0 3:2<1 4:3<2 5", "", nil}, {"1:1<0! 2:1<0 3", 1, "1:1<0! 3:3<2 4", "", nil},
		{"1:3<2 2:3<2 3:1<0 5", 1, "1:3<2 2:3<2! 3:1<0 5", "", api.ErrNone},
	})
}

func TestStepOfAParallel(t *testing.T) {
	checkSteps(t, joining(t, api.Parallel), []stepCase{
		{"1:1<0 2", 0, "2:2<1 3:3<2 4", "", nil}, {"1:0<-1 2:1<0 3:2<1 6", 1, "1:0<-1 3:2<1 6:2<1 7:3<2 8", "", nil},
		{"1:4<3 2:4<4 3", 0, "3:5<5 4", "", nil}, {"1:4<4 2:4<3 3", 0, "3:5<5 4", "", nil}, {"1:4<4 2:2<1 3:4<3 4", 0, "2:2<1 4:5<5 5", "", nil},
		// The least of each of Ins, Stuck or not; the others stay.
		{"1:4<3 2:4<3 3:4<4 4:4<4 5", 0, "2:4<3 4:4<4 5:5<5 6", "", nil}, {"1:4<4 2:4<4 3:4<4 4:4<3 9", 0, "2:4<4 3:4<4 9:5<5 10", "", nil},
		{"1:4<3 2:4<4! 3:4<4 4", 0, "3:4<4 4:5<5 5", "", nil}, {"1:4<3 2:4<4! 3:4<3! 4", 0, "3:4<3! 4:5<5 5", "", nil},
		// Those of other nodes stay, whatever they came by.
		{"1:5<3 2:4<3 3:2<4 4:4<4 5", 1, "1:5<3 3:2<4 5:5<5 6", "", nil},
		{"1:4<-1 2:4<3 3:4<4 4", 0, "1:4<-1 4:5<5 5", "", nil},
		// Of one of Ins, too: the least that stands here by it.
		{"1:1<0 2:1<0 3", 0, "2:1<0 3:2<1 4:3<2 5", "", nil}, {"1:1<0! 2:1<0 3", 1, "2:1<0 3:2<1 4:3<2 5", "", nil},
	})
	// More Outs, in order; and a flow that comes back.
	p := of(t, "0>1 1>3 1>2 2>1 1>1 1>2", plain(api.Start), plain(api.Parallel), working(), plain(api.End))
	p.Flows[5].To = 3
	checkSteps(t, p, []stepCase{{"1:1<0 2:1<4 3:1<3 4", 0, "4:3<1 5:2<2 6:1<4 7:3<5 8", "", nil}})
}

func TestStepOfAnInclusive(t *testing.T) {
	for k, c := range []struct {
		flows string
		other int
		want  string
		err   error
	}{
		{"1>2 1>2 1>2", -1, "2:2<1 3:2<2 4:2<3 5", nil}, {"1>2?true 1>2?false 1>2?n_==_2", -1, "2:2<1 3:2<3 4", nil}, {"1>2?false 1>2?false 1>2", -1, "2:2<3 3", nil},
		{"1>2 1>2 1>2", 2, "2:2<1 3:2<3 4", nil}, {"1>2 1>2?false 1>2?miss", 3, "2:2<1 3", nil}, {"1>2?false 1>2?false 1>2?miss", 3, "2:2<3 3", nil},
		{"1>2?false 1>2?n_<_1", 1, "2:2<1 3", nil}, {"1>2 1>2?false", 1, "2:2<1 3", nil}, {"1>2?false 1>2?false", -1, "1:1<0! 2", api.ErrStuck},
		// Each Cond is looked at: its error is the step's, the first one's.
		{"1>2 1>2?miss", -1, "1:1<0! 2", api.ErrNone}, {"1>2?n 1>2 1>2?miss", -1, "1:1<0! 2", api.ErrType}, {"1>2?false 1>2?false 1>2?n_%_0_>_1", 1, "1:1<0! 2", api.ErrZero},
		// One alone is looked at, too.
		{"1>2", -1, "2:2<1 3", nil}, {"1>2?n_>_1", -1, "2:2<1 3", nil}, {"1>2?false", -1, "1:1<0! 2", api.ErrStuck}, {"1>2?miss", -1, "1:1<0! 2", api.ErrNone}, {"1>2?miss", 1, "2:2<1 3", nil}, {"1>2?false", 1, "2:2<1 3", nil},
	} {
		p := of(t, "0>1 "+c.flows, plain(api.Start), choosing(api.Inclusive, c.other), plain(api.End))
		b := board(p, "1:1<0 2")
		if got, m, err := Step(b, 0); say(got) != c.want || m != (Move{Moved: c.err == nil}) || err != c.err || !samePlan(got, b) {
			t.Errorf("%d: %s, %d: %s, %v, %v, not %s, %v", k, c.flows, c.other, say(got), m, err, c.want, c.err)
		}
	}
	// All that stand here go, whatever they came by, Stuck or not; of an error all stay, and one alone is Stuck.
	checkSteps(t, joining(t, api.Inclusive), []stepCase{
		{"1:4<3 2:4<4 3", 0, "3:5<5 4", "", nil}, {"1:4<4 2:4<4 3:5<5 4:4<3! 5:4<-1 8", 0, "3:5<5 8:5<5 9", "", nil}, {"1:5<3 2:4<3 3", 1, "1:5<3 3:5<5 4", "", nil},
		{"1:1<0 2:2<1 3:1<0! 4:1<0 5", 3, "2:2<1 5:2<1 6:3<2 7", "", nil},
	})
	p := of(t, "0>1 1>2 1>2 2>3?n_>_2", plain(api.Start), plain(api.Parallel), plain(api.Inclusive), plain(api.End))
	checkSteps(t, p, []stepCase{{"1:3<3 2:2<1 3:2<2 4:2<1! 5", 1, "1:3<3 2:2<1! 3:2<2 4:2<1! 5", "", api.ErrStuck}})
}

func TestStepToTooMany(t *testing.T) {
	p := of(t, "0>1 1>2 1>2 1>2 2>3 2>3 3>4 3>5?miss 5>6", plain(api.Start), plain(api.Parallel), plain(api.Inclusive), choosing(api.Exclusive, 6), plain(api.End), working(), failing("many"))
	others := func(n, next int, more string) string {
		return strings.TrimSpace(crowd(n, 1, 5, 7)+more) + " " + strconv.Itoa(next)
	}
	checkSteps(t, p, []stepCase{
		// One comes to three: just as many as may be, and one too many.
		{others(37, 39, "38:1<0"), 37, others(37, 42, "39:2<1 40:2<2 41:2<3"), "", nil}, {others(38, 40, "39:1<0"), 38, others(38, 40, "39:1<0!"), "", api.ErrMany},
		{others(39, 41, "40:1<0"), 39, others(39, 41, "40:1<0!"), "", api.ErrMany},
		// Three come to two, one to two.
		{others(37, 41, "38:2<1 39:2<2 40:2<3"), 37, others(37, 43, "41:3<4 42:3<5"), "", nil},
		{others(38, 41, "39:2<1 40:2<1"), 38, others(38, 43, "41:3<4 42:3<5"), "", nil}, {others(39, 41, "40:2<1"), 39, others(39, 41, "40:2<1!"), "", api.ErrMany},
		{others(40, 43, "41:2<1 42:2<1"), 40, others(40, 43, "41:2<1! 42:2<1"), "", api.ErrMany},
		// One goes on, or goes: of those that are as many as may be, and of more.
		{others(39, 41, "40:0<-1"), 39, others(39, 42, "41:1<0"), "", nil}, {others(40, 42, "41:0<-1"), 40, others(40, 42, "41:0<-1!"), "", api.ErrMany},
		{others(40, 42, "41:4<6"), 40, others(40, 42, ""), "", nil}, {others(41, 43, "42:4<6"), 41, others(41, 43, "42:4<6!"), "", api.ErrMany},
		{others(60, 62, "61:6<8"), 60, "62", "many", nil},
		// What a Cond tells comes first.
		{others(40, 42, "41:3<4"), 40, others(40, 42, "41:3<4!"), "", api.ErrNone},
	})
}

func TestStepLeavesWhatIsHandedIn(t *testing.T) {
	p := of(t, "0>1 1>2 1>3 2>3 3>4 3>5?miss 5>6 3>6?false", plain(api.Start), plain(api.Parallel), plain(api.Exclusive), choosing(api.Inclusive, 4), plain(api.End), working(), failing("bad"))
	for _, s := range []string{"1:0<-1 2:5<5 3", "1:1<0 2:5<5 3", "1:2<1 2:3<2! 3", "1:3<3 2:3<2 3", "1:4<4 2:4<4 3", "1:6<6 2:5<5 3", "1:5<5 2:4<4 3", "1:4<4! 2", crowd(40, 1, 1, 0) + "41"} {
		for at := range 2 {
			b, all := roomy(board(p, s))
			before := deep(all)
			first, _, _ := Step(b, at)
			second, _, _ := Step(b, at)
			want := deep(second)
			scribble(first)
			if !sameBoard(all, before) || !sameBoard(second, want) {
				t.Errorf("%s at %d: written over: %v, %v", s, at, all, second)
			}
			scribble(b)
			if !sameBoard(second, want) {
				t.Errorf("%s at %d: kept: %v", s, at, second)
			}
		}
	}
}
