package process

import (
	"bytes"
	"math"
	"slices"
	"testing"

	"leasehold/api"
	"leasehold/num"
)

// P6.3

// wanted is a process's bytes as the chapter words them.
func wanted(p api.Process) []byte {
	b := num.PutText(nil, p.Name)
	b = num.Put(b, int64(len(p.Nodes)))
	for _, n := range p.Nodes {
		b = num.Put(b, int64(n.Kind))
		b = num.PutText(b, n.Topic)
		b = num.Put(b, int64(n.Priority))
		b = num.Put(b, int64(n.Retries))
		b = num.Put(b, int64(n.Default))
		b = num.PutText(b, n.Code)
		b = num.PutText(b, n.Catch)
		b = num.Put(b, int64(n.To))
	}
	b = num.Put(b, int64(len(p.Flows)))
	for _, f := range p.Flows {
		b = num.Put(b, int64(f.From))
		b = num.Put(b, int64(f.To))
		b = num.PutText(b, f.Cond)
	}
	return b
}

// filled is a node with something else in each field.
func filled() api.Node {
	return api.Node{Kind: 1, Topic: "t", Priority: 2, Retries: 3, Default: 4, Code: "c", Catch: "k", To: 5}
}

// edge is a node with each number n, and each text so long.
func edge(n, long int) api.Node {
	return api.Node{Kind: n, Topic: xs(long, "t"), Priority: n, Retries: n, Default: n, Code: xs(long, "c"), Catch: xs(long, "k"), To: n}
}

// processes are some to be put and taken back: of each edge that the chapter names.
func processes() []api.Process {
	return []api.Process{
		full(), wide(30, 60), wide(29, 59), wide(2, 1),
		// No checks are made: these go in and out as they stand.
		{}, {Name: "No Name"}, {Name: xs(24, "x")}, {Nodes: []api.Node{{}}}, {Flows: []api.Flow{{}}}, {Nodes: make([]api.Node, 30), Flows: make([]api.Flow, 60)},
		{Name: "\xff\x00", Nodes: []api.Node{filled(), edge(-1, 0), edge(1000, 24), edge(0, 23), edge(63, 1), edge(64, 2)}},
		{Name: "f", Flows: []api.Flow{{From: -1, To: 1000, Cond: xs(80, "?")}, {From: 1000, To: -1, Cond: "\x00"}, {From: 7, To: 8, Cond: xs(79, "\xff")}}},
	}
}

func TestPutOfKnownProcesses(t *testing.T) {
	for k, c := range []struct {
		p    api.Process
		want string
	}{
		{api.Process{}, "\x00\x00\x00"}, {api.Process{Nodes: []api.Node{}, Flows: []api.Flow{}}, "\x00\x00\x00"}, {api.Process{Name: "ab"}, "\x04ab\x00\x00"},
		{api.Process{Nodes: []api.Node{{}}}, "\x00\x02\x00\x00\x00\x00\x00\x00\x00\x00\x00"}, {api.Process{Flows: []api.Flow{{}}}, "\x00\x00\x02\x00\x00\x00"},
		{api.Process{Name: "p", Nodes: []api.Node{filled()}, Flows: []api.Flow{{From: 6, To: 7, Cond: "x"}}}, "\x02p\x02\x02\x02t\x04\x06\x08\x02c\x02k\x0a\x02\x0c\x0e\x02x"},
		{api.Process{Name: "q", Nodes: []api.Node{plain(2), work("yz")}, Flows: flows([2]int{1, 64}, [2]int{-1, 0})}, "\x02q\x04\x04\x00\x00\x00\x01\x00\x00\x01\x08\x04yz\x0a\x06\x01\x00\x00\x01\x04\x02\x80\x01\x00\x01\x00\x00"},
	} {
		if got := Put(nil, c.p); string(got) != c.want {
			t.Errorf("%d: %x, not %x", k, got, c.want)
		}
		if got := Put([]byte("ahead"), c.p); string(got) != "ahead"+c.want {
			t.Errorf("%d behind some: %x", k, got)
		}
	}
}

func TestPutOfEachProcess(t *testing.T) {
	unbound := []api.Process{wide(31, 61), {Name: xs(25, "x"), Nodes: []api.Node{edge(-2, 25), edge(1001, 300), edge(math.MaxInt, 0), edge(math.MinInt, 0)}}, {Flows: []api.Flow{{From: math.MinInt, To: math.MaxInt, Cond: xs(9000, "y")}}}}
	for k, p := range slices.Concat(processes(), unbound) {
		if got, want := Put([]byte{9, 0}, p), append([]byte{9, 0}, wanted(p)...); !bytes.Equal(got, want) {
			t.Errorf("%d: %x, not %x", k, got, want)
		}
	}
}

func TestPutOfVeryMany(t *testing.T) {
	const n = 150000
	p := api.Process{Name: "big", Nodes: slices.Repeat([]api.Node{filled()}, n), Flows: slices.Repeat([]api.Flow{{From: 6, To: 7, Cond: "x"}}, n)}
	want := slices.Concat([]byte("\x06big"), num.Put(nil, n), bytes.Repeat([]byte("\x02\x02t\x04\x06\x08\x02c\x02k\x0a"), n), num.Put(nil, n), bytes.Repeat([]byte("\x0c\x0e\x02x"), n))
	if got := Put(nil, p); !bytes.Equal(got, want) {
		t.Errorf("%d bytes, not %d, or other ones", len(got), len(want))
	}
}

func TestPutChangesNothingHandedIn(t *testing.T) {
	const text = "some, and spare room for a definition"
	for _, p := range processes() {
		b := []byte(text)
		part, all := roomy(p)
		before := copied(all)
		Put(b[:4], part)
		Put(b[:0], part)
		Put(b, part)
		if got := Put(nil, part); string(b) != text || !same(all, before) || !bytes.Equal(got, wanted(p)) {
			t.Errorf("%q: an argument is changed, or what lies behind it", p.Name)
		}
	}
}

func TestPutHandsOutNewMemory(t *testing.T) {
	const text = "some, and spare room for a definition"
	for _, p := range processes() {
		b := []byte(text)
		first, second := Put(b[:4], p), Put(b[:4], p)
		want := append([]byte("some"), wanted(p)...)
		third := Put(second, p)
		for _, x := range [][]byte{first, third} {
			x = x[:cap(x)]
			for k := range x {
				x[k] ^= 0xFF
			}
		}
		if string(b) != text || !bytes.Equal(second, want) {
			t.Errorf("%q: what Put hands out shares memory", p.Name)
		}
	}
}

func TestTakeGivesBackWhatWasPut(t *testing.T) {
	for k, p := range processes() {
		r := num.Read(append(Put(nil, p), 7, 7))
		if got := Take(r); !same(got, p) || r.Err() != nil || r.Left() != 2 {
			t.Errorf("%d: %v, %v, %d left", k, got, r.Err(), r.Left())
		}
	}
}

func TestTakeOfManyBehindOneAnother(t *testing.T) {
	b := num.PutText(nil, "ahead")
	for _, p := range processes() {
		b = Put(b, p)
	}
	r := num.Read(b)
	r.Text(9)
	for k, p := range processes() {
		if got := Take(r); !same(got, p) || r.Err() != nil {
			t.Errorf("%d: %v, %v", k, got, r.Err())
		}
	}
	if r.Done() != nil {
		t.Error(r.Done())
	}
}

// takesNothing checks that Take answers nothing, and which error the reader then has.
func takesNothing(t *testing.T, what string, r *num.Reader, left int, err error) {
	t.Helper()
	if got := Take(r); !same(got, api.Process{}) || r.Err() != err || r.Left() != left {
		t.Errorf("%s: %v, %v, %d left, not %v, %d", what, got, r.Err(), r.Left(), err, left)
	}
}

func TestTakeOfWhatIsCut(t *testing.T) {
	for _, p := range processes() {
		b := Put(nil, p)
		for n := range b {
			r := num.Read(b[:n])
			if got := Take(r); !same(got, api.Process{}) || r.Err() != api.ErrEnd {
				t.Errorf("%q cut to %d: %v, %v", p.Name, n, got, r.Err())
			}
		}
	}
	takesNothing(t, "nothing", num.Read(nil), 0, api.ErrEnd)
}

// part is a field as it is put, and as Take reads it.
type part struct {
	what string
	good []byte
	text int // the most bytes it may have; 0: it is a number
}

// parts are those of a process with one node and one flow, one behind the other, but for how many there are.
func parts() []part {
	word, whole := num.PutText(nil, "w"), num.Put(nil, 5)
	return []part{
		{"Name", word, 24}, {"Kind", whole, 0}, {"Topic", word, 24}, {"Priority", whole, 0}, {"Retries", whole, 0}, {"Default", whole, 0}, {"Code", word, 24}, {"Catch", word, 24}, {"To of a node", whole, 0},
		{"From", whole, 0}, {"To of a flow", whole, 0}, {"Cond", word, 80},
	}
}

// withPart is the parts in bytes, with that one in the place of the one at.
func withPart(at int, b []byte) (ahead, all []byte) {
	for k, p := range parts() {
		if k == 1 || k == 9 {
			all = num.Put(all, 1)
		}
		if k == at {
			all = append(all, b...)
			ahead = slices.Clone(all)
			continue
		}
		all = append(all, p.good...)
	}
	return ahead, all
}

func TestTakesFaults(t *testing.T) {
	for k, p := range parts() {
		type bad struct {
			b    []byte
			left int // of b
			err  error
		}
		l := []bad{{num.Put(nil, -2), 0, api.ErrRange}, {num.Put(nil, 1001), 0, api.ErrRange}, {num.Put(nil, 1<<32+5), 0, api.ErrRange}, {num.Put(nil, math.MaxInt64), 0, api.ErrRange}, {num.Put(nil, math.MinInt64), 0, api.ErrRange}, {[]byte{0x82, 0}, 0, api.ErrShape}, {bytes.Repeat([]byte{0xFF}, 11), 1, api.ErrShape}}
		right := [][]byte{num.Put(nil, -1), num.Put(nil, 0), num.Put(nil, 1000)}
		if p.text > 0 {
			l = []bad{{num.PutText(nil, xs(p.text+1, "x")), p.text + 1, api.ErrLong}, {num.Put(nil, 1000), 0, api.ErrLong}, {num.Put(nil, -1), 0, api.ErrRange}, {num.Put(nil, 1<<31), 0, api.ErrRange}, {[]byte{0x82, 0}, 0, api.ErrShape}}
			right = [][]byte{num.PutText(nil, ""), num.PutText(nil, xs(p.text, "x")), num.PutText(nil, xs(p.text-1, "\xff"))}
		}
		for _, f := range l {
			ahead, all := withPart(k, f.b)
			takesNothing(t, p.what, num.Read(all), len(all)-len(ahead)+f.left, f.err)
		}
		for _, b := range right {
			_, all := withPart(k, b)
			r := num.Read(all)
			if got := Take(r); r.Done() != nil || !bytes.Equal(Put(nil, got), all) {
				t.Errorf("%s of %x: %v, %v", p.what, b, got, r.Done())
			}
		}
	}
}

func TestTakeOfHowMany(t *testing.T) {
	many := func(nodes, flows int) []byte {
		return wanted(api.Process{Nodes: make([]api.Node, nodes), Flows: make([]api.Flow, flows)})
	}
	takesNothing(t, "31 nodes", num.Read(many(31, 0)), 31*8+1, api.ErrRange)
	takesNothing(t, "61 flows", num.Read(many(0, 61)), 61*3, api.ErrRange)
	takesNothing(t, "61 flows behind nodes", num.Read(many(3, 61)), 61*3, api.ErrRange)
	for _, n := range []int64{-1, -2, 1000, 1 << 32, math.MaxInt64, math.MinInt64} {
		takesNothing(t, "how many nodes", num.Read(append(num.Put([]byte{0}, n), 0, 0)), 2, api.ErrRange)
		takesNothing(t, "how many flows", num.Read(append(num.Put([]byte{0, 0}, n), 0, 0)), 2, api.ErrRange)
	}
	takesNothing(t, "a 0 behind how many nodes", num.Read([]byte{0, 0x80, 0, 5}), 1, api.ErrShape)
	takesNothing(t, "a 0 behind how many flows", num.Read([]byte{0, 0, 0x80, 0, 5}), 1, api.ErrShape)
}

func TestTakeBehindAnError(t *testing.T) {
	r := num.Read(append([]byte{9}, Put(nil, full())...))
	left := r.Left() - 1
	r.Flag()
	for range 2 {
		takesNothing(t, "behind an error", r, left, api.ErrShape)
	}
	// An error that was met ahead of Take is one by then, too.
	r = num.Read(Put(num.Put(nil, 5), full()))
	left = r.Left() - 1
	r.Int(0, 4)
	takesNothing(t, "behind a number out of its range", r, left, api.ErrRange)
}

func TestTakeHandsOutNewMemory(t *testing.T) {
	p := full()
	b := Put(Put(nil, p), p)
	r := num.Read(b)
	first := Take(r)
	for k := range b {
		b[k] = 0xFF
	}
	second := Take(r)
	_, _ = append(first.Nodes, filled()), append(first.Flows, api.Flow{From: 9})
	nodes, flows := first.Nodes[:cap(first.Nodes)], first.Flows[:cap(first.Flows)]
	for k := range nodes {
		nodes[k] = filled()
	}
	for k := range flows {
		flows[k] = api.Flow{From: 9, To: 9, Cond: "scribbled"}
	}
	if !same(second, p) || r.Done() != nil {
		t.Errorf("two processes share memory: %v, %v", second, r.Done())
	}
}

// TestTakeOfAnyBytesEnds takes bytes at random, and good ones of which some were changed.
func TestTakeOfAnyBytesEnds(t *testing.T) {
	x := number(88172645)
	took := 0
	for k := range 40000 {
		b := make([]byte, x.below(40))
		for k := range b {
			b[k] = byte(x.below(256)) >> x.below(8)
		}
		if k%2 == 0 {
			b = Put(nil, full())
			b[x.below(len(b))] = byte(x.below(256)) >> x.below(8)
		}
		r := num.Read(b)
		got := Take(r)
		if r.Err() != nil {
			if !same(got, api.Process{}) {
				t.Fatalf("%x: %v beside %v", b, got, r.Err())
			}
			continue
		}
		took++
		if !bytes.Equal(Put(nil, got), b[:len(b)-r.Left()]) {
			t.Fatalf("%x: took what Put does not make: %v", b, got)
		}
	}
	if took < 3000 {
		t.Errorf("%d were taken only", took)
	}
}
