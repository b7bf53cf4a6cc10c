package state

import (
	"bytes"
	"encoding/binary"
	"math"
	"slices"
	"strings"
	"testing"

	"leasehold/again"
	"leasehold/api"
)

// What a field is made of.
const (
	number = iota
	text
	flag
)

// field is a part of the bytes that stands alone: a number or the length of a text has a range.
type field struct {
	what        string
	kind        int
	least, most int64
	counts      bool // how many of something come behind it
	b           []byte
}

// fields are the bytes of a State in the chapter's words.
type fields []field

func (l *fields) number(what string, least, most, n int64) {
	*l = append(*l, field{what: what, kind: number, least: least, most: most, b: binary.AppendVarint(nil, n)})
}

// plain is a number of the chapter's own range.
func (l *fields) plain(what string, n int) { l.number(what, -1, 4398046511104, int64(n)) }

func (l *fields) count(what string, most int64, n int) {
	l.number(what, 0, most, int64(n))
	(*l)[len(*l)-1].counts = true
}

func (l *fields) text(what string, most int64, s string) {
	*l = append(*l, field{what: what, kind: text, most: most, b: append(binary.AppendVarint(nil, int64(len(s))), s...)})
}

func (l *fields) flag(what string, is bool) {
	f := field{what: what, kind: flag, b: []byte{0}}
	if is {
		f.b[0] = 1
	}
	*l = append(*l, f)
}

func (l *fields) process(p api.Process) {
	number := func(what string, n int) { l.number(what, -1, 1000, int64(n)) }
	l.text("process name", 24, p.Name)
	l.count("nodes", 30, len(p.Nodes))
	for _, n := range p.Nodes {
		number("kind", n.Kind)
		l.text("node topic", 24, n.Topic)
		number("node priority", n.Priority)
		number("node retries", n.Retries)
		number("default", n.Default)
		l.text("node code", 24, n.Code)
		l.text("catch", 24, n.Catch)
		number("to", n.To)
	}
	l.count("flows", 60, len(p.Flows))
	for _, f := range p.Flows {
		number("from", f.From)
		number("flow to", f.To)
		l.text("cond", 80, f.Cond)
	}
}

func (l *fields) instance(i api.Instance) {
	l.plain("instance id", i.ID)
	l.plain("process", i.Process)
	l.plain("state", i.State)
	l.text("code", 24, i.Code)
	l.count("vars", 12, len(i.Vars))
	for _, v := range i.Vars {
		l.text("var name", 24, v.Name)
		l.number("var kind", 1, 3, int64(v.Value.Kind))
		l.number("var n", math.MinInt64, math.MaxInt64, v.Value.N)
		l.text("var s", 60, v.Value.S)
	}
	l.count("tokens", 40, len(i.Tokens))
	for _, t := range i.Tokens {
		l.plain("token id", t.ID)
		l.plain("token node", t.Node)
		l.plain("in", t.In)
		l.flag("stuck", t.Stuck)
	}
	l.plain("next", i.Next)
}

func (l *fields) task(t api.Task) {
	l.plain("task id", t.ID)
	l.plain("task instance", t.Instance)
	l.plain("task token", t.Token)
	l.plain("task node", t.Node)
	l.text("topic", 24, t.Topic)
	l.plain("priority", t.Priority)
	l.text("worker", 24, t.Worker)
	l.plain("epoch", t.Epoch)
	l.number("expiry", -1, 4398046511104, t.Expiry)
	l.number("after", -1, 4398046511104, t.After)
	l.plain("retries", t.Retries)
	l.flag("broken", t.Broken)
}

func (l *fields) page(p again.Page) {
	l.text("page worker", 24, p.Worker)
	l.plain("inc", p.Inc)
	l.count("keys", 4, len(p.Keys))
	for k, key := range p.Keys {
		l.plain("key", key)
		l.text("reply", 4000, string(p.Replies[k]))
	}
}

// put is p in the chapter's words.
func (p plain) put() fields {
	var l fields
	l.count("processes", 8, len(p.processes))
	for _, x := range p.processes {
		l.process(x)
	}
	l.count("instances", 60, len(p.instances))
	for _, x := range p.instances {
		l.instance(x)
	}
	l.count("tasks", 2400, len(p.tasks))
	for _, x := range p.tasks {
		l.task(x)
	}
	l.count("pages", 6, len(p.pages))
	for _, x := range p.pages {
		l.page(x)
	}
	l.plain("next instance", p.nextInstance)
	l.plain("next task", p.nextTask)
	return l
}

// whole is all the bytes.
func (l fields) whole() []byte {
	var b []byte
	for _, f := range l {
		b = append(b, f.b...)
	}
	return b
}

// with is all the bytes, but those at that place, which are b.
func (l fields) with(place int, b []byte) []byte {
	l = slices.Clone(l)
	l[place].b = b
	return l.whole()
}

// inBytes is some numbers in bytes.
func inBytes(l ...int64) []byte {
	var b []byte
	for _, n := range l {
		b = binary.AppendVarint(b, n)
	}
	return b
}

// nothing holds that Read answers nothing beside that error.
func nothing(t *testing.T, what string, b []byte, want error) {
	t.Helper()
	if s, err := Read(b); s != nil || err != want {
		t.Errorf("%s: %v, %v, not %v", what, s, err, want)
	}
}

// back holds that Read makes p of b.
func back(t *testing.T, what string, b []byte, p plain) {
	t.Helper()
	s, err := Read(b)
	if err != nil {
		t.Fatalf("%s: %v", what, err)
	}
	stands(t, what, s, p)
	if got := Bytes(s); !bytes.Equal(got, b) {
		t.Errorf("%s: put again: %q, not %q", what, got, b)
	}
}

// greatest has as many of each as there may be, and each as great as it may be.
func greatest() plain {
	const most = 4398046511104
	long := strings.Repeat("?", 24)
	node := api.Node{Kind: 1000, Topic: long, Priority: 1000, Retries: 1000, Default: 1000, Code: long, Catch: long, To: 1000}
	flow := api.Flow{From: 1000, To: 1000, Cond: strings.Repeat("(", 80)}
	v := api.Var{Name: long, Value: api.Value{Kind: 3, N: math.MinInt64, S: strings.Repeat("\xff", 60)}}
	token := api.Token{ID: most, Node: most, In: most, Stuck: true}
	p := plain{nextInstance: most, nextTask: most}
	p.processes = slices.Repeat([]api.Process{{Name: long, Nodes: slices.Repeat([]api.Node{node}, 30), Flows: slices.Repeat([]api.Flow{flow}, 60)}}, 8)
	p.instances = slices.Repeat([]api.Instance{{ID: most, Process: most, State: most, Code: long, Vars: slices.Repeat([]api.Var{v}, 12), Tokens: slices.Repeat([]api.Token{token}, 40), Next: most}}, 60)
	for k := range 2400 {
		p.tasks = append(p.tasks, api.Task{ID: most - 2399 + k, Instance: most, Token: most, Node: most, Topic: long, Priority: most, Worker: long, Epoch: most, Expiry: most, After: most, Retries: most, Broken: true})
	}
	reply := bytes.Repeat([]byte{0xff}, 4000)
	for k := range 6 {
		p.pages = append(p.pages, again.Page{Worker: long[:23] + string(rune('a'+k)), Inc: most, Keys: []int{most, most - 1, 7, most - 2}, Replies: [][]byte{reply, reply, reply, reply}})
	}
	return p
}

// smallest has each number as small as it may be.
func smallest() plain {
	return plain{
		processes:    []api.Process{{Nodes: []api.Node{{Kind: -1, Priority: -1, Retries: -1, Default: -1, To: -1}}, Flows: []api.Flow{{From: -1, To: -1}}}},
		instances:    []api.Instance{{ID: -1, Process: -1, State: -1, Vars: []api.Var{{Value: api.Value{Kind: 1}}}, Tokens: []api.Token{{ID: -1, Node: -1, In: -1}}, Next: -1}},
		tasks:        []api.Task{{ID: -1, Instance: -1, Token: -1, Node: -1, Priority: -1, Epoch: -1, Expiry: -1, After: -1, Retries: -1}},
		pages:        []again.Page{{Inc: -1, Keys: []int{-1}, Replies: [][]byte{nil}}},
		nextInstance: -1, nextTask: -1,
	}
}

// alls are some that can be put and read back.
func alls() []plain {
	other := some()
	slices.Reverse(other.instances)
	twice := some()
	twice.instances = append(twice.instances, twice.instances...)
	named := some()
	named.processes[1].Name = "house"
	return []plain{{}, {nextInstance: 1, nextTask: 1}, some(), other, twice, named, smallest(), {tasks: some().tasks}, {pages: some().pages}, {instances: some().instances}, {processes: some().processes}}
}

// P14.2: Bytes

func TestBytesOfNew(t *testing.T) {
	if b := Bytes(New()); !bytes.Equal(b, []byte{0, 0, 0, 0, 2, 2}) {
		t.Errorf("%v", b)
	}
}

// Each part alone, as it is written there.
func TestBytesOfKnownStates(t *testing.T) {
	for k, c := range []struct {
		p    plain
		want string
	}{
		{plain{}, "\x00\x00\x00\x00\x00\x00"},
		{plain{nextInstance: 5, nextTask: -2}, "\x00\x00\x00\x00\x0a\x03"},
		{plain{nextInstance: -1, nextTask: 64}, "\x00\x00\x00\x00\x01\x80\x01"},
		{plain{processes: []api.Process{{Name: "p"}, {}}}, "\x04\x02p\x00\x00\x00\x00\x00\x00\x00\x00\x00\x00"},
		{plain{processes: []api.Process{{Nodes: []api.Node{{Kind: 1, Topic: "t", Priority: 2, Retries: 3, Default: 4, Code: "c", Catch: "d", To: 5}}, Flows: []api.Flow{{From: 6, To: 7, Cond: "e"}}}}},
			"\x02\x00\x02\x02\x02t\x04\x06\x08\x02c\x02d\x0a\x02\x0c\x0e\x02e\x00\x00\x00\x00\x00"},
		{plain{instances: []api.Instance{{ID: 1, Process: 2, State: 3, Code: "c", Next: 4}}}, "\x00\x02\x02\x04\x06\x02c\x00\x00\x08\x00\x00\x00\x00"},
		{plain{instances: []api.Instance{{Vars: []api.Var{{Name: "v", Value: api.Value{Kind: 2, N: 1}}, {Name: "w", Value: api.Value{Kind: 3, S: "s"}}}}}}, "\x00\x02\x00\x00\x00\x00\x04\x02v\x04\x02\x00\x02w\x06\x00\x02s\x00\x00\x00\x00\x00\x00"},
		{plain{instances: []api.Instance{{Tokens: []api.Token{{ID: 1, Node: 2, In: 3, Stuck: true}, {ID: 4, Node: 5, In: -1}}}}}, "\x00\x02\x00\x00\x00\x00\x00\x04\x02\x04\x06\x01\x08\x0a\x01\x00\x00\x00\x00\x00\x00"},
		{plain{instances: []api.Instance{{ID: 7}, {ID: 3}, {ID: 7}}}, "\x00\x06\x0e\x00\x00\x00\x00\x00\x00\x06\x00\x00\x00\x00\x00\x00\x0e\x00\x00\x00\x00\x00\x00\x00\x00\x00\x00"},
		{plain{tasks: []api.Task{{ID: 1, Instance: 2, Token: 3, Node: 4, Topic: "t", Priority: 5, Worker: "w", Epoch: 6, Expiry: 7, After: 8, Retries: 9, Broken: true}}},
			"\x00\x00\x02\x02\x04\x06\x08\x02t\x0a\x02w\x0c\x0e\x10\x12\x01\x00\x00\x00"},
		{plain{tasks: []api.Task{{ID: 2}, {ID: -1}, {ID: 1}}}, "\x00\x00\x06\x01\x00\x00\x00\x00\x00\x00\x00\x00\x00\x00\x00\x02\x00\x00\x00\x00\x00\x00\x00\x00\x00\x00\x00\x04\x00\x00\x00\x00\x00\x00\x00\x00\x00\x00\x00\x00\x00\x00"},
		{plain{pages: []again.Page{{Worker: "w", Inc: 1, Keys: []int{2, 3}, Replies: [][]byte{[]byte("ab"), nil}}}}, "\x00\x00\x00\x02\x02w\x02\x04\x04\x04ab\x06\x00\x00\x00"},
		{plain{pages: []again.Page{{Worker: "b", Keys: []int{1}, Replies: [][]byte{{}}}, {Worker: "a", Keys: []int{1}, Replies: [][]byte{{}}}}}, "\x00\x00\x00\x04\x02a\x00\x02\x02\x00\x02b\x00\x02\x02\x00\x00\x00"},
	} {
		if b := Bytes(made(t, c.p)); string(b) != c.want {
			t.Errorf("%d: %q, not %q", k, b, c.want)
		}
	}
}

func TestBytesInTheChaptersWords(t *testing.T) {
	for k, p := range append(alls(), greatest()) {
		if b := Bytes(made(t, p)); !bytes.Equal(b, p.put().whole()) {
			t.Errorf("%d: %q, not %q", k, b, p.put().whole())
		}
	}
}

// What Read doesn't take is put like anything else.
func TestBytesOfAnyState(t *testing.T) {
	for k, c := range []struct {
		p   plain
		err error
	}{
		{plain{nextTask: math.MinInt}, api.ErrRange},
		{plain{nextInstance: math.MaxInt}, api.ErrRange},
		{plain{processes: make([]api.Process, 9)}, api.ErrRange},
		{plain{instances: make([]api.Instance, 61)}, api.ErrRange},
		{plain{instances: []api.Instance{{Tokens: make([]api.Token, 41)}}}, api.ErrRange},
		{plain{instances: []api.Instance{{Vars: make([]api.Var, 13)}}}, api.ErrRange},
		{plain{instances: []api.Instance{{Code: strings.Repeat("x", 25)}}}, api.ErrLong},
		{plain{tasks: []api.Task{{Expiry: math.MaxInt64, After: math.MinInt64}}}, api.ErrRange},
		{plain{tasks: []api.Task{{Worker: strings.Repeat("x", 1<<20)}}}, api.ErrLong},
		{plain{pages: []again.Page{{Keys: []int{1}, Replies: [][]byte{make([]byte, 4001)}}}}, api.ErrLong},
	} {
		b := Bytes(made(t, c.p))
		if !bytes.Equal(b, c.p.put().whole()) {
			t.Errorf("%d: %q, not %q", k, b, c.p.put().whole())
		}
		nothing(t, "read", b, c.err)
	}
	// Very much of all is put in the time that it takes to look at it.
	long := plain{processes: make([]api.Process, 1<<14), instances: make([]api.Instance, 1<<14)}
	for k := range 1 << 14 {
		long.tasks = append(long.tasks, work(k, k))
	}
	long.instances[0] = api.Instance{Vars: make([]api.Var, 1<<14), Tokens: make([]api.Token, 1<<14)}
	long.processes[0] = api.Process{Nodes: make([]api.Node, 1<<14), Flows: make([]api.Flow, 1<<14)}
	if b := Bytes(made(t, long)); !bytes.Equal(b, long.put().whole()) {
		t.Errorf("%d bytes", len(b))
	}
}

// P14.2: Read

func TestReadGivesBackWhatWasPut(t *testing.T) {
	for _, p := range append(alls(), greatest()) {
		back(t, "what was put", Bytes(made(t, p)), p)
	}
}

// What was read is a State like another one.
func TestReadThenGoOn(t *testing.T) {
	b := Bytes(full(t))
	for k, change := range changes() {
		s, err := Read(b)
		if err != nil {
			t.Fatal(err)
		}
		other := full(t)
		change(s)
		change(other)
		if of(s).same(some()) {
			t.Errorf("%d: it changes nothing", k)
		}
		stands(t, "changed", s, of(other))
	}
	s, _ := Read(b)
	if at, is := s.Process("tree"); at != 1 || !is {
		t.Errorf("tree: %d, %t", at, is)
	}
	if what, reply := s.Book.Look(api.Head{Worker: "amy", Inc: 2, Key: 5}); what != again.Known || string(reply) != "done" {
		t.Errorf("look: %d, %q", what, reply)
	}
	if got := taskIDs(s.Of(2)); !slices.Equal(got, []int{3, 4}) {
		t.Errorf("of: %v", got)
	}
}

func TestReadOfWhatIsCutOrTooLong(t *testing.T) {
	nothing(t, "nothing", nil, api.ErrEnd)
	nothing(t, "nothing", []byte{}, api.ErrEnd)
	for _, p := range alls() {
		b := p.put().whole()
		for n := range b {
			nothing(t, "cut", b[:n], api.ErrEnd)
		}
		for _, more := range [][]byte{{0}, {1}, {0xff}, b} {
			nothing(t, "too long", slices.Concat(b, more), api.ErrShape)
		}
	}
	nothing(t, "very long", make([]byte, 1<<20), api.ErrShape)
}

// Each field, one by one, as great and as small as it may be, and past that.
func TestReadsFields(t *testing.T) {
	l := some().put()
	for k, f := range l {
		switch f.kind {
		case number:
			readNumber(t, l, k)
		case text:
			readText(t, l, k)
		case flag:
			for _, x := range []byte{2, 3, 127, 128, 255} {
				nothing(t, f.what, l.with(k, []byte{x}), api.ErrShape)
			}
			back(t, f.what, l.whole(), some())
			if b := l.with(k, []byte{1 - f.b[0]}); !readable(b) {
				t.Errorf("%s: turned, it is not read", f.what)
			}
		}
	}
}

// readable tells whether b is read, and put again as it was.
func readable(b []byte) bool {
	s, err := Read(b)
	return err == nil && bytes.Equal(Bytes(s), b)
}

// readNumber tries numbers in the place of the field k.
func readNumber(t *testing.T, l fields, k int) {
	t.Helper()
	f := l[k]
	for _, b := range [][]byte{bytes.Repeat([]byte{0xff}, 11), {0x82, 0}, {0x80, 0}, append(bytes.Repeat([]byte{0xff}, 9), 2)} {
		nothing(t, f.what, l.with(k, b), api.ErrShape)
	}
	for _, n := range []int64{f.least - 1, f.most + 1, math.MinInt64, math.MaxInt64} {
		if n < f.least || n > f.most {
			nothing(t, f.what, l.with(k, inBytes(n)), api.ErrRange)
		}
	}
	if f.counts {
		return
	}
	for _, n := range []int64{f.least, f.least + 1, 1, f.most - 1, f.most} {
		b := l.with(k, inBytes(n))
		s, err := Read(b)
		// A task's ID may be out of its order then, a key there twice.
		if err == api.ErrShape && (f.what == "task id" || f.what == "key") {
			continue
		}
		if err != nil || !bytes.Equal(Bytes(s), b) {
			t.Errorf("%s: %d: %v", f.what, n, err)
		}
	}
}

// readText tries texts in the place of the field k.
func readText(t *testing.T, l fields, k int) {
	t.Helper()
	f := l[k]
	put := func(s string) []byte { return append(inBytes(int64(len(s))), s...) }
	long := strings.Repeat("a", int(f.most)+1)
	nothing(t, f.what, l.with(k, put(long)), api.ErrLong)
	nothing(t, f.what, l.with(k, inBytes(math.MaxInt32)), api.ErrLong)
	nothing(t, f.what, l.with(k, inBytes(math.MaxInt32+1)), api.ErrRange)
	nothing(t, f.what, l.with(k, inBytes(-1)), api.ErrRange)
	nothing(t, f.what, l.with(k, []byte{0x82, 0}), api.ErrShape)
	for _, s := range []string{"", "A", "\xff\x00", long[1:], long[2:], strings.Repeat("a", 24)} {
		b := l.with(k, put(s))
		got, err := Read(b)
		// The pages of two workers may be in another order then.
		if err == api.ErrShape && f.what == "page worker" {
			continue
		}
		if err != nil || !bytes.Equal(Bytes(got), b) {
			t.Errorf("%s: %q: %v", f.what, s, err)
		}
	}
}

// How many there are at most, where so many come behind it.
func TestReadOfHowMany(t *testing.T) {
	for _, c := range []struct {
		what string
		most int
		made func(n int) plain
	}{
		{"processes", 8, func(n int) plain { return plain{processes: make([]api.Process, n)} }},
		{"nodes", 30, func(n int) plain { return plain{processes: []api.Process{{Nodes: make([]api.Node, n)}}} }},
		{"flows", 60, func(n int) plain { return plain{processes: []api.Process{{}, {Flows: make([]api.Flow, n)}}} }},
		{"instances", 60, func(n int) plain { return plain{instances: make([]api.Instance, n)} }},
		{"tokens", 40, func(n int) plain { return plain{instances: []api.Instance{{}, {Tokens: make([]api.Token, n)}}} }},
		{"vars", 12, func(n int) plain {
			return plain{instances: []api.Instance{{Vars: slices.Repeat([]api.Var{{Value: api.Value{Kind: 2}}}, n)}}}
		}},
		{"tasks", 2400, func(n int) plain {
			var p plain
			for k := range n {
				p.tasks = append(p.tasks, work(k, k/40))
			}
			return p
		}},
		{"pages", 6, func(n int) plain {
			var p plain
			for k := range n {
				p.pages = append(p.pages, again.Page{Worker: string(rune('a' + k)), Keys: []int{k}, Replies: [][]byte{nil}})
			}
			return p
		}},
		{"keys", 4, func(n int) plain {
			p := again.Page{Worker: "w"}
			for k := range n {
				p.Keys, p.Replies = append(p.Keys, 9-k), append(p.Replies, []byte("r"))
			}
			return plain{pages: []again.Page{p}}
		}},
	} {
		for _, n := range []int{1, 2, c.most - 1, c.most} {
			back(t, c.what, c.made(n).put().whole(), c.made(n))
		}
		nothing(t, c.what, c.made(c.most+1).put().whole(), api.ErrRange)
		nothing(t, c.what, c.made(2*c.most+10).put().whole(), api.ErrRange)
	}
}

// wrongs are some that can be put in bytes, but don't come out as they went in, or are no book.
func wrongs() map[string]plain {
	page := func(worker string, keys ...int) again.Page {
		return again.Page{Worker: worker, Inc: 1, Keys: keys, Replies: make([][]byte, len(keys))}
	}
	tasks := func(ids ...int) plain {
		var p plain
		for _, id := range ids {
			p.tasks = append(p.tasks, work(id, 1))
		}
		return p
	}
	differs := tasks(1, 1)
	differs.tasks[1].Topic = "cut"
	return map[string]plain{
		"tasks that fall":                tasks(2, 1),
		"a task twice":                   tasks(1, 1),
		"a task twice, another one":      differs,
		"a task twice at the end":        tasks(1, 2, 5, 5),
		"tasks that rise, and one more":  tasks(1, 2, 5, 4),
		"tasks below 0":                  tasks(0, -1),
		"a page twice":                   {pages: []again.Page{page("a", 1), page("a", 2)}},
		"the same page twice":            {pages: []again.Page{page("a", 1), page("a", 1)}},
		"pages that fall":                {pages: []again.Page{page("b", 1), page("a", 1)}},
		"pages that fall at the end":     {pages: []again.Page{page("a", 1), page("c", 1), page("b", 1)}},
		"a page twice, not side by side": {pages: []again.Page{page("a", 1), page("c", 1), page("a", 1)}},
		"a page without keys":            {pages: []again.Page{page("a", 1), page("b")}},
		"a key twice":                    {pages: []again.Page{page("a", 1, 2, 1)}},
		"a key twice, side by side":      {pages: []again.Page{page("a", 7, 7)}},
	}
}

func TestReadOfWhatComesOutOtherwise(t *testing.T) {
	for what, p := range wrongs() {
		nothing(t, what, p.put().whole(), api.ErrShape)
	}
	// Keys go down, up, and are the same as those of another page: that is the order in which they were kept.
	p := plain{pages: []again.Page{{Worker: "a", Keys: []int{9, 3, 5}, Replies: make([][]byte, 3)}, {Worker: "aa", Keys: []int{3, 9}, Replies: make([][]byte, 2)}}}
	back(t, "keys in any order", p.put().whole(), p)
}

// What num tells comes first, though it stands behind what has no right shape.
func TestReadTellsNumsErrorFirst(t *testing.T) {
	for what, p := range wrongs() {
		l := p.put()
		b := l.whole()
		nothing(t, what+", cut", b[:len(b)-1], api.ErrEnd)
		nothing(t, what+", a number out of its range behind it", l.with(len(l)-1, inBytes(-2)), api.ErrRange)
		nothing(t, what+", another one", l.with(len(l)-2, inBytes(4398046511105)), api.ErrRange)
		p.pages = append(p.pages, again.Page{Worker: strings.Repeat("x", 25)})
		nothing(t, what+", a text that is too long behind it", p.put().whole(), api.ErrLong)
	}
	// Of several the first.
	nothing(t, "a range, then a text", plain{instances: make([]api.Instance, 61), tasks: []api.Task{{Topic: strings.Repeat("x", 25)}}}.put().whole(), api.ErrRange)
	nothing(t, "a text, then a range", plain{instances: []api.Instance{{Code: strings.Repeat("x", 25)}}, nextTask: -2}.put().whole(), api.ErrLong)
	nothing(t, "a range, then the end", inBytes(9), api.ErrRange)
	nothing(t, "the end", inBytes(8), api.ErrEnd)
}

// Whether what was read may be at all is not asked.
func TestReadAsksNoMore(t *testing.T) {
	odd := plain{
		processes: []api.Process{{Name: "NO NAME", Nodes: []api.Node{{Kind: 99}}}, {Name: "NO NAME"}},
		instances: []api.Instance{{ID: 9, Process: 1 << 42, State: 77, Vars: []api.Var{{Name: "b", Value: api.Value{Kind: 2, N: 7, S: "x"}}, {Name: "a", Value: api.Value{Kind: 1}}}, Tokens: []api.Token{{ID: 5}, {ID: 5}}}, {ID: 3}, {ID: 9}},
		tasks:     []api.Task{{ID: 0, Instance: 44, Worker: "?", Retries: 77, Broken: true}},
		pages:     []again.Page{{Worker: "", Inc: 0, Keys: []int{0}, Replies: [][]byte{nil}}},
	}
	back(t, "what may not be", odd.put().whole(), odd)
}

// P0.4: memory

func TestBytesIsNewMemory(t *testing.T) {
	s := full(t)
	one, two := Bytes(s), Bytes(s)
	spoil(one, 0xff)
	if !bytes.Equal(two, some().put().whole()) {
		t.Error("another answer shows it")
	}
	stands(t, "spoilt", s, some())
	spoilAll(s)
	if !bytes.Equal(two, some().put().whole()) {
		t.Error("what was put shows it")
	}
}

func TestReadKeepsNothing(t *testing.T) {
	want := some().put().whole()
	b, all := room(want)
	one, err := Read(b)
	two, _ := Read(b)
	if err != nil || !bytes.Equal(all, append(slices.Clone(want), 0, 0, 0)) {
		t.Errorf("it is changed: %v", err)
	}
	spoil(b, 0xff)
	stands(t, "what was read", one, some())
	spoilAll(one)
	stands(t, "what was read again", two, some())
}

// Behind the length of a list there is nothing.
func TestBytesReadsNothingBehind(t *testing.T) {
	p := some()
	p.processes = append(p.processes, line("behind", "behind"))[:3]
	p.instances = append(p.instances, goes(77, 7))[:3]
	p.instances[0].Tokens = append(p.instances[0].Tokens, api.Token{ID: 77})[:3]
	p.instances[0].Vars = append(p.instances[0].Vars, api.Var{Name: "z"})[:3]
	p.processes[0].Nodes = append(p.processes[0].Nodes, api.Node{Kind: 7})[:4]
	s := made(t, p)
	if b := Bytes(s); !bytes.Equal(b, some().put().whole()) {
		t.Errorf("%q", b)
	}
	c := s.Copy()
	stands(t, "the copy", c, some())
	if !Same(s, c) || !Same(s, full(t)) {
		t.Error("not the same")
	}
	if p.instances[:4][3].ID != 77 || p.processes[:4][3].Name != "behind" || p.instances[0].Tokens[:4][3].ID != 77 {
		t.Error("what lies behind is changed")
	}
}

// P14.2: Same

func TestSame(t *testing.T) {
	for k, a := range alls() {
		for n, b := range alls() {
			if got := Same(made(t, a), made(t, b)); got != (k == n) {
				t.Errorf("%d and %d: %t", k, n, got)
			}
		}
	}
	for k, change := range changes() {
		s, c := full(t), full(t)
		change(c)
		if Same(s, c) || Same(c, s) || !Same(s, s) || !Same(c, c) {
			t.Errorf("%d: changed", k)
		}
		change(s)
		if !Same(s, c) {
			t.Errorf("%d: both changed", k)
		}
	}
	stands(t, "asked", full(t), some())
}

// nil and the empty list are the same, and how one came about is not asked.
func TestSameOfOtherWays(t *testing.T) {
	a, b := New(), New()
	b.Processes, b.Instances = []api.Process{}, []api.Instance{}
	if b.Put(); !Same(a, b) {
		t.Error("empty lists")
	}
	a.SetInstance(api.Instance{ID: 1})
	b.SetInstance(api.Instance{ID: 1, Vars: []api.Var{}, Tokens: []api.Token{}})
	a.Processes = []api.Process{{}}
	b.Processes = []api.Process{{Nodes: []api.Node{}, Flows: []api.Flow{}}}
	if !Same(a, b) {
		t.Error("empty lists inside")
	}
	a.Put(work(1, 1), work(2, 1))
	b.Put(work(3, 3), work(2, 7), work(1, 1), work(2, 1))
	if b.Drop(3); !Same(a, b) {
		t.Error("tasks put in another order")
	}
	a.Book.Keep(api.Head{Worker: "amy", Inc: 2, Key: 1}, nil)
	b.Book.Keep(api.Head{Worker: "amy", Inc: 1, Key: 1}, []byte("x"))
	if Same(a, b) {
		t.Error("another life")
	}
	if b.Book.Keep(api.Head{Worker: "amy", Inc: 2, Key: 1}, []byte{}); !Same(a, b) {
		t.Error("the same life behind another one")
	}
}

// Each field is held against the other one's.
func TestSameOfEachField(t *testing.T) {
	l := some().put()
	s := full(t)
	for k, f := range l {
		b := slices.Clone(f.b)
		switch {
		case f.counts, f.kind == text && len(b) == 1:
			continue
		case f.kind == number && bytes.Equal(b, inBytes(1)):
			b = inBytes(2)
		case f.kind == number:
			b = inBytes(1)
		default:
			b[len(b)-1] ^= 1
		}
		c, err := Read(l.with(k, b))
		if err == api.ErrShape && (f.what == "task id" || f.what == "key" || f.what == "page worker") {
			continue
		}
		if err != nil || Same(s, c) || Same(c, s) {
			t.Errorf("%s: %v", f.what, err)
		}
	}
}
