package state

import (
	"bytes"
	"cmp"
	"math"
	"slices"
	"strings"
	"testing"

	"leasehold/again"
	"leasehold/api"
	"leasehold/num"
	"leasehold/process"
	"leasehold/vars"
)

// chance is a source of numbers in no plain order, the same each time.
type chance uint32

func (x *chance) below(n int) int {
	*x ^= *x << 13
	*x ^= *x >> 17
	*x ^= *x << 5
	return int(uint32(*x) >> 8 % uint32(n))
}

// one is one of l.
func one[T any](x *chance, l ...T) T { return l[x.below(len(l))] }

// rarely is most often the one, else one of l.
func rarely[T any](x *chance, most T, l ...T) T {
	if x.below(60) > 0 {
		return most
	}
	return one(x, l...)
}

// several is up to n of what is made.
func several[T any](x *chance, n int, made func(x *chance) T) []T {
	var l []T
	for range x.below(n + 1) {
		l = append(l, made(x))
	}
	return l
}

// someID is one of few, and seldom one that no engine gives.
func someID(x *chance) int { return rarely(x, 1+x.below(12), 0, -1, 1<<42, 1<<42-1, 300) }

// someText is most often short.
func someText(x *chance) string {
	return rarely(x, one(x, "", "a", "b", "house", "\xff", "A ?"), strings.Repeat("z", 24))
}

func someVar(x *chance) api.Var {
	return api.Var{Name: someText(x), Value: api.Value{Kind: 1 + x.below(3), N: rarely(x, int64(x.below(9))-4, math.MaxInt64, math.MinInt64), S: someText(x)}}
}

func someToken(x *chance) api.Token {
	return api.Token{ID: someID(x), Node: x.below(30), In: x.below(60) - 1, Stuck: x.below(3) == 0}
}

func someInstance(x *chance) api.Instance {
	return api.Instance{ID: someID(x), Process: x.below(8), State: 1 + x.below(3), Code: someText(x), Vars: several(x, 3, someVar), Tokens: several(x, 3, someToken), Next: someID(x)}
}

func someTask(x *chance) api.Task {
	return api.Task{ID: someID(x), Instance: someID(x), Token: someID(x), Node: x.below(30), Topic: someText(x), Priority: x.below(10), Worker: someText(x), Epoch: x.below(61), Expiry: int64(someID(x)), After: int64(someID(x)), Retries: x.below(10), Broken: x.below(3) == 0}
}

func someNode(x *chance) api.Node {
	return api.Node{Kind: x.below(8), Topic: someText(x), Priority: x.below(10), Retries: x.below(10), Default: x.below(60) - 1, Code: someText(x), Catch: someText(x), To: x.below(60) - 1}
}

func someFlow(x *chance) api.Flow {
	return api.Flow{From: x.below(30), To: x.below(30), Cond: someText(x)}
}

func someProcess(x *chance) api.Process {
	return api.Process{Name: someText(x), Nodes: several(x, 3, someNode), Flows: several(x, 3, someFlow)}
}

func someHead(x *chance) api.Head {
	return api.Head{Worker: one(x, "a", "b", "c", "d", "e", "f", "g", ""), Inc: 1 + x.below(3), Key: someID(x)}
}

// words is a State as the chapter tells of it, by trying all there is: all but its pages, which are those of a book.
type words struct {
	plain
	book *again.Book
}

// copied is w in memory of its own.
func (w words) copied() words {
	w.book = w.book.Clone()
	w.tasks = slices.Clone(w.tasks)
	w.processes = slices.Clone(w.processes)
	for k, p := range w.processes {
		w.processes[k].Nodes, w.processes[k].Flows = slices.Clone(p.Nodes), slices.Clone(p.Flows)
	}
	w.instances = slices.Clone(w.instances)
	for k, i := range w.instances {
		w.instances[k] = apart(i)
	}
	return w
}

// apart is i in memory of its own.
func apart(i api.Instance) api.Instance {
	i.Vars, i.Tokens = slices.Clone(i.Vars), slices.Clone(i.Tokens)
	return i
}

// all is all of w in lists.
func (w words) all() plain {
	w.pages = w.book.All()
	return w.plain
}

// put is w with t.
func (w words) put(t api.Task) words {
	w = w.drop(t.ID)
	w.tasks = append(w.tasks, t)
	slices.SortFunc(w.tasks, func(a, b api.Task) int { return cmp.Compare(a.ID, b.ID) })
	return w
}

// drop is w without the task of that ID.
func (w words) drop(id int) words {
	w.tasks = slices.DeleteFunc(slices.Clone(w.tasks), func(t api.Task) bool { return t.ID == id })
	return w
}

// set is w with i, whose instances rise.
func (w words) set(i api.Instance) words {
	w.instances = slices.DeleteFunc(slices.Clone(w.instances), func(j api.Instance) bool { return j.ID == i.ID })
	w.instances = append(w.instances, i)
	slices.SortFunc(w.instances, func(a, b api.Instance) int { return cmp.Compare(a.ID, b.ID) })
	return w
}

// deed does something to s and to w, and tells in a word what it was.
func deed(x *chance, s *State, w words) (words, string) {
	switch x.below(9) {
	case 0, 1:
		t := someTask(x)
		s.Put(t)
		return w.put(t), "put"
	case 2:
		id := someID(x)
		s.Drop(id)
		return w.drop(id), "drop"
	case 3, 4, 5:
		i := someInstance(x)
		s.SetInstance(i)
		w = w.set(apart(i))
		spoilInstance(i)
		return w, "set"
	case 6:
		h, reply := someHead(x), []byte(someText(x))
		s.Book.Keep(h, reply)
		w.book.Keep(h, reply)
		return w, "keep"
	case 7:
		p := someProcess(x)
		s.Processes = append(s.Processes, p)
		w.processes = append(slices.Clone(w.processes), p)
		if len(s.Processes) > 8 {
			s.Processes, w.processes = s.Processes[1:], w.processes[1:]
		}
		return w, "process"
	}
	s.NextInstance, s.NextTask = s.NextInstance+1, s.NextTask+2
	w.nextInstance, w.nextTask = w.nextInstance+1, w.nextTask+2
	return w, "next"
}

// count notes that so was answered to what.
func count(took map[string]int, what string, is bool) {
	if !is {
		what = "not " + what
	}
	took[what]++
}

// ask holds all that s tells against w, and counts what came of it.
func ask(t *testing.T, x *chance, s *State, w words, took map[string]int) {
	t.Helper()
	stands(t, "all", s, w.all())
	id := someID(x)
	k := slices.IndexFunc(w.instances, func(i api.Instance) bool { return i.ID == id })
	var want api.Instance
	if k >= 0 {
		want = w.instances[k]
	}
	if got, is := s.Instance(id); !sameInstance(got, want) || is != (k >= 0) {
		t.Fatalf("instance %d: %v, %t, not %v", id, got, is, want)
	}
	count(took, "instance", k >= 0)
	name := someText(x)
	k = slices.IndexFunc(w.processes, func(p api.Process) bool { return p.Name == name })
	if at, is := s.Process(name); at != max(k, 0) || is != (k >= 0) {
		t.Fatalf("process %q: %d, %t, not %d", name, at, is, k)
	}
	count(took, "process", k >= 0)
	var mine []api.Task
	for _, t := range w.tasks {
		if t.Instance == id {
			mine = append(mine, t)
		}
	}
	if got := s.Of(id); !slices.Equal(got, mine) {
		t.Fatalf("of %d: %v, not %v", id, got, mine)
	}
	count(took, "of", len(mine) > 0)
	if got := Bytes(s); !bytes.Equal(got, w.all().put().whole()) {
		t.Fatalf("%v: %q", w.all(), got)
	}
}

// often holds that each of these came so many times.
func often(t *testing.T, took map[string]int, least int, l ...string) {
	t.Helper()
	for _, what := range l {
		if took[what] < least {
			t.Errorf("%s: only %d times", what, took[what])
		}
	}
}

// All calls, one behind the other, on some of which one is at times a copy of another one, or what was read of its bytes.
func TestAnyState(t *testing.T) {
	x, took := chance(2463534242), map[string]int{}
	for range 100 {
		var l []*State
		var ws []words
		for range 3 {
			l = append(l, New())
			ws = append(ws, words{plain: plain{nextInstance: 1, nextTask: 1}, book: &again.Book{}})
		}
		for range 60 {
			k, to := x.below(3), x.below(3)
			switch x.below(10) {
			case 0:
				l[to], ws[to] = l[k].Copy(), ws[k].copied()
				count(took, "copy", true)
			case 1:
				read, err := Read(Bytes(l[k]))
				if err != nil {
					t.Fatalf("%v: %v", ws[k], err)
				}
				l[to], ws[to] = read, ws[k].copied()
				count(took, "read", true)
			default:
				var what string
				ws[k], what = deed(&x, l[k], ws[k])
				count(took, what, true)
			}
			for k := range l {
				ask(t, &x, l[k], ws[k], took)
			}
			same := ws[k].all().same(ws[to].all())
			if got := Same(l[k], l[to]); got != same {
				t.Fatalf("%v and %v: %t", ws[k], ws[to], got)
			}
			if k != to {
				count(took, "same", same)
			}
		}
	}
	often(t, took, 100, "put", "drop", "set", "keep", "process", "next", "copy", "read", "instance", "not instance", "not process", "of", "not of", "same", "not same")
}

// reader reads in the chapter's words.
type reader struct{ *num.Reader }

func (r reader) n() int { return int(r.Int(-1, 4398046511104)) }

func (r reader) instance() api.Instance {
	i := api.Instance{ID: r.n(), Process: r.n(), State: r.n(), Code: r.Text(24)}
	i.Vars = vars.Take(r.Reader)
	for range r.Int(0, 40) {
		i.Tokens = append(i.Tokens, api.Token{ID: r.n(), Node: r.n(), In: r.n(), Stuck: r.Flag()})
	}
	i.Next = r.n()
	return i
}

func (r reader) task() api.Task {
	return api.Task{ID: r.n(), Instance: r.n(), Token: r.n(), Node: r.n(), Topic: r.Text(24), Priority: r.n(), Worker: r.Text(24), Epoch: r.n(), Expiry: int64(r.n()), After: int64(r.n()), Retries: r.n(), Broken: r.Flag()}
}

func (r reader) page() again.Page {
	p := again.Page{Worker: r.Text(24), Inc: r.n()}
	for range r.Int(0, 4) {
		p.Keys = append(p.Keys, r.n())
		p.Replies = append(p.Replies, []byte(r.Text(4000)))
	}
	return p
}

// readInWords is Read in the chapter's words.
func readInWords(b []byte) (plain, error) {
	var p plain
	r := reader{num.Read(b)}
	for range r.Int(0, 8) {
		p.processes = append(p.processes, process.Take(r.Reader))
	}
	for range r.Int(0, 60) {
		p.instances = append(p.instances, r.instance())
	}
	for range r.Int(0, 2400) {
		p.tasks = append(p.tasks, r.task())
	}
	for range r.Int(0, 6) {
		p.pages = append(p.pages, r.page())
	}
	p.nextInstance, p.nextTask = r.n(), r.n()
	err := r.Err()
	if err == nil && (r.Left() > 0 || !rises(p)) {
		err = api.ErrShape
	}
	return p, err
}

// rises tells whether tasks and pages stand in their order, each once, with keys, each once.
func rises(p plain) bool {
	for k, t := range p.tasks {
		if k > 0 && t.ID <= p.tasks[k-1].ID {
			return false
		}
	}
	for k, page := range p.pages {
		keys := map[int]int{}
		for _, key := range page.Keys {
			keys[key]++
		}
		if k > 0 && page.Worker <= p.pages[k-1].Worker || len(keys) == 0 || len(keys) < len(page.Keys) {
			return false
		}
	}
	return true
}

// wantRead holds Read of b against the chapter's words, and tells in a word what it answered.
func wantRead(t *testing.T, b []byte) string {
	t.Helper()
	want, wrong := readInWords(b)
	before := slices.Clone(b)
	s, err := Read(b)
	if err != wrong || (s == nil) != (err != nil) || !bytes.Equal(b, before) {
		t.Fatalf("read of %q: %v, not %v", b, err, wrong)
	}
	if err != nil {
		return err.Error()
	}
	stands(t, "read", s, want)
	if got := Bytes(s); !bytes.Equal(got, b) {
		t.Fatalf("read of %q: it is put as %q", b, got)
	}
	return "right"
}

// changed is b with a byte or two changed, cut off or put in.
func changed(x *chance, b []byte) []byte {
	b = slices.Clone(b)
	for range 1 + x.below(2) {
		at := x.below(len(b) + 1)
		switch {
		case x.below(3) == 0:
			b = slices.Insert(b, at, byte(x.below(256))>>x.below(8))
		case at == len(b):
		case x.below(3) == 0:
			b = slices.Delete(b, at, at+1)
		default:
			b[at] = byte(x.below(256)) >> x.below(8)
		}
	}
	return b
}

// somePage is a page that may be twice, have a key twice, or none.
func somePage(x *chance) again.Page {
	p := again.Page{Worker: someHead(x).Worker, Inc: someID(x)}
	for range rarely(x, 1+x.below(2), 0, 3, 4, 5) {
		p.Keys, p.Replies = append(p.Keys, someID(x)), append(p.Replies, []byte(someText(x)))
	}
	return p
}

// somePlain is lists in any order.
func somePlain(x *chance) plain {
	p := plain{several(x, 2, someProcess), several(x, 3, someInstance), several(x, 3, someTask), several(x, 3, somePage), someID(x), someID(x)}
	if x.below(3) > 0 {
		slices.SortFunc(p.tasks, func(a, b api.Task) int { return cmp.Compare(a.ID, b.ID) })
		slices.SortFunc(p.pages, func(a, b again.Page) int { return cmp.Compare(a.Worker, b.Worker) })
	}
	return p
}

func TestReadOfAnyBytes(t *testing.T) {
	x, took := chance(88675123), map[string]int{}
	for range 20000 {
		b := somePlain(&x).put().whole()
		took["put: "+wantRead(t, b)]++
		took["changed: "+wantRead(t, changed(&x, b))]++
		b = several(&x, 40, func(x *chance) byte { return byte(x.below(256)) >> x.below(8) })
		took["any: "+wantRead(t, b)]++
		took["any: "+wantRead(t, append([]byte{0, 0, 0}, b...))]++
	}
	often(t, took, 100, "put: right", "put: "+api.ErrShape.Error(), "put: "+api.ErrRange.Error(), "changed: right", "any: "+api.ErrLong.Error())
	for _, err := range []error{api.ErrEnd, api.ErrShape, api.ErrRange, api.ErrLong} {
		often(t, took, 100, "changed: "+err.Error())
	}
	often(t, took, 100, "any: "+api.ErrEnd.Error(), "any: "+api.ErrShape.Error(), "any: "+api.ErrRange.Error())
}
