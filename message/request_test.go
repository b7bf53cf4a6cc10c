package message

import (
	"bytes"
	"math"
	"slices"
	"strings"
	"testing"

	"leasehold/api"
	"leasehold/num"
	"leasehold/process"
	"leasehold/vars"
)

// P13.2

// definitionBytes and listBytes are what definition and list are put as.
const (
	definitionBytes = "\x02p\x06\x02\x00\x00\x00\x01\x00\x00\x01\x08\x02t\x02\x04\x01\x00\x00\x01\x04\x00\x00\x00\x01\x00\x00\x01\x04\x00\x02\x00\x02\x04\x00"
	listBytes       = "\x04\x02a\x02\x05\x00\x02b\x06\x00\x08text"
)

// askedBytes is what asked of that Kind is put as.
func askedBytes(kind int) string {
	return "\x02w\x04\x06" + []string{"", "\x02" + definitionBytes, "\x04\x02n" + listBytes, "\x06\x04\x02u\x02t\x08\x0a", "\x08\x0e\x10\x12", "\x0a\x0e\x10", "\x0c\x0e\x10" + listBytes, "\x0e\x0e\x10\x0c\x12", "\x10\x0e\x10\x02c" + listBytes, "\x12\x0e\x0c"}[kind]
}

// greatest is a request of that Kind with all as great as it may be.
func greatest(kind int) api.Request {
	r := asked(kind)
	long := strings.Repeat("z", 24)
	r.Head = api.Head{Worker: long, Inc: 1 << 30, Key: 1 << 30}
	if r.Task > 0 {
		r.Task = 1 << 30
	}
	if r.Epoch > 0 {
		r.Epoch = 60
	}
	if r.Retries > 0 {
		r.Retries = 9
	}
	if r.Time > 0 {
		r.Time = 1000
	}
	if r.Vars != nil {
		r.Vars = manyVars(12)
	}
	switch kind {
	case api.Deploy:
		r.Process = wide(0)
	case api.Begin:
		r.Name = long
	case api.Fetch:
		r.Topics, r.Max = []string{long, long[1:] + "y", long[1:] + "x", "a" + long[1:], "b" + long[1:], "c" + long[1:]}, 5
	case api.Throw:
		r.Code = long
	}
	return r
}

// wide is a process of so many nodes and flows as there may be, with so many spaces in the conditions of its flows in all.
func wide(spaces int) api.Process {
	long := strings.Repeat("c", 24)
	p := api.Process{Name: long, Nodes: []api.Node{{Kind: api.Start, Default: -1, To: -1}, {Kind: api.Exclusive, Default: -1, To: -1}}, Flows: []api.Flow{{From: 0, To: 1}}}
	for to := 2; to < 30; to++ {
		p.Nodes = append(p.Nodes, api.Node{Kind: api.Failure, Code: long, Default: -1, To: -1})
		for range 2 {
			n := min(spaces, 76)
			spaces -= n
			p.Flows = append(p.Flows, api.Flow{From: 1, To: to, Cond: strings.Repeat(" ", n) + "true"})
		}
	}
	return p
}

func TestNumbersOfWays(t *testing.T) {
	if got := [...]int{Ask, Answer}; got != [...]int{1, 2} {
		t.Errorf("%v", got)
	}
}

func TestBytesOfEachKind(t *testing.T) {
	for _, kind := range kinds() {
		b, err := Bytes(asked(kind))
		if string(b) != askedBytes(kind) || err != nil {
			t.Errorf("%s: %q, %v, not %q", kindName(kind), b, err, askedBytes(kind))
		}
	}
	r := asked(api.Begin)
	r.Vars = nil
	if b, err := Bytes(r); string(b) != "\x02w\x04\x06\x04\x02n\x00" || err != nil {
		t.Errorf("no vars: %q, %v", b, err)
	}
	if b, err := Bytes(api.Request{}); b != nil || err != api.ErrName {
		t.Errorf("the zero value: %q, %v", b, err)
	}
}

func TestBytesThatAreTooLong(t *testing.T) {
	r := api.Request{Head: api.Head{Worker: "w", Inc: 1, Key: 1}, Kind: api.Deploy, Process: wide(0)}
	b, err := Bytes(r)
	if err != nil {
		t.Fatal(err)
	}
	// Some conditions have so many spaces then that their length takes two bytes: the spaces that are wanted are looked for.
	at := map[int]int{}
	for spaces := range 4000 - len(b) + 1 {
		r.Process = wide(spaces)
		if Check(r) != nil {
			t.Fatalf("%d spaces: %v", spaces, Check(r))
		}
		long := len(askedBytes(api.Deploy)) - len(definitionBytes) + len(process.Put(nil, r.Process))
		at[long]++
		got, err := Bytes(r)
		if long <= 4000 && (len(got) != long || err != nil) || long > 4000 && (got != nil || err != api.ErrLong) {
			t.Fatalf("%d bytes: %d, %v", long, len(got), err)
		}
		if back, err := Read(got); long <= 4000 && (!Same(back, r) || err != nil) {
			t.Fatalf("%d bytes: %v", long, err)
		}
	}
	if at[4000] == 0 || at[4001] == 0 || at[3999] == 0 {
		t.Errorf("there were none of 3999, 4000 and 4001 bytes")
	}
	// What may not be asked is told ahead of what is too long.
	r.Process = wide(5000)
	if _, err := Bytes(r); err != api.ErrLong {
		t.Errorf("%v", err)
	}
	r.Process.Flows[3].To = 1000
	if _, err := Bytes(r); !sameError(err, at103()) {
		t.Errorf("%v", err)
	}
}

// at103 is what is told of the flow at 3 that leads nowhere.
func at103() error { return at(103, api.ErrRange) }

func TestReadGivesBackWhatWasPut(t *testing.T) {
	for _, kind := range kinds() {
		for _, r := range []api.Request{asked(kind), greatest(kind)} {
			b, err := Bytes(r)
			if err != nil {
				t.Errorf("%s: %v", kindName(kind), err)
			}
			before := slices.Clone(b)
			got, err := Read(b)
			if !Same(got, r) || err != nil || !bytes.Equal(b, before) {
				t.Errorf("%s: %v, %v, not %v", kindName(kind), got, err, r)
			}
		}
	}
}

// readsNothing holds that Read answers nothing beside that error.
func readsNothing(t *testing.T, what string, b []byte, want error) {
	t.Helper()
	if got, err := Read(b); !Same(got, api.Request{}) || !sameError(err, want) {
		t.Errorf("%s: %v, %v, not %v", what, got, err, want)
	}
}

func TestReadOfWhatIsCutOrTooLong(t *testing.T) {
	readsNothing(t, "nothing", nil, api.ErrEnd)
	for _, kind := range kinds() {
		for _, r := range []api.Request{asked(kind), greatest(kind)} {
			b, _ := Bytes(r)
			for n := range b {
				// Behind the bytes lies what was cut off: it isn't read.
				readsNothing(t, kindName(kind), b[:n], api.ErrEnd)
			}
			readsNothing(t, kindName(kind), append(slices.Clone(b), 0), api.ErrShape)
			readsNothing(t, kindName(kind), slices.Concat(b, b), api.ErrShape)
		}
	}
}

// field is a part of a request in bytes: a number of least to most, or a text of up to 24 bytes, of which Check may say more.
type field struct {
	what        string
	least, most int64
	text        bool
	check       func(n int64) error // what Check says of a number that was read
}

// checked is what Check says of a number that has to be least to most.
func checked(least, most int64) func(n int64) error {
	return func(n int64) error {
		if n < least || n > most {
			return api.ErrRange
		}
		return nil
	}
}

// fields are those of that Kind's bytes, but for those of vars and process.
func fields(kind int) []field {
	head := []field{{what: "worker", text: true}, {"inc", 0, 1 << 30, false, checked(1, 1<<30)}, {"key", 0, 1 << 30, false, checked(1, 1<<30)}}
	task, epoch := field{"task", 0, 1 << 30, false, checked(1, 1<<30)}, field{"epoch", -1, 1 << 30, false, checked(1, 60)}
	span, kindField := field{"time", -1, 1 << 30, false, checked(1, 1000)}, field{"kind", int64(kind), int64(kind), false, checked(int64(kind), int64(kind))}
	head = append(head, kindField)
	switch kind {
	case api.Begin:
		return append(head, field{what: "name", text: true})
	case api.Fetch:
		many := field{"how many topics", 2, 2, false, checked(2, 2)}
		return append(head, many, field{what: "topic", text: true}, field{what: "topic", text: true}, field{"max", -1, 1 << 30, false, checked(1, 5)}, span)
	case api.Extend:
		return append(head, task, epoch, span)
	case api.Unlock, api.Complete:
		return append(head, task, epoch)
	case api.Fail:
		return append(head, task, epoch, field{"retries", -1, 1 << 30, false, checked(0, 9)}, field{"time", -1, 1 << 30, false, checked(0, 1000)})
	case api.Throw:
		return append(head, task, epoch, field{what: "code", text: true})
	case api.Repair:
		return append(head, task, field{"retries", -1, 1 << 30, false, checked(1, 9)})
	}
	return head
}

// withField is askedBytes of that Kind, with b in the place of the field at that place.
func withField(kind, place int, b []byte) []byte {
	whole := []byte(askedBytes(kind))
	from := 0
	for k, f := range fields(kind) {
		r := num.Read(whole[from:])
		if f.text {
			r.Text(24)
		} else {
			r.Int(0, 1<<30)
		}
		to := len(whole) - r.Left()
		if k == place {
			return slices.Concat(whole[:from], b, whole[to:])
		}
		from = to
	}
	return nil
}

func TestReadsFaults(t *testing.T) {
	for _, kind := range kinds() {
		for k, f := range fields(kind) {
			what := kindName(kind) + " with another " + f.what
			if f.text {
				readsNothing(t, what, withField(kind, k, num.PutText(nil, strings.Repeat("a", 25))), api.ErrLong)
				readsNothing(t, what, withField(kind, k, num.PutText(nil, strings.Repeat("A", 24))), api.ErrName)
				readsNothing(t, what, withField(kind, k, num.PutText(nil, "")), api.ErrName)
				readsNothing(t, what, withField(kind, k, num.Put(nil, -1)), api.ErrRange)
				readsNothing(t, what, withField(kind, k, []byte{0x82, 0}), api.ErrShape)
				if _, err := Read(withField(kind, k, num.PutText(nil, strings.Repeat("z", 24)))); err != nil {
					t.Errorf("%s: %v", what, err)
				}
				continue
			}
			readsNothing(t, what, withField(kind, k, bytes.Repeat([]byte{0xFF}, 11)), api.ErrShape)
			readsNothing(t, what, withField(kind, k, []byte{0x82, 0}), api.ErrShape)
			if f.least == f.most {
				continue
			}
			for _, n := range []int64{f.least - 1, f.most + 1, 1 << 32, 1<<32 + 1, math.MaxInt64, math.MinInt64} {
				readsNothing(t, what, withField(kind, k, num.Put(nil, n)), api.ErrRange)
			}
			for _, n := range []int64{f.least, 0, 1, 5, 6, 9, 10, 60, 61, 1000, 1001, f.most} {
				if want := f.check(n); want != nil {
					readsNothing(t, what, withField(kind, k, num.Put(nil, n)), want)
				} else if _, err := Read(withField(kind, k, num.Put(nil, n))); err != nil {
					t.Errorf("%s: %d: %v", what, n, err)
				}
			}
		}
	}
}

// What Read tells by itself comes ahead of what Check tells, and of that what num tells ahead of the shape.
func TestReadInOrder(t *testing.T) {
	for _, c := range []struct {
		b    string
		want error
	}{
		{"", api.ErrEnd}, {"\x32", api.ErrLong}, {"\x02W", api.ErrEnd}, {"\x02W\x00\x00", api.ErrEnd}, {"\x02W\x01", api.ErrRange},
		// Kinds
		{"\x02w\x04\x06\x01", api.ErrRange}, {"\x02w\x04\x06\xca\x01", api.ErrRange}, {"\x02w\x04\x06\xc8\x01", api.ErrShape}, {"\x02w\x04\x06\x00", api.ErrShape}, {"\x02w\x04\x06\x14", api.ErrShape}, {"\x02w\x04\x06\x14\x00", api.ErrShape}, {"\x02W\x00\x00\x14", api.ErrShape}, {"\x02W\x00\x00\x14\x0e\x10", api.ErrShape},
		// bytes that are left, and a worker, a life, a task that may not be
		{"\x02W\x00\x06\x0a\x00\x00\x00", api.ErrShape}, {"\x02W\x00\x06\x0a\x00\x00", api.ErrName}, {"\x02w\x00\x06\x0a\x00\x00", api.ErrRange}, {"\x02w\x02\x06\x0a\x02\x02", nil}, {"\x02W\x00\x06\x0a\x00\x03", api.ErrRange}, {"\x02W\x00\x06\x0a\x00", api.ErrEnd},
		// topics
		{"\x02w\x04\x06\x06\x00\x02\x02", api.ErrMany}, {"\x02w\x04\x06\x06\x00\x02\x02\x00", api.ErrShape}, {"\x02w\x04\x06\x06\x0e", api.ErrRange}, {"\x02w\x04\x06\x06\x01", api.ErrRange}, {"\x02w\x04\x06\x06\x0c\x02a\x02b\x02c\x02d\x02e\x02f\x02\x02", nil}, {"\x02w\x04\x06\x06\x04\x02a\x02a\x02\x02", api.ErrTwice}, {"\x02w\x04\x06\x06\x04\x02a\x02a\x02\x03", api.ErrRange}, {"\x02w\x04\x06\x06\x04\x02a\x02?\x00\x02", api.ErrName}, {"\x02w\x04\x06\x06\x02\x02a\x00\x02", api.ErrRange},
		// variables and processes: num's of them, and what is said around a place
		{"\x02w\x04\x06\x04\x02n\x1a", api.ErrRange}, {"\x02w\x04\x06\x04\x02n\x02\x02a\x08\x00\x00", api.ErrRange}, {"\x02w\x04\x06\x04\x02n\x02\x02A\x02\x00\x00", at(0, api.ErrName)}, {"\x02w\x04\x06\x04\x02n\x04\x02a\x02\x00\x00\x02a\x02\x00\x00", at(1, api.ErrTwice)}, {"\x02w\x04\x06\x0c\x0e\x10\x02\x02a\x02\x00\x02x", at(0, api.ErrType)}, {"\x02w\x04\x06\x10\x0e\x10\x02c\x02\x02a\x02\x00\x7a", api.ErrLong},
		{"\x02w\x04\x06\x02\x02p\x3e", api.ErrRange}, {"\x02w\x04\x06\x02\x02p\x00\x00", api.ErrMany}, {"\x02w\x04\x06\x02\x02p\x00\x7a", api.ErrRange}, {"\x02w\x04\x06\x02\x02P\x00\x00", api.ErrName}, {"\x02w\x04\x06\x02" + strings.Replace(definitionBytes, "\x02t", "\x02T", 1), at(1, api.ErrName)}, {"\x02w\x04\x06\x02" + definitionBytes[:len(definitionBytes)-2] + "\x06\x00", at(101, api.ErrRange)},
	} {
		if c.want != nil {
			readsNothing(t, c.b, []byte(c.b), c.want)
		} else if got, err := Read([]byte(c.b)); err != nil || Check(got) != nil {
			t.Errorf("%q: %v", c.b, err)
		}
	}
}

// No frame has so many bytes, but nothing is said of that where they are read.
func TestReadOfMoreThanAFrame(t *testing.T) {
	p := wide(5000)
	b := process.Put([]byte("\x02w\x04\x06\x02"), p)
	if len(b) <= 4000 {
		t.Fatalf("%d bytes", len(b))
	}
	if got, err := Read(b); err != nil || !Same(got, api.Request{Head: api.Head{Worker: "w", Inc: 2, Key: 3}, Kind: api.Deploy, Process: p}) {
		t.Errorf("%v", err)
	}
}

// spoil writes into all memory of l, spare room too.
func spoil[T any](l []T, with T) {
	_ = append(l, with)
	l = l[:cap(l)]
	for k := range l {
		l[k] = with
	}
}

// spoilRequest writes into each list of r.
func spoilRequest(r api.Request) {
	spoil(r.Vars, api.Var{Name: "spoiled"})
	spoil(r.Topics, "spoiled")
	spoil(r.Process.Nodes, api.Node{Topic: "spoiled"})
	spoil(r.Process.Flows, api.Flow{Cond: "spoiled"})
}

func TestWhatIsHandedOutIsNewMemory(t *testing.T) {
	for _, kind := range kinds() {
		r := asked(kind)
		first, _ := Bytes(r)
		second, _ := Bytes(r)
		one, _ := Read(second)
		two, _ := Read(second)
		spoil(first, 0xFF)
		spoilRequest(one)
		if string(second) != askedBytes(kind) || !Same(r, asked(kind)) || !Same(two, asked(kind)) {
			t.Errorf("%s: it shares memory", kindName(kind))
		}
		spoil(second, 0xFF)
		spoilRequest(r)
		if !Same(two, asked(kind)) {
			t.Errorf("%s: what was read shares memory with the bytes", kindName(kind))
		}
	}
}

func TestSame(t *testing.T) {
	for _, a := range kinds() {
		for _, b := range kinds() {
			if Same(asked(a), asked(b)) != (a == b) {
				t.Errorf("%s and %s: not %t", kindName(a), kindName(b), a == b)
			}
		}
		for _, p := range pieces() {
			r := asked(a)
			p.set(&r)
			if !Same(r, r) || !Same(r, copied(r)) {
				t.Errorf("%s with a %s isn't the same as itself", kindName(a), p.what)
			}
		}
	}
	if !Same(api.Request{}, api.Request{Vars: []api.Var{}, Topics: []string{}, Process: api.Process{Nodes: []api.Node{}, Flows: []api.Flow{}}}) {
		t.Error("no list isn't the same as an empty one")
	}
}

// Each field is held against that of the other one.
func TestSameOfOneFieldThatIsAnother(t *testing.T) {
	full := func() api.Request {
		return api.Request{Head: api.Head{Worker: "w", Inc: 1, Key: 2}, Kind: 3, Process: definition(), Name: "n", Vars: list(), Topics: []string{"t", "u"}, Max: 4, Time: 5, Task: 6, Epoch: 7, Retries: 8, Code: "c"}
	}
	if !Same(full(), full()) {
		t.Error("not the same")
	}
	for k, set := range []func(r *api.Request){
		func(r *api.Request) { r.Worker = "v" }, func(r *api.Request) { r.Inc = 9 }, func(r *api.Request) { r.Key = 9 }, func(r *api.Request) { r.Kind = 9 },
		func(r *api.Request) { r.Process.Name = "q" }, func(r *api.Request) { r.Process.Nodes[1].Retries = 9 }, func(r *api.Request) { r.Process.Nodes[2].Default = 9 }, func(r *api.Request) { r.Process.Nodes = r.Process.Nodes[:2] }, func(r *api.Request) { r.Process.Nodes = nil }, func(r *api.Request) { r.Process.Flows[1].Cond = "x" }, func(r *api.Request) { r.Process.Flows = r.Process.Flows[:1] },
		func(r *api.Request) { r.Name = "m" }, func(r *api.Request) { r.Vars[0].Value.N = 9 }, func(r *api.Request) { r.Vars[1].Name = "c" }, func(r *api.Request) { r.Vars = r.Vars[:1] }, func(r *api.Request) { r.Vars = nil },
		func(r *api.Request) { r.Topics[1] = "t" }, func(r *api.Request) { slices.Reverse(r.Topics) }, func(r *api.Request) { r.Topics = r.Topics[:1] }, func(r *api.Request) { r.Topics = append(r.Topics, "v") },
		func(r *api.Request) { r.Max = 9 }, func(r *api.Request) { r.Time = 9 }, func(r *api.Request) { r.Task = 9 }, func(r *api.Request) { r.Epoch = 9 }, func(r *api.Request) { r.Retries = 9 }, func(r *api.Request) { r.Code = "d" },
	} {
		r := full()
		set(&r)
		if Same(r, full()) || Same(full(), r) || !Same(r, copied(r)) {
			t.Errorf("%d: %v", k, r)
		}
	}
}

func TestVeryLongRequests(t *testing.T) {
	const n = 1 << 20
	long := strings.Repeat("x", n)
	r := asked(api.Fetch)
	r.Topics = slices.Repeat([]string{long}, n)
	if err := Check(r); err != api.ErrMany {
		t.Errorf("%v", err)
	}
	r = asked(api.Begin)
	r.Vars = slices.Repeat([]api.Var{{Name: long, Value: vars.Word(long)}}, n)
	if b, err := Bytes(r); b != nil || err != api.ErrMany || !Same(r, r) {
		t.Errorf("%v", err)
	}
	r = asked(api.Deploy)
	r.Process.Nodes, r.Process.Flows = make([]api.Node, n), make([]api.Flow, n)
	if b, err := Bytes(r); b != nil || err != api.ErrMany {
		t.Errorf("%v", err)
	}
	readsNothing(t, "very many bytes", make([]byte, n), api.ErrShape)
	readsNothing(t, "very many bytes behind a good one", append([]byte(askedBytes(api.Unlock)), make([]byte, n)...), api.ErrShape)
}
