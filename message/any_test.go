package message

import (
	"bytes"
	"math"
	"slices"
	"strings"
	"testing"

	"leasehold/api"
	"leasehold/num"
	"leasehold/process"
	"leasehold/vars"
)

// chance is a source of numbers in no plain order, the same each time.
type chance uint32

func (x *chance) below(n int) int {
	*x ^= *x << 13
	*x ^= *x >> 17
	*x ^= *x << 5
	return int(uint32(*x) >> 8 % uint32(n))
}

// one is one of l.
func one[T any](x *chance, l ...T) T { return l[x.below(len(l))] }

// rarely is most often the one, else one of l.
func rarely[T any](x *chance, most T, l ...T) T {
	if x.below(12) > 0 {
		return most
	}
	return one(x, l...)
}

// several is up to n of what is made.
func several[T any](x *chance, n int, made func(x *chance) T) []T {
	var l []T
	for range x.below(n + 1) {
		l = append(l, made(x))
	}
	return l
}

// someName is most often a name.
func someName(x *chance) string {
	return rarely(x, one(x, "a", "b", "c", "dd", "e-1", strings.Repeat("z", 24)), "", "A", "?", strings.Repeat("z", 25), "a b")
}

// someNumber is most often 1 to most.
func someNumber(x *chance, most int) int {
	return rarely(x, one(x, 1, most, 1+x.below(most)), 0, -1, -2, most+1, math.MaxInt, math.MinInt, 1<<30+1)
}

// someVars are most often some that may be.
func someVars(x *chance) []api.Var {
	var l []api.Var
	for k := range x.below(rarely(x, 4, 15)) {
		v := api.Var{Name: rarely(x, string(rune('a'+k)), "a", "A", ""), Value: one(x, vars.Number(int64(x.below(100))-50), vars.Flag(true), vars.Word("text"), vars.Word(strings.Repeat("x", 60)))}
		v.Value.Kind = rarely(x, v.Value.Kind, 0, 1, 2, 3, 4)
		l = append(l, v)
	}
	return l
}

// someProcess is most often one that may be.
func someProcess(x *chance) api.Process {
	p := one(x, definition(), wide(x.below(1000)))
	p.Name = someName(x)
	at := x.below(len(p.Flows))
	p.Flows[at].To = rarely(x, p.Flows[at].To, -1, 0, 1000, 30)
	at = x.below(len(p.Nodes))
	p.Nodes[at].Kind = rarely(x, p.Nodes[at].Kind, 0, 1, 4, 8)
	p.Nodes[at].Retries = rarely(x, p.Nodes[at].Retries, 0, 1, 10)
	return p
}

// has is which parts each Kind has, a letter each, in their order: Process, Name, Vars, tOpics, Max, Time, tasK, Epoch, Retries, Code.
func has(kind int) string {
	if kind < 1 || kind > 9 {
		return ""
	}
	return strings.Fields("P NV OMT KET KE KEV KERT KECV KR")[kind-1]
}

// someRequest is one of any Kind, with something in the parts that it has, and seldom in those that it has not.
func someRequest(x *chance) api.Request {
	r := api.Request{Head: api.Head{Worker: someName(x), Inc: someNumber(x, 1<<30), Key: someNumber(x, 1<<30)}, Kind: rarely(x, 1+x.below(9), 0, -1, 10)}
	for _, part := range "PNVOMTKERC" {
		if !strings.ContainsRune(has(r.Kind), part) && x.below(150) > 0 {
			continue
		}
		switch part {
		case 'P':
			r.Process = someProcess(x)
		case 'N':
			r.Name = someName(x)
		case 'V':
			r.Vars = someVars(x)
		case 'O':
			r.Topics = several(x, 7, someName)
			if x.below(8) > 0 {
				slices.Sort(r.Topics)
				r.Topics = slices.Compact(r.Topics)
			}
		case 'M':
			r.Max = someNumber(x, 5)
		case 'T':
			r.Time = int64(someNumber(x, 1000))
		case 'K':
			r.Task = someNumber(x, 1<<30)
		case 'E':
			r.Epoch = someNumber(x, 60)
		case 'R':
			r.Retries = someNumber(x, 9)
		case 'C':
			r.Code = someName(x)
		}
	}
	return r
}

// put is a part in bytes, and whether it isn't its zero value.
func put(r api.Request, part rune) ([]byte, bool) {
	switch part {
	case 'P':
		return process.Put(nil, r.Process), r.Process.Name != "" || len(r.Process.Nodes)+len(r.Process.Flows) > 0
	case 'N':
		return num.PutText(nil, r.Name), r.Name != ""
	case 'V':
		return vars.Put(nil, r.Vars), len(r.Vars) > 0
	case 'O':
		b := num.Put(nil, int64(len(r.Topics)))
		for _, topic := range r.Topics {
			b = num.PutText(b, topic)
		}
		return b, len(r.Topics) > 0
	case 'M':
		return num.Put(nil, int64(r.Max)), r.Max != 0
	case 'T':
		return num.Put(nil, r.Time), r.Time != 0
	case 'K':
		return num.Put(nil, int64(r.Task)), r.Task != 0
	case 'E':
		return num.Put(nil, int64(r.Epoch)), r.Epoch != 0
	case 'R':
		return num.Put(nil, int64(r.Retries)), r.Retries != 0
	}
	return num.PutText(nil, r.Code), r.Code != ""
}

// out is api.ErrRange where n is not least to most.
func out(n, least, most int64) error {
	if n < least || n > most {
		return api.ErrRange
	}
	return nil
}

// amiss is what is amiss with a part that r's Kind has.
func amiss(r api.Request, part rune) error {
	least := int64(1)
	if r.Kind == api.Fail {
		least = 0
	}
	switch part {
	case 'P':
		return process.Check(r.Process)
	case 'V':
		return vars.Check(r.Vars)
	case 'O':
		times := map[string]int{}
		for _, topic := range r.Topics {
			times[topic]++
		}
		switch {
		case len(r.Topics) == 0 || len(r.Topics) > 6:
			return api.ErrMany
		case slices.ContainsFunc(r.Topics, func(s string) bool { return !vars.Name(s) }):
			return api.ErrName
		case len(times) < len(r.Topics):
			return api.ErrTwice
		}
		return nil
	case 'M':
		return out(int64(r.Max), 1, 5)
	case 'T':
		return out(r.Time, least, 1000)
	case 'K':
		return out(int64(r.Task), 1, 1073741824)
	case 'E':
		return out(int64(r.Epoch), 1, 60)
	case 'R':
		return out(int64(r.Retries), least, 9)
	}
	if s := r.Name + r.Code; !vars.Name(s) {
		return api.ErrName
	}
	return nil
}

// checkedInWords is Check in the chapter's words.
func checkedInWords(r api.Request) error {
	if !vars.Name(r.Worker) {
		return api.ErrName
	}
	if out(int64(r.Inc), 1, 1073741824) != nil || out(int64(r.Key), 1, 1073741824) != nil {
		return api.ErrRange
	}
	if has(r.Kind) == "" {
		return api.ErrShape
	}
	for _, part := range "PNVOMTKERC" {
		if _, is := put(r, part); is && !strings.ContainsRune(has(r.Kind), part) {
			return api.ErrShape
		}
	}
	for _, part := range has(r.Kind) {
		if err := amiss(r, part); err != nil {
			return err
		}
	}
	return nil
}

// putInWords is Bytes in the chapter's words.
func putInWords(r api.Request) ([]byte, error) {
	if err := checkedInWords(r); err != nil {
		return nil, err
	}
	b := num.PutText(nil, r.Worker)
	b = num.Put(b, int64(r.Inc), int64(r.Key), int64(r.Kind))
	for _, part := range has(r.Kind) {
		more, _ := put(r, part)
		b = append(b, more...)
	}
	if len(b) > 4000 {
		return nil, api.ErrLong
	}
	return b, nil
}

// readInWords is Read in the chapter's words.
func readInWords(b []byte) (api.Request, error) {
	const most = 1073741824
	var q api.Request
	r := num.Read(b)
	q.Worker = r.Text(24)
	q.Inc = int(r.Int(0, most))
	q.Key = int(r.Int(0, most))
	q.Kind = int(r.Int(0, 100))
	for _, part := range has(q.Kind) {
		switch part {
		case 'P':
			q.Process = process.Take(r)
		case 'N':
			q.Name = r.Text(24)
		case 'V':
			q.Vars = vars.Take(r)
		case 'O':
			for range r.Int(0, 6) {
				q.Topics = append(q.Topics, r.Text(24))
			}
		case 'M':
			q.Max = int(r.Int(-1, most))
		case 'T':
			q.Time = r.Int(-1, most)
		case 'K':
			q.Task = int(r.Int(0, most))
		case 'E':
			q.Epoch = int(r.Int(-1, most))
		case 'R':
			q.Retries = int(r.Int(-1, most))
		case 'C':
			q.Code = r.Text(24)
		}
	}
	err := r.Err()
	if err == nil && (has(q.Kind) == "" || r.Left() > 0) {
		err = api.ErrShape
	}
	if err == nil {
		err = checkedInWords(q)
	}
	if err != nil {
		return api.Request{}, err
	}
	return q, nil
}

// named tells an error in a word, without its place.
func named(err error) string {
	if place, is := err.(*api.At); is {
		return "at " + place.Err.Error()
	}
	if err == nil {
		return "right"
	}
	return err.Error()
}

// often holds that each of these came so many times.
func often(t *testing.T, took map[string]int, least int, l ...error) {
	t.Helper()
	for _, err := range l {
		if took[named(err)] < least {
			t.Errorf("%s: only %d times", named(err), took[named(err)])
		}
	}
}

// wantRead holds Read of b against the chapter's words, and tells in a word what it answered.
func wantRead(t *testing.T, b []byte) string {
	t.Helper()
	want, wrong := readInWords(b)
	got, err := Read(b)
	if !Same(got, want) || !sameError(err, wrong) {
		t.Fatalf("read of %q: %v, %v, not %v, %v", b, got, err, want, wrong)
	}
	if back, wrong := Bytes(got); err == nil && wrong == nil && !bytes.Equal(back, b) {
		t.Fatalf("read of %q: it is put as %q", b, back)
	}
	return named(err)
}

// changed is b with a byte or two changed, cut off or put in.
func changed(x *chance, b []byte) []byte {
	b = slices.Clone(b)
	for range 1 + x.below(2) {
		at := x.below(len(b) + 1)
		switch {
		case x.below(3) == 0:
			b = slices.Insert(b, at, byte(x.below(256))>>x.below(8))
		case at == len(b):
		case x.below(3) == 0:
			b = slices.Delete(b, at, at+1)
		default:
			b[at] = byte(x.below(256)) >> x.below(8)
		}
	}
	return b
}

func TestAnyRequest(t *testing.T) {
	x, took, read := chance(2463534242), map[string]int{}, map[string]int{}
	for range 40000 {
		r := someRequest(&x)
		if err, want := Check(r), checkedInWords(r); !sameError(err, want) {
			t.Fatalf("%v: %v, not %v", r, err, want)
		}
		want, wrong := putInWords(r)
		b, err := Bytes(r)
		if !bytes.Equal(b, want) || !sameError(err, wrong) || err != nil && b != nil {
			t.Fatalf("bytes of %v: %q, %v, not %q, %v", r, b, err, want, wrong)
		}
		took[named(err)]++
		if err != nil {
			continue
		}
		if got, err := Read(b); !Same(got, r) || err != nil {
			t.Fatalf("%v: read back as %v, %v", r, got, err)
		}
		read[wantRead(t, changed(&x, b))]++
		// All the same, but for the Head and the Kind, so that Check is asked much.
		q := someRequest(&x)
		q.Head = r.Head
		var more []byte
		for _, part := range has(q.Kind) {
			part, _ := put(q, part)
			more = append(more, part...)
		}
		read[wantRead(t, append(num.Put(headBytes(q.Head), int64(q.Kind)), more...))]++
	}
	often(t, took, 50, nil, api.ErrName, api.ErrRange, api.ErrShape, api.ErrMany, api.ErrTwice, at(0, api.ErrName), at(0, api.ErrShape), at(0, api.ErrRange), at(0, api.ErrType))
	often(t, read, 50, nil, api.ErrEnd, api.ErrName, api.ErrRange, api.ErrShape, api.ErrMany, api.ErrTwice, api.ErrLong, at(0, api.ErrName), at(0, api.ErrShape), at(0, api.ErrRange), at(0, api.ErrType))
}

// wild is one with anything anywhere.
func wild(x *chance) api.Request {
	n := func() int { return one(x, 0, 1, -1, 9, 60, 1<<30, math.MaxInt, math.MinInt) }
	return api.Request{Head: api.Head{Worker: someName(x), Inc: n(), Key: n()}, Kind: n(), Process: someProcess(x), Name: someName(x), Vars: someVars(x), Topics: several(x, 7, someName), Max: n(), Time: int64(n()), Task: n(), Epoch: n(), Retries: n(), Code: someName(x)}
}

func TestWildRequests(t *testing.T) {
	x := chance(88172645)
	for range 5000 {
		r := wild(&x)
		if err, want := Check(r), checkedInWords(r); !sameError(err, want) || want == nil {
			t.Fatalf("%v: %v, not %v", r, err, want)
		}
		if q := wild(&x); !Same(r, r) || Same(r, q) != Same(q, r) {
			t.Fatalf("%v and %v", r, q)
		}
	}
	for range 20000 {
		b := several(&x, 30, func(x *chance) byte { return byte(x.below(256)) >> x.below(8) })
		wantRead(t, b)
		wantRead(t, append([]byte("\x02w\x02\x02"), b...))
		wantAnswer(t, b)
	}
}

// answerInWords is ReadAnswer in the chapter's words.
func answerInWords(b []byte) (api.Reply, error) {
	const most, long = 1073741824, 4398046511104
	var a api.Reply
	r := num.Read(b)
	a.Worker = r.Text(24)
	a.Inc = int(r.Int(0, most))
	a.Key = int(r.Int(0, most))
	a.Code = int(r.Int(0, most))
	a.ID = int(r.Int(0, long))
	for range r.Int(0, 5) {
		var j api.Job
		j.Task = int(r.Int(0, most))
		j.Epoch = int(r.Int(0, most))
		j.Expiry = r.Int(0, long)
		j.Topic = r.Text(24)
		j.Vars = vars.Take(r)
		a.Jobs = append(a.Jobs, j)
	}
	if err := r.Done(); err != nil {
		return api.Reply{}, err
	}
	return a, nil
}

// wantAnswer holds ReadAnswer of b against the chapter's words, and tells in a word what it answered.
func wantAnswer(t *testing.T, b []byte) string {
	t.Helper()
	want, wrong := answerInWords(b)
	got, err := ReadAnswer(b)
	if !SameAnswer(got, want) || err != wrong {
		t.Fatalf("read of %q: %v, %v, not %v, %v", b, got, err, want, wrong)
	}
	if back, wrong := AnswerBytes(got); err == nil && wrong == nil && !bytes.Equal(back, b) {
		t.Fatalf("read of %q: it is put as %q", b, back)
	}
	return named(err)
}

// someReply is one of up to seven jobs, with numbers that it may have.
func someReply(x *chance) api.Reply {
	n := func() int { return one(x, 0, 1, 63, 64, 1<<30, x.below(1000)) }
	long := func() int { return one(x, n(), 1<<31, 1<<42) }
	r := api.Reply{Head: api.Head{Worker: one(x, "", "w", "?", strings.Repeat("w", 24)), Inc: n(), Key: n()}, Code: n(), ID: long()}
	for range rarely(x, x.below(6), 6, 7) {
		l := someVars(x)[:0]
		for _, v := range someVars(x) {
			if v.Value.Kind > 0 && v.Value.Kind < 4 {
				l = append(l, v)
			}
		}
		if x.below(3) == 0 {
			l = manyVars(12)
		}
		r.Jobs = append(r.Jobs, api.Job{Task: n(), Epoch: n(), Expiry: int64(long()), Topic: one(x, "", "t", "T"), Vars: l[:min(len(l), 12)]})
	}
	return r
}

// replyInWords is AnswerBytes in the chapter's words.
func replyInWords(r api.Reply) ([]byte, error) {
	b := num.Put(num.PutText(nil, r.Worker), int64(r.Inc), int64(r.Key), int64(r.Code), int64(r.ID), int64(len(r.Jobs)))
	for _, j := range r.Jobs {
		b = num.PutText(num.Put(b, int64(j.Task), int64(j.Epoch), j.Expiry), j.Topic)
		b = vars.Put(b, j.Vars)
	}
	if len(b) > 4000 {
		return nil, api.ErrLong
	}
	if len(r.Jobs) > 5 {
		return nil, api.ErrMany
	}
	return b, nil
}

func TestAnyAnswer(t *testing.T) {
	x, took, read := chance(521288629), map[string]int{}, map[string]int{}
	for range 20000 {
		r := someReply(&x)
		want, wrong := replyInWords(r)
		b, err := AnswerBytes(r)
		if !bytes.Equal(b, want) || err != wrong || err != nil && b != nil {
			t.Fatalf("bytes of %v: %q, %v, not %q, %v", r, b, err, want, wrong)
		}
		took[named(err)]++
		if err != nil {
			continue
		}
		if got, err := ReadAnswer(b); !SameAnswer(got, r) || err != nil {
			t.Fatalf("%v: read back as %v, %v", r, got, err)
		}
		read[wantAnswer(t, changed(&x, b))]++
	}
	often(t, took, 50, nil, api.ErrLong, api.ErrMany)
	often(t, read, 50, nil, api.ErrEnd, api.ErrRange, api.ErrShape, api.ErrLong)
}
