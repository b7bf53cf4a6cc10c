package message

import (
	"bytes"
	"math"
	"slices"
	"strings"
	"testing"

	"leasehold/api"
	"leasehold/num"
	"leasehold/vars"
)

// P13.3

// answered is a reply with something else in each field, in memory of its own.
func answered() api.Reply {
	return api.Reply{Head: api.Head{Worker: "w", Inc: 2, Key: 3}, Code: 4, ID: 5, Jobs: []api.Job{
		{Task: 6, Epoch: 7, Expiry: 8, Topic: "t", Vars: list()},
		{Task: 9, Epoch: 10, Expiry: 11, Topic: "u"},
	}}
}

const answeredBytes = "\x02w\x04\x06\x08\x0a\x04\x0c\x0e\x10\x02t" + listBytes + "\x12\x14\x16\x02u\x00"

// greatestAnswer has all as great as it may be, but for the variables.
func greatestAnswer() api.Reply {
	long := strings.Repeat("?", 24)
	job := api.Job{Task: 1 << 30, Epoch: 1 << 30, Expiry: 1 << 42, Topic: long}
	return api.Reply{Head: api.Head{Worker: long, Inc: 1 << 30, Key: 1 << 30}, Code: 1 << 30, ID: 1 << 42, Jobs: []api.Job{job, job, job, job, job}}
}

// answers are some that can be put and taken back.
func answers() []api.Reply {
	big := api.Job{Task: 1, Topic: "a", Vars: manyVars(12)}
	odd := api.Job{Topic: "No Topic", Vars: []api.Var{{Name: "?", Value: api.Value{Kind: api.Bool, N: 7, S: "x"}}, {Value: vars.Number(math.MinInt64)}}}
	return []api.Reply{
		{}, answered(), greatestAnswer(), {Head: api.Head{Worker: "No Worker"}, Code: 9}, {Jobs: []api.Job{{}}}, {Jobs: make([]api.Job, 5)},
		{Jobs: []api.Job{big, {}, big, {Topic: "b"}, big}}, {Jobs: []api.Job{odd, odd}},
	}
}

func TestAnswerBytesOfKnownReplies(t *testing.T) {
	for _, c := range []struct {
		r    api.Reply
		want string
	}{
		{api.Reply{}, "\x00\x00\x00\x00\x00\x00"}, {api.Reply{Jobs: []api.Job{}}, "\x00\x00\x00\x00\x00\x00"}, {answered(), answeredBytes},
		{api.Reply{Jobs: []api.Job{{Vars: []api.Var{}}}}, "\x00\x00\x00\x00\x00\x02\x00\x00\x00\x00\x00"},
		{api.Reply{Head: api.Head{Worker: "ab", Inc: 64}, ID: 1 << 42, Code: 9}, "\x04ab\x80\x01\x00\x12\x80\x80\x80\x80\x80\x80\x02\x00"},
	} {
		if b, err := AnswerBytes(c.r); string(b) != c.want || err != nil {
			t.Errorf("%v: %q, %v, not %q", c.r, b, err, c.want)
		}
	}
}

// sized is a reply of five jobs whose bytes are so many, of 1000 and up.
func sized(long int) api.Reply {
	r := api.Reply{Head: api.Head{Worker: "w", Inc: 1, Key: 1}}
	for range 5 {
		j := api.Job{Task: 1, Epoch: 1, Expiry: 1, Topic: "t"}
		for k := range 12 {
			j.Vars = append(j.Vars, api.Var{Name: string(rune('a'+k)) + "bcdefgh", Value: vars.Word("")})
		}
		r.Jobs = append(r.Jobs, j)
	}
	b, _ := AnswerBytes(r)
	left := long - len(b)
	for k := range r.Jobs {
		for n := range r.Jobs[k].Vars {
			more := min(left, 60)
			left -= more
			r.Jobs[k].Vars[n].Value.S = strings.Repeat("x", more)
		}
	}
	return r
}

func TestAnswerBytesThatAreTooLong(t *testing.T) {
	for _, n := range []int{1000, 3998, 3999, 4000} {
		b, err := AnswerBytes(sized(n))
		if len(b) != n || err != nil {
			t.Errorf("%d: %d, %v", n, len(b), err)
		}
		if got, err := ReadAnswer(b); !SameAnswer(got, sized(n)) || err != nil {
			t.Errorf("%d: %v", n, err)
		}
	}
	for _, n := range []int{4001, 4002, 4100} {
		if b, err := AnswerBytes(sized(n)); b != nil || err != api.ErrLong {
			t.Errorf("%d: %d, %v", n, len(b), err)
		}
	}
	if b, err := AnswerBytes(api.Reply{Head: api.Head{Worker: strings.Repeat("w", 4001)}}); b != nil || err != api.ErrLong {
		t.Errorf("a long worker: %d, %v", len(b), err)
	}
}

func TestAnswerBytesOfTooManyJobs(t *testing.T) {
	for n := range 20 {
		b, err := AnswerBytes(api.Reply{Jobs: make([]api.Job, n)})
		if n <= 5 && (len(b) != 6+5*n || err != nil) || n > 5 && (b != nil || err != api.ErrMany) {
			t.Errorf("%d: %d, %v", n, len(b), err)
		}
	}
	// How long it is comes first: each job has five bytes, behind six, and one more where how many there are takes two.
	for n, want := range map[int]error{798: api.ErrMany, 799: api.ErrLong, 800: api.ErrLong, 1 << 20: api.ErrLong} {
		if b, err := AnswerBytes(api.Reply{Jobs: make([]api.Job, n)}); b != nil || err != want {
			t.Errorf("%d jobs: %d, %v, not %v", n, len(b), err, want)
		}
	}
	r := sized(4000)
	r.Jobs = append(r.Jobs, api.Job{})
	if b, err := AnswerBytes(r); b != nil || err != api.ErrLong {
		t.Errorf("many, and too long: %d, %v", len(b), err)
	}
	r = sized(3995)
	r.Jobs = append(r.Jobs, api.Job{})
	if b, err := AnswerBytes(r); b != nil || err != api.ErrMany {
		t.Errorf("many, and just not too long: %d, %v", len(b), err)
	}
}

// Of what can't be put so nothing is promised, but that there is an end, and no panic.
func TestAnswerBytesOfWhatCannotBePut(t *testing.T) {
	long := strings.Repeat("x", 1<<20)
	for _, r := range []api.Reply{
		{Head: api.Head{Inc: -1, Key: math.MinInt}, Code: math.MaxInt, ID: -1}, {Jobs: []api.Job{{Task: -1, Epoch: -1, Expiry: math.MinInt64}}}, {Jobs: []api.Job{{Topic: long}}}, {Head: api.Head{Worker: long}},
		{Jobs: []api.Job{{Vars: slices.Repeat([]api.Var{{Name: long}}, 50)}}}, {Jobs: []api.Job{{Vars: make([]api.Var, 1<<18)}}}, {Jobs: slices.Repeat([]api.Job{{Vars: make([]api.Var, 100)}}, 1<<20)},
	} {
		if b, err := AnswerBytes(r); err != nil && b != nil {
			t.Errorf("%d bytes beside %v", len(b), err)
		}
	}
}

func TestReadAnswerGivesBackWhatWasPut(t *testing.T) {
	for _, r := range answers() {
		b, err := AnswerBytes(r)
		if err != nil {
			t.Errorf("%v: %v", r, err)
		}
		before := slices.Clone(b)
		if got, err := ReadAnswer(b); !SameAnswer(got, r) || err != nil || !bytes.Equal(b, before) {
			t.Errorf("%v: %v, %v", r, got, err)
		}
	}
}

// answersNothing holds that ReadAnswer answers nothing beside that error.
func answersNothing(t *testing.T, what string, b []byte, want error) {
	t.Helper()
	if got, err := ReadAnswer(b); !SameAnswer(got, api.Reply{}) || err != want {
		t.Errorf("%s: %v, %v, not %v", what, got, err, want)
	}
}

func TestReadAnswerOfWhatIsCutOrTooLong(t *testing.T) {
	answersNothing(t, "nothing", nil, api.ErrEnd)
	for _, r := range answers() {
		b, _ := AnswerBytes(r)
		for n := range b {
			answersNothing(t, "cut", b[:n], api.ErrEnd)
		}
		answersNothing(t, "too long", append(slices.Clone(b), 0), api.ErrShape)
		answersNothing(t, "twice", slices.Concat(b, b), api.ErrShape)
	}
}

// answerFields are those of answeredBytes up to the first job's variables, as ReadAnswer takes them.
func answerFields() []field {
	number := func(what string) field { return field{what: what, most: 1 << 30} }
	return []field{{what: "worker", text: true}, number("inc"), number("key"), number("code"), {what: "id", most: 1 << 42}, {what: "jobs", least: 2, most: 2}, number("task"), number("epoch"), {what: "expiry", most: 1 << 42}, {what: "topic", text: true}}
}

// withAnswerField is answeredBytes with b in the place of the field at that place.
func withAnswerField(place int, b []byte) []byte {
	whole := []byte(answeredBytes)
	from := 0
	for k, f := range answerFields() {
		// All of them are a byte, but the texts, which are two.
		to := from + 1
		if f.text {
			to++
		}
		if k == place {
			return slices.Concat(whole[:from], b, whole[to:])
		}
		from = to
	}
	return nil
}

func TestReadAnswersFaults(t *testing.T) {
	for k, f := range answerFields() {
		if f.text {
			answersNothing(t, f.what, withAnswerField(k, num.PutText(nil, strings.Repeat("a", 25))), api.ErrLong)
			answersNothing(t, f.what, withAnswerField(k, num.Put(nil, -1)), api.ErrRange)
			answersNothing(t, f.what, withAnswerField(k, []byte{0x82, 0}), api.ErrShape)
			for _, s := range []string{"", "A", strings.Repeat("\xff", 24)} {
				b := withAnswerField(k, num.PutText(nil, s))
				if got, err := ReadAnswer(b); err != nil || got.Worker != s && got.Jobs[0].Topic != s {
					t.Errorf("%s: %v, %v", f.what, got, err)
				}
			}
			continue
		}
		answersNothing(t, f.what, withAnswerField(k, bytes.Repeat([]byte{0xFF}, 11)), api.ErrShape)
		answersNothing(t, f.what, withAnswerField(k, []byte{0x82, 0}), api.ErrShape)
		if f.least == f.most {
			continue
		}
		for _, n := range []int64{-1, f.most + 1, math.MaxInt64, math.MinInt64} {
			answersNothing(t, f.what, withAnswerField(k, num.Put(nil, n)), api.ErrRange)
		}
		for _, n := range []int64{0, 1, 9, 10, 61, f.most - 1, f.most} {
			b := withAnswerField(k, num.Put(nil, n))
			got, err := ReadAnswer(b)
			if back, again := AnswerBytes(got); err != nil || again != nil || !bytes.Equal(back, b) {
				t.Errorf("%s: %d: %v, %v, %v", f.what, n, got, err, again)
			}
		}
	}
}

func TestReadAnswerOfHowManyJobs(t *testing.T) {
	for n := range int64(20) {
		b := append(num.Put(make([]byte, 5), n), make([]byte, 5*n)...)
		if n > 5 {
			answersNothing(t, "many", b, api.ErrRange)
		} else if got, err := ReadAnswer(b); err != nil || len(got.Jobs) != int(n) {
			t.Errorf("%d: %v, %v", n, got, err)
		}
	}
	for _, n := range []int64{-1, 6, 1 << 32, math.MaxInt64, math.MinInt64} {
		answersNothing(t, "many", num.Put(make([]byte, 5), n), api.ErrRange)
	}
	// Variables: 12 of them at most, of a kind that is one.
	answersNothing(t, "13 vars", []byte("\x00\x00\x00\x00\x00\x02\x00\x00\x00\x00\x1a"), api.ErrRange)
	answersNothing(t, "a kind that is none", []byte("\x00\x00\x00\x00\x00\x02\x00\x00\x00\x00\x02\x02a\x08\x00\x00"), api.ErrRange)
	answersNothing(t, "a text that is too long", []byte("\x00\x00\x00\x00\x00\x02\x00\x00\x00\x00\x02\x02a\x06\x00\x7a"), api.ErrLong)
}

// No frame has so many bytes, but nothing is said of that where they are read.
func TestReadAnswerOfMoreThanAFrame(t *testing.T) {
	b := num.Put(make([]byte, 5), 5)
	for range 5 {
		b = vars.Put(append(b, 0, 0, 0, 0), manyVars(12))
	}
	if got, err := ReadAnswer(b); len(b) <= 4000 || err != nil || len(got.Jobs) != 5 || !vars.Same(got.Jobs[4].Vars, manyVars(12)) {
		t.Errorf("%d bytes: %v", len(b), err)
	}
	answersNothing(t, "very many bytes", make([]byte, 1<<20), api.ErrShape)
}

// spoilReply writes into each list of r.
func spoilReply(r api.Reply) {
	for _, j := range r.Jobs {
		spoil(j.Vars, api.Var{Name: "spoiled"})
	}
	spoil(r.Jobs, api.Job{Topic: "spoiled"})
}

func TestAnswersAreNewMemory(t *testing.T) {
	r := answered()
	r.Jobs = append(r.Jobs, r.Jobs[0])
	r.Jobs[2].Vars = list()
	first, _ := AnswerBytes(r)
	second, _ := AnswerBytes(r)
	want := string(second)
	one, _ := ReadAnswer(second)
	two, _ := ReadAnswer(second)
	spoil(one.Jobs[0].Vars, api.Var{Name: "spoiled"})
	if !vars.Same(one.Jobs[2].Vars, list()) {
		t.Error("two jobs of one answer share memory")
	}
	spoil(first, 0xFF)
	spoilReply(one)
	if string(second) != want || !SameAnswer(two, r) {
		t.Error("two answers share memory")
	}
	spoil(second, 0xFF)
	kept := slices.Clone(r.Jobs)
	for k := range kept {
		kept[k].Vars = slices.Clone(kept[k].Vars)
	}
	spoilReply(r)
	if !slices.EqualFunc(two.Jobs, kept, sameJob) {
		t.Error("what was read shares memory with what was put, or with the bytes")
	}
}

func TestAnswerBytesChangesNothingHandedIn(t *testing.T) {
	r := answered()
	var all []api.Job
	r.Jobs, all = room(r.Jobs)
	var more []api.Var
	r.Jobs[0].Vars, more = room(r.Jobs[0].Vars)
	for range 2 {
		if b, err := AnswerBytes(r); string(b) != answeredBytes || err != nil {
			t.Errorf("%q, %v", b, err)
		}
	}
	if !SameAnswer(r, answered()) || !slices.EqualFunc(all[2:], make([]api.Job, 3), sameJob) || !slices.Equal(more, append(list(), make([]api.Var, 3)...)) {
		t.Error("it is changed, or what lies behind it")
	}
	b := append([]byte(answeredBytes), 1, 2, 3)
	if got, err := ReadAnswer(b[:len(b)-3]); !SameAnswer(got, answered()) || err != nil || string(b) != answeredBytes+"\x01\x02\x03" {
		t.Errorf("%v, %v", got, err)
	}
}

func TestSameAnswer(t *testing.T) {
	for k, a := range answers() {
		for n, b := range answers() {
			if SameAnswer(a, b) != (k == n) {
				t.Errorf("%d and %d: not %t", k, n, k == n)
			}
		}
	}
	if !SameAnswer(api.Reply{}, api.Reply{Jobs: []api.Job{}}) || !SameAnswer(api.Reply{Jobs: make([]api.Job, 1)}, api.Reply{Jobs: []api.Job{{Vars: []api.Var{}}}}) {
		t.Error("no list isn't the same as an empty one")
	}
	for k, set := range []func(r *api.Reply){
		func(r *api.Reply) { r.Worker = "v" }, func(r *api.Reply) { r.Inc = 99 }, func(r *api.Reply) { r.Key = 99 }, func(r *api.Reply) { r.Code = 99 }, func(r *api.Reply) { r.ID = 99 },
		func(r *api.Reply) { r.Jobs = nil }, func(r *api.Reply) { r.Jobs = r.Jobs[:1] }, func(r *api.Reply) { r.Jobs = append(r.Jobs, api.Job{}) }, func(r *api.Reply) { slices.Reverse(r.Jobs) },
		func(r *api.Reply) { r.Jobs[1].Task = 99 }, func(r *api.Reply) { r.Jobs[1].Epoch = 99 }, func(r *api.Reply) { r.Jobs[1].Expiry = 99 }, func(r *api.Reply) { r.Jobs[1].Topic = "v" }, func(r *api.Reply) { r.Jobs[1].Vars = list() }, func(r *api.Reply) { r.Jobs[0].Vars = nil }, func(r *api.Reply) { r.Jobs[0].Vars[1].Value.S = "x" },
	} {
		r := answered()
		set(&r)
		if SameAnswer(r, answered()) || SameAnswer(answered(), r) || !SameAnswer(r, r) {
			t.Errorf("%d: %v", k, r)
		}
	}
}
