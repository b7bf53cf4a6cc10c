package state

import (
	"bytes"
	"slices"

	"leasehold/again"
	"leasehold/api"
	"leasehold/num"
	"leasehold/process"
	"leasehold/vars"
)

// The range of each number that Read takes, but of how many there are of something; and how many tasks there may be.
const (
	least     = -1
	most      = 1 << 42
	mostTasks = api.MaxInstances * api.MaxTokens
)

// Bytes is s in bytes: of the same there is one way alone.
func Bytes(s *State) []byte {
	return slices.Concat(
		list(s.Processes, processBytes),
		list(s.Instances, instanceBytes),
		list(s.All(), taskBytes),
		list(s.Book.All(), pageBytes),
		numbers(s.NextInstance, s.NextTask),
	)
}

// Same tells whether a and b know the same.
func Same(a, b *State) bool {
	return bytes.Equal(Bytes(a), Bytes(b))
}

// list is how many l are, and each. (What puts more behind bytes copies these: each is put alone, so that the copies stay small.)
func list[T any](l []T, one func(T) []byte) []byte {
	b := numbers(len(l))
	for _, x := range l {
		b = append(b, one(x)...)
	}
	return b
}

// numbers is l in bytes.
func numbers(l ...int) []byte {
	var b []byte
	for _, n := range l {
		b = num.Put(b, int64(n))
	}
	return b
}

// processBytes is p in bytes.
func processBytes(p api.Process) []byte {
	return process.Put(nil, p)
}

// instanceBytes is i in bytes.
func instanceBytes(i api.Instance) []byte {
	return slices.Concat(
		numbers(i.ID, i.Process, i.State),
		num.PutText(nil, i.Code),
		vars.Put(nil, i.Vars),
		list(i.Tokens, tokenBytes),
		numbers(i.Next),
	)
}

// tokenBytes is t in bytes.
func tokenBytes(t api.Token) []byte {
	return num.PutFlag(numbers(t.ID, t.Node, t.In), t.Stuck)
}

// taskBytes is t in bytes.
func taskBytes(t api.Task) []byte {
	b := numbers(t.ID, t.Instance, t.Token, t.Node)
	b = num.PutText(b, t.Topic)
	b = num.Put(b, int64(t.Priority))
	b = num.PutText(b, t.Worker)
	b = num.Put(b, int64(t.Epoch), t.Expiry, t.After, int64(t.Retries))
	return num.PutFlag(b, t.Broken)
}

// pageBytes is p in bytes: each reply stands behind its key.
func pageBytes(p again.Page) []byte {
	b := num.PutText(nil, p.Worker)
	b = append(b, numbers(p.Inc, len(p.Keys))...)
	for k, key := range p.Keys {
		b = append(b, numbers(key)...)
		b = append(b, num.PutText(nil, string(p.Replies[k]))...)
	}
	return b
}

// Read is the State of which Bytes made b.
func Read(b []byte) (*State, error) {
	r := num.Read(b)
	s := &State{}
	s.Processes = takeList(r, api.MaxProcesses, process.Take)
	s.Instances = takeList(r, api.MaxInstances, takeInstance)
	s.Put(takeList(r, mostTasks, takeTask)...)
	pages := takeList(r, api.MaxWorkers, takePage)
	s.NextInstance = takeNumber(r)
	s.NextTask = takeNumber(r)
	if err := r.Done(); err != nil {
		return nil, err
	}
	// Tasks and pages stand in b in their order, and each once, just where they come out as they went in.
	if !s.Book.Load(pages...) || !bytes.Equal(Bytes(s), b) {
		return nil, api.ErrShape
	}
	return s, nil
}

// takeList is how many there are, at most many, and each.
func takeList[T any](r *num.Reader, many int64, take func(*num.Reader) T) []T {
	var l []T
	for range r.Int(0, many) {
		l = append(l, take(r))
	}
	return l
}

// takeNumber is the next number that doesn't tell how many there are.
func takeNumber(r *num.Reader) int {
	return int(r.Int(least, most))
}

// takeInstance is the next instance.
func takeInstance(r *num.Reader) api.Instance {
	var i api.Instance
	i.ID = takeNumber(r)
	i.Process = takeNumber(r)
	i.State = takeNumber(r)
	i.Code = r.Text(api.MaxName)
	i.Vars = vars.Take(r)
	i.Tokens = takeList(r, api.MaxTokens, takeToken)
	i.Next = takeNumber(r)
	return i
}

// takeToken is the next token.
func takeToken(r *num.Reader) api.Token {
	var t api.Token
	t.ID = takeNumber(r)
	t.Node = takeNumber(r)
	t.In = takeNumber(r)
	t.Stuck = r.Flag()
	return t
}

// takeTask is the next task.
func takeTask(r *num.Reader) api.Task {
	var t api.Task
	t.ID = takeNumber(r)
	t.Instance = takeNumber(r)
	t.Token = takeNumber(r)
	t.Node = takeNumber(r)
	t.Topic = r.Text(api.MaxName)
	t.Priority = takeNumber(r)
	t.Worker = r.Text(api.MaxName)
	t.Epoch = takeNumber(r)
	t.Expiry = r.Int(least, most)
	t.After = r.Int(least, most)
	t.Retries = takeNumber(r)
	t.Broken = r.Flag()
	return t
}

// takePage is the next page.
func takePage(r *num.Reader) again.Page {
	var p again.Page
	p.Worker = r.Text(api.MaxName)
	p.Inc = takeNumber(r)
	for range r.Int(0, api.MaxKeys) {
		p.Keys = append(p.Keys, takeNumber(r))
		p.Replies = append(p.Replies, []byte(r.Text(api.MaxFrame)))
	}
	return p
}
