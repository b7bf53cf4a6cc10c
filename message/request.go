package message

import (
	"leasehold/api"
	"leasehold/num"
	"leasehold/process"
	"leasehold/vars"
)

// What Read takes; Check asks more of it.
const (
	mostKind   = 100
	leastOther = -1 // of the numbers that have no range of their own
)

// Bytes is r in bytes, if it is one that may be asked.
func Bytes(r api.Request) ([]byte, error) {
	if err := Check(r); err != nil {
		return nil, err
	}
	b := append(num.Put(headBytes(r.Head), int64(r.Kind)), partBytes(r)...)
	if len(b) > api.MaxFrame {
		return nil, api.ErrLong
	}
	return b, nil
}

// headBytes is h in bytes.
func headBytes(h api.Head) []byte {
	return num.Put(num.PutText(nil, h.Worker), int64(h.Inc), int64(h.Key))
}

// partBytes is the parts that r's Kind has in bytes.
func partBytes(r api.Request) []byte {
	switch r.Kind {
	case api.Deploy:
		return process.Put(nil, r.Process)
	case api.Begin:
		return vars.Put(num.PutText(nil, r.Name), r.Vars)
	case api.Fetch:
		b := num.PutText(num.Put(nil, int64(len(r.Topics))), r.Topics...)
		return num.Put(b, int64(r.Max), r.Time)
	case api.Repair:
		return num.Put(nil, int64(r.Task), int64(r.Retries))
	}
	b := num.Put(nil, int64(r.Task), int64(r.Epoch))
	switch r.Kind {
	case api.Extend:
		b = num.Put(b, r.Time)
	case api.Complete:
		b = vars.Put(b, r.Vars)
	case api.Fail:
		b = num.Put(b, int64(r.Retries), r.Time)
	case api.Throw:
		b = vars.Put(num.PutText(b, r.Code), r.Vars)
	}
	return b
}

// Read is what Bytes put there, all of b.
func Read(b []byte) (api.Request, error) {
	r := num.Read(b)
	q := api.Request{Head: takeHead(r), Kind: int(r.Int(0, mostKind))}
	takeParts(r, &q)
	err := r.Err()
	switch {
	case err != nil:
	case !isKind(q.Kind) || r.Left() > 0:
		err = api.ErrShape
	default:
		err = Check(q)
	}
	if err != nil {
		return api.Request{}, err
	}
	return q, nil
}

// takeHead is the next Head.
func takeHead(r *num.Reader) api.Head {
	return api.Head{Worker: r.Text(api.MaxName), Inc: takeNumber(r), Key: takeNumber(r)}
}

// takeParts takes the parts that q's Kind has.
func takeParts(r *num.Reader, q *api.Request) {
	switch q.Kind {
	case api.Deploy:
		q.Process = process.Take(r)
	case api.Begin:
		q.Name, q.Vars = r.Text(api.MaxName), vars.Take(r)
	case api.Fetch:
		for range r.Int(0, api.MaxTopics) {
			q.Topics = append(q.Topics, r.Text(api.MaxName))
		}
		q.Max, q.Time = takeOther(r), int64(takeOther(r))
	case api.Repair:
		q.Task, q.Retries = takeNumber(r), takeOther(r)
	case api.Extend, api.Unlock, api.Complete, api.Fail, api.Throw:
		q.Task, q.Epoch = takeNumber(r), takeOther(r)
		takeLeaseParts(r, q)
	}
}

// takeLeaseParts takes what stands behind the lease of which something is told.
func takeLeaseParts(r *num.Reader, q *api.Request) {
	switch q.Kind {
	case api.Extend:
		q.Time = int64(takeOther(r))
	case api.Complete:
		q.Vars = vars.Take(r)
	case api.Fail:
		q.Retries, q.Time = takeOther(r), int64(takeOther(r))
	case api.Throw:
		q.Code, q.Vars = r.Text(api.MaxName), vars.Take(r)
	}
}

// takeNumber is the next Inc, Key or Task, or a number of an answer that has no greater range.
func takeNumber(r *num.Reader) int {
	return int(r.Int(0, mostNumber))
}

// takeOther is the next of the numbers that have no range of their own.
func takeOther(r *num.Reader) int {
	return int(r.Int(leastOther, mostNumber))
}
