package message

import (
	"leasehold/api"
	"leasehold/num"
	"leasehold/vars"
)

// mostLong is the greatest ID and Expiry that ReadAnswer takes.
const mostLong = 1 << 42

// AnswerBytes is r in bytes.
func AnswerBytes(r api.Reply) ([]byte, error) {
	b := num.Put(headBytes(r.Head), int64(r.Code), int64(r.ID), int64(len(r.Jobs)))
	for _, j := range r.Jobs {
		// It never gets shorter again: the answer is sure by now.
		if len(b) > api.MaxFrame {
			break
		}
		b = append(b, jobBytes(j)...)
	}
	switch {
	case len(b) > api.MaxFrame:
		return nil, api.ErrLong
	case len(r.Jobs) > api.MaxFetch:
		return nil, api.ErrMany
	}
	return b, nil
}

// jobBytes is j in bytes.
func jobBytes(j api.Job) []byte {
	b := num.Put(nil, int64(j.Task), int64(j.Epoch), j.Expiry)
	return vars.Put(num.PutText(b, j.Topic), j.Vars)
}

// ReadAnswer is what AnswerBytes put there, all of b.
func ReadAnswer(b []byte) (api.Reply, error) {
	r := num.Read(b)
	a := api.Reply{Head: takeHead(r), Code: takeNumber(r), ID: int(takeLong(r))}
	for range r.Int(0, api.MaxFetch) {
		a.Jobs = append(a.Jobs, takeJob(r))
	}
	if err := r.Done(); err != nil {
		return api.Reply{}, err
	}
	return a, nil
}

// takeJob is the next Job.
func takeJob(r *num.Reader) api.Job {
	return api.Job{Task: takeNumber(r), Epoch: takeNumber(r), Expiry: takeLong(r), Topic: r.Text(api.MaxName), Vars: vars.Take(r)}
}

// takeLong is the next ID or Expiry.
func takeLong(r *num.Reader) int64 {
	return r.Int(0, mostLong)
}
