package message

import (
	"slices"

	"leasehold/api"
	"leasehold/process"
	"leasehold/vars"
)

// Check is the first that is amiss with r.
func Check(r api.Request) error {
	switch {
	case !vars.Name(r.Worker):
		return api.ErrName
	case !within(r.Inc, 1, mostNumber) || !within(r.Key, 1, mostNumber):
		return api.ErrRange
	case !isKind(r.Kind) || !Same(r, own(r)):
		return api.ErrShape
	}
	return partFault(r)
}

// own is r with no other parts than those that its Kind has. It shares r's lists, to be held against them only.
func own(r api.Request) api.Request {
	o := api.Request{Head: r.Head, Kind: r.Kind}
	switch r.Kind {
	case api.Deploy:
		o.Process = r.Process
		return o
	case api.Begin:
		o.Name, o.Vars = r.Name, r.Vars
		return o
	case api.Fetch:
		o.Topics, o.Max, o.Time = r.Topics, r.Max, r.Time
		return o
	case api.Repair:
		o.Task, o.Retries = r.Task, r.Retries
		return o
	}
	// What is left is told by who has a lease.
	o.Task, o.Epoch = r.Task, r.Epoch
	switch r.Kind {
	case api.Extend:
		o.Time = r.Time
	case api.Complete:
		o.Vars = r.Vars
	case api.Fail:
		o.Retries, o.Time = r.Retries, r.Time
	case api.Throw:
		o.Code, o.Vars = r.Code, r.Vars
	}
	return o
}

// partFault is the first that is amiss with the parts that r's Kind has.
func partFault(r api.Request) error {
	switch r.Kind {
	case api.Deploy:
		return process.Check(r.Process)
	case api.Begin:
		return namedFault(r.Name, r.Vars)
	case api.Fetch:
		return fetchFault(r)
	case api.Repair:
		return rangeFault(isTask(r.Task) && within(r.Retries, 1, api.MaxRetries))
	}
	return leaseFault(r)
}

// namedFault is the first that is amiss with a name and the variables that come with it.
func namedFault(name string, l []api.Var) error {
	if !vars.Name(name) {
		return api.ErrName
	}
	return vars.Check(l)
}

// fetchFault is the first that is amiss with the parts of a Fetch.
func fetchFault(r api.Request) error {
	if !within(len(r.Topics), 1, api.MaxTopics) {
		return api.ErrMany
	}
	for _, topic := range r.Topics {
		if !vars.Name(topic) {
			return api.ErrName
		}
	}
	for k, topic := range r.Topics {
		if slices.Contains(r.Topics[:k], topic) {
			return api.ErrTwice
		}
	}
	return rangeFault(within(r.Max, 1, api.MaxFetch) && within(r.Time, 1, api.MaxLease))
}

// leaseFault is the first that is amiss with the parts of what is told by who has a lease.
func leaseFault(r api.Request) error {
	if !isTask(r.Task) || !within(r.Epoch, 1, api.MaxEpoch) {
		return api.ErrRange
	}
	switch r.Kind {
	case api.Extend:
		return rangeFault(within(r.Time, 1, api.MaxLease))
	case api.Complete:
		return vars.Check(r.Vars)
	case api.Fail:
		return rangeFault(within(r.Retries, 0, api.MaxRetries) && within(r.Time, 0, api.MaxBackoff))
	case api.Throw:
		return namedFault(r.Code, r.Vars)
	}
	return nil
}

// isTask tells whether a task may have that ID.
func isTask(id int) bool {
	return within(id, 1, mostNumber)
}

// rangeFault is none where all numbers are in their ranges.
func rangeFault(right bool) error {
	if !right {
		return api.ErrRange
	}
	return nil
}
