package process

import (
	"errors"
	"slices"

	"leasehold/api"
	"leasehold/cond"
	"leasehold/vars"
)

const (
	minNodes   = 2
	flowsBegin = 100 // what is told around a flow's place begins there, so that it is no node's
	noFlow     = -1
)

// Check is the first that is amiss with p.
func Check(p api.Process) error {
	switch {
	case !vars.Name(p.Name):
		return api.ErrName
	case len(p.Nodes) < minNodes || len(p.Nodes) > api.MaxNodes || len(p.Flows) > api.MaxFlows:
		return api.ErrMany
	}
	for k, f := range p.Flows {
		if err := flowFault(p, f); err != nil {
			return &api.At{Pos: flowsBegin + k, Err: err}
		}
	}
	for k := range p.Nodes {
		if err := nodeFault(p, k); err != nil {
			return &api.At{Pos: k, Err: err}
		}
	}
	return nil
}

// flowFault is what is amiss with f.
func flowFault(p api.Process, f api.Flow) error {
	switch {
	case !isNode(p, f.From) || !isNode(p, f.To):
		return api.ErrRange
	case f.Cond == "":
		return nil
	case !chooses(p.Nodes[f.From]):
		return api.ErrShape
	}
	_, err := cond.Parse(f.Cond)
	return withoutPlace(err)
}

// chooses tells whether n is of a Kind that asks conditions.
func chooses(n api.Node) bool {
	return n.Kind == api.Exclusive || n.Kind == api.Inclusive
}

// withoutPlace is the error that err stands around, if it does.
func withoutPlace(err error) error {
	var at *api.At
	if errors.As(err, &at) {
		return at.Err
	}
	return err
}

// nodeFault is what is amiss with the node at that place.
func nodeFault(p api.Process, node int) error {
	n := p.Nodes[node]
	outs := Outs(p, node)
	isStart := n.Kind == api.Start
	switch {
	case isStart != (node == 0) || !joined(n, len(Ins(p, node)), len(outs)):
		return api.ErrShape
	case !named(n):
		return api.ErrName
	case !numbered(n):
		return api.ErrRange
	case !led(n, outs):
		return api.ErrShape
	}
	return nil
}

// joined tells whether n has a Kind, and may have so many flows to it and from it.
func joined(n api.Node, ins, outs int) bool {
	switch n.Kind {
	case api.Start:
		return ins == 0 && outs == 1
	case api.End, api.Failure:
		return ins > 0 && outs == 0
	case api.Work:
		return ins > 0 && (n.Catch == "" && outs == 1 || n.Catch != "" && outs == 2)
	case api.Exclusive, api.Parallel, api.Inclusive:
		return ins > 0 && outs > 0
	}
	return false
}

// named tells whether n's names are there where its Kind has them, and nowhere else.
func named(n api.Node) bool {
	isWork := n.Kind == api.Work
	return fits(n.Topic, isWork) && fits(n.Code, n.Kind == api.Failure) && fits(n.Catch, isWork && n.Catch != "")
}

// fits tells whether s is a name where one is wanted, and else nothing.
func fits(s string, wanted bool) bool {
	if wanted {
		return vars.Name(s)
	}
	return s == ""
}

// numbered tells whether n's numbers are in their ranges.
func numbered(n api.Node) bool {
	if n.Kind != api.Work {
		return n.Priority == 0 && n.Retries == 0
	}
	return 0 <= n.Priority && n.Priority <= api.MaxPriority && 1 <= n.Retries && n.Retries <= api.MaxRetries
}

// led tells whether n's Default and To are flows of its own where they are wanted, and else none.
func led(n api.Node, outs []int) bool {
	if n.Default != noFlow && !(chooses(n) && slices.Contains(outs, n.Default)) {
		return false
	}
	if n.Catch == "" {
		return n.To == noFlow
	}
	return slices.Contains(outs, n.To)
}
