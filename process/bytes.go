package process

import (
	"leasehold/api"
	"leasehold/num"
)

// The range of each number that Take takes, but of how many there are of something.
const (
	least = -1
	most  = 1000
)

// Put is b with p behind.
func Put(b []byte, p api.Process) []byte {
	out := num.PutText(b, p.Name)
	// num's Puts copy what they are handed: each part is put alone, so that the copies stay small.
	out = append(out, num.Put(nil, int64(len(p.Nodes)))...)
	for _, n := range p.Nodes {
		out = append(out, nodeBytes(n)...)
	}
	out = append(out, num.Put(nil, int64(len(p.Flows)))...)
	for _, f := range p.Flows {
		out = append(out, flowBytes(f)...)
	}
	return out
}

// nodeBytes is n in bytes.
func nodeBytes(n api.Node) []byte {
	b := num.Put(nil, int64(n.Kind))
	b = num.PutText(b, n.Topic)
	b = num.Put(b, int64(n.Priority), int64(n.Retries), int64(n.Default))
	b = num.PutText(b, n.Code, n.Catch)
	return num.Put(b, int64(n.To))
}

// flowBytes is f in bytes.
func flowBytes(f api.Flow) []byte {
	return num.PutText(num.Put(nil, int64(f.From), int64(f.To)), f.Cond)
}

// Take is what Put put there, when r has no error behind it. It may be one that Check does not take.
func Take(r *num.Reader) api.Process {
	var p api.Process
	p.Name = r.Text(api.MaxName)
	for range r.Int(0, api.MaxNodes) {
		p.Nodes = append(p.Nodes, takeNode(r))
	}
	for range r.Int(0, api.MaxFlows) {
		p.Flows = append(p.Flows, takeFlow(r))
	}
	if r.Err() != nil {
		return api.Process{}
	}
	return p
}

// takeNode is the next node.
func takeNode(r *num.Reader) api.Node {
	var n api.Node
	n.Kind = takeNumber(r)
	n.Topic = r.Text(api.MaxName)
	n.Priority = takeNumber(r)
	n.Retries = takeNumber(r)
	n.Default = takeNumber(r)
	n.Code = r.Text(api.MaxName)
	n.Catch = r.Text(api.MaxName)
	n.To = takeNumber(r)
	return n
}

// takeFlow is the next flow.
func takeFlow(r *num.Reader) api.Flow {
	var f api.Flow
	f.From = takeNumber(r)
	f.To = takeNumber(r)
	f.Cond = r.Text(api.MaxCond)
	return f
}

// takeNumber is the next number of a node or a flow.
func takeNumber(r *num.Reader) int {
	return int(r.Int(least, most))
}
