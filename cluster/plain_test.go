package cluster_test

import (
	"fmt"
	"math"
	"math/rand"
	"reflect"
	"testing"

	"lattice/api"
	"lattice/cluster"
	"lattice/net"
	"lattice/replica"
)

// plain is a cluster as the chapter's words have it, gone through one by one.
type plain struct {
	nodes  []*replica.Node
	net    *net.Net
	h      []api.Record
	called map[int]int // by the numbers of calls, how often
	open   []api.Call  // made on nodes and not answered
}

func newPlain(n int) *plain {
	p := &plain{called: map[int]int{}}
	p.net, _ = net.New(n)
	for i := range n {
		node, _ := replica.New(i, n)
		p.nodes = append(p.nodes, node)
	}
	return p
}

// fault is what a choice is told that is wrong.
func (p *plain) fault(x api.Choice) api.Errno {
	if x.Kind < api.ChCall || x.Kind > api.ChBytes {
		return api.ErrArg
	}
	isNode := func(i int) bool { return i >= 0 && i < len(p.nodes) }
	switch x.Kind {
	case api.ChCall:
		if !isNode(x.Call.Node) {
			return api.ErrArg
		}
		if p.called[x.Call.Req] > 0 {
			return api.ErrState
		}
		return api.OK
	case api.ChPick, api.ChDrop, api.ChCopy:
		if x.N < 0 {
			return api.ErrArg
		}
		return api.OK
	}
	if !isNode(x.Node) || (x.Kind == api.ChWork || x.Kind == api.ChCrash) && x.N < 0 {
		return api.ErrArg
	}
	if x.Kind == api.ChCrash && (x.M < 0 || x.M > 256) || x.Kind == api.ChBytes && len(x.Bytes) > 65535 {
		return api.ErrArg
	}
	return api.OK
}

func (p *plain) step(x api.Choice) ([]api.Answer, api.Errno) {
	if e := p.fault(x); e != api.OK {
		return nil, e
	}
	answers := p.do(x)
	var open []api.Call
	for _, c := range p.open {
		answered := false
		for _, a := range answers {
			answered = answered || a.Req == c.Req
		}
		if !answered {
			open = append(open, c)
		}
	}
	p.open = open
	for _, node := range p.nodes {
		v := node.View()
		if !v.Up {
			continue
		}
		var h []api.Record
		for _, r := range node.Log()[:v.Commit] {
			if r.Kind == api.ReCommit {
				h = append(h, r)
			}
		}
		if len(h) > len(p.h) {
			p.h = h
		}
	}
	return answers, api.OK
}

func (p *plain) do(x api.Choice) []api.Answer {
	switch x.Kind {
	case api.ChCall:
		p.called[x.Call.Req]++
		if !p.nodes[x.Call.Node].View().Up {
			return []api.Answer{{Req: x.Call.Req, Node: x.Call.Node, Code: api.AnTimeout}}
		}
		p.open = append(p.open, x.Call)
		return p.sent(x.Call.Node, p.nodes[x.Call.Node].Call(x.Call))
	case api.ChPick:
		if m, e := p.net.Pick(x.N); e == api.OK {
			return p.sent(m.To, p.nodes[m.To].Message(m.From, m.Bytes))
		}
	case api.ChDrop:
		p.net.Drop(x.N)
	case api.ChCopy:
		p.net.Copy(x.N)
	case api.ChTick:
		return p.sent(x.Node, p.nodes[x.Node].Tick())
	case api.ChWork:
		return p.sent(x.Node, p.nodes[x.Node].Work(x.N))
	case api.ChSync:
		return p.sent(x.Node, p.nodes[x.Node].Sync())
	case api.ChCrash:
		return p.crash(x.Node, x.N, x.M)
	case api.ChStart:
		return p.sent(x.Node, p.nodes[x.Node].Start())
	case api.ChBytes:
		return p.sent(x.Node, p.nodes[x.Node].Message(-1, x.Bytes))
	}
	return nil
}

func (p *plain) sent(from int, d replica.Done) []api.Answer {
	for _, o := range d.Outs {
		if p.net.Len() < net.MaxFlight {
			p.net.Send(from, o.To, o.Bytes)
		}
	}
	return d.Answers
}

func (p *plain) crash(i, keep, torn int) []api.Answer {
	if !p.nodes[i].View().Up {
		return nil
	}
	if waits := p.nodes[i].Waits(); keep > waits {
		keep = waits
	}
	p.nodes[i].Crash(keep, torn)
	var l []api.Answer
	for _, c := range p.open {
		if c.Node == i {
			l = append(l, api.Answer{Req: c.Req, Node: i, Code: api.AnTimeout})
		}
	}
	return l
}

// state is all that may be told of a cluster.
type state struct {
	h      []api.Record
	views  []replica.View
	logs   [][]api.Record
	flight []net.Message
}

func stateOf(c *cluster.Cluster, n int) state {
	s := state{h: c.H(), flight: c.InFlight()}
	for i := range n {
		s.views, s.logs = append(s.views, c.View(i)), append(s.logs, c.Log(i))
	}
	return s
}

func (p *plain) state() state {
	s := state{h: p.h, flight: p.net.Flight()}
	for _, node := range p.nodes {
		s.views, s.logs = append(s.views, node.View()), append(s.logs, node.Log())
	}
	return s
}

// same tells whether two things are the same, where no list and an empty one are (R2).
func same(a, b any) bool { return fmt.Sprintf("%+v", a) == fmt.Sprintf("%+v", b) }

// wantState holds a cluster against a state, quickly where all is the same.
func wantState(t *testing.T, where string, c *cluster.Cluster, want state) {
	t.Helper()
	got := stateOf(c, len(want.views))
	if !reflect.DeepEqual(got, want) && !same(got, want) {
		t.Fatalf("%s:\n%+v\nnot\n%+v", where, got, want)
	}
	if c.Flight() != len(want.flight) {
		t.Fatalf("%s: %d in flight, not %d", where, c.Flight(), len(want.flight))
	}
}

// edge is one of some numbers, or one that is near to one of them.
func edge(r *rand.Rand, l ...int) int { return l[r.Intn(len(l))] + r.Intn(3) - 1 }

// anyChoice is one with numbers about their edges, right or wrong.
func (p *plain) anyChoice(r *rand.Rand, req int) api.Choice {
	n := len(p.nodes)
	x := api.Choice{Kind: edge(r, 1, 2, 3, 4, 5, 6, 7, 8, 9, 10), Node: edge(r, 0, r.Intn(n), n-1)}
	switch x.Kind {
	case api.ChCall:
		x.Call = api.Call{Req: req, Node: edge(r, 0, r.Intn(n), n-1), Op: anyOp(r, 9)}
		switch r.Intn(6) {
		case 0:
			x.Call.Req = 1 + r.Intn(req) // which was there, where that was made
		case 1:
			x.Call.Req = edge(r, math.MinInt+1, 0, api.MaxReq, math.MaxInt-1)
		case 2:
			x.Call.Op = api.Op{Kind: edge(r, 1, 2, 3, 4), Key: "12345678901234567"[:r.Intn(18)], Value: "123456789012345678901234567890123"[:r.Intn(34)]}
		case 3:
			x.Call.Op = api.Op{Kind: api.OpDel, Key: "12345678901234567"}
		}
	case api.ChPick, api.ChDrop, api.ChCopy:
		x.N = edge(r, 0, r.Intn(p.net.Len()+1), p.net.Len(), math.MaxInt-1)
	case api.ChWork:
		x.N = edge(r, 0, 1, 7, math.MaxInt-1)
	case api.ChCrash:
		if x.Node >= 0 && x.Node < n {
			x.N = edge(r, 0, p.nodes[x.Node].Waits(), math.MaxInt-1)
		}
		x.M = edge(r, 0, r.Intn(257), 256)
	case api.ChBytes:
		x.Bytes = anyBytes(r)
		if r.Intn(9) == 0 {
			x.Bytes = make([]byte, edge(r, 65535))
		}
	}
	return x
}

// likely is one of those by which a cluster goes on, most of them at one node.
func likely(r *rand.Rand, n, dear, req int) api.Choice {
	i := dear
	if r.Intn(3) == 0 {
		i = r.Intn(n)
	}
	switch r.Intn(10) {
	case 0, 1:
		return api.Choice{Kind: api.ChTick, Node: i}
	case 2, 3:
		return api.Choice{Kind: api.ChSync, Node: r.Intn(n)}
	case 4:
		return api.Choice{Kind: api.ChCall, Call: api.Call{Req: req, Node: i, Op: anyOp(r, 9)}}
	case 5:
		return api.Choice{Kind: api.ChWork, Node: i, N: r.Intn(2)}
	}
	return api.Choice{Kind: api.ChPick}
}

// 27.1: each choice does what the chapter says, also where it tells an error.
func TestStepsDoWhatTheChapterSays(t *testing.T) {
	codes, faults := map[int]int{}, map[api.Errno]int{}
	for seed := range 42 {
		r := rand.New(rand.NewSource(int64(seed)))
		n := 1 + seed%api.MaxNodes
		p := newPlain(n)
		c, e := cluster.New(n)
		if e != api.OK {
			t.Fatal(e)
		}
		dear := 0 // of the nodes the one at which most happens
		for i := range 1200 {
			where := fmt.Sprintf("seed %d, step %d", seed, i)
			if i%200 == 0 {
				dear = r.Intn(n)
			}
			x := likely(r, n, dear, i+1)
			if r.Intn(4) == 0 {
				x = p.anyChoice(r, i+1)
			}
			if x.Kind == api.ChCrash && r.Intn(4) > 0 {
				x.Kind = api.ChStart
			}
			want, wantE := p.step(x)
			got, e := c.Step(x)
			if e != wantE || !same(got, want) {
				t.Fatalf("%s: %+v: %v, %v, not %v, %v", where, x, got, e, want, wantE)
			}
			wantState(t, where, c, p.state())
			faults[e]++
			for _, a := range got {
				codes[a.Code]++
			}
		}
	}
	for code := api.AnOK; code <= api.AnMalformed; code++ {
		if codes[code] < 10 {
			t.Errorf("only %d answers of code %d", codes[code], code)
		}
	}
	for _, e := range []api.Errno{api.OK, api.ErrArg, api.ErrState} {
		if faults[e] < 10 {
			t.Errorf("only %d times %v", faults[e], e)
		}
	}
}
