package replica_test

import (
	"fmt"
	"math/rand"
	"slices"
	"testing"

	"lattice/api"
	"lattice/fold"
	"lattice/net"
	"lattice/replica"
	"lattice/trace"
)

// several are nodes with a net between them, as chapter 27 has them: whether what each does by itself comes to one history.
type several struct {
	t       *testing.T
	where   string
	nodes   []*replica.Node
	net     *net.Net
	h       []api.Record
	commits []int      // of each node, as it was looked at last
	open    []api.Call // made and not answered
	made    int        // the number of the last call
	seen    []trace.Seen
	rulers  map[int]int // by epochs, the node that is primary
	counts  map[int]int // of answers, by their codes
}

func newSeveral(t *testing.T, n int) *several {
	t.Helper()
	x := &several{t: t, commits: make([]int, n), rulers: map[int]int{}, counts: map[int]int{}}
	x.net, _ = net.New(n)
	for i := range n {
		x.nodes = append(x.nodes, fresh(t, i, n))
	}
	return x
}

// step does a choice, and looks at what must hold behind each.
func (x *several) step(c api.Choice) []api.Answer {
	x.t.Helper()
	answers := x.do(c)
	for _, a := range answers {
		x.open = slices.DeleteFunc(x.open, func(c api.Call) bool { return c.Req == a.Req })
		x.counts[a.Code]++
	}
	for i, node := range x.nodes {
		x.lookAt(i, node, node.View())
	}
	x.seen = append(x.seen, trace.Seen{Choice: c, Answers: answers, H: x.h})
	return answers
}

// lookAt: in one epoch at most one node is primary; a commit never goes back but by a crash; what is committed is in H, or H goes on by it.
func (x *several) lookAt(i int, node *replica.Node, v replica.View) {
	x.t.Helper()
	if v.Role == replica.Primary {
		if k, ok := x.rulers[v.Epoch]; ok && k != i {
			x.t.Fatalf("%s: nodes %d and %d are both primary of epoch %d", x.where, k, i, v.Epoch)
		}
		x.rulers[v.Epoch] = i
	}
	if v.Up && v.Synced > v.Last || v.Commit > v.Last || v.Point > v.Commit {
		x.t.Fatalf("%s: node %d: %+v", x.where, i, v)
	}
	if v.Commit == x.commits[i] {
		return
	}
	if v.Commit < x.commits[i] && v.Commit != 0 {
		x.t.Fatalf("%s: node %d: the commit falls from %d to %d", x.where, i, x.commits[i], v.Commit)
	}
	x.commits[i] = v.Commit
	h := fold.History(node.Log()[:v.Commit])
	if !fold.Extends(h, x.h) && !fold.Extends(x.h, h) {
		x.t.Fatalf("%s: node %d has committed %v, and others %v", x.where, i, h, x.h)
	}
	if len(h) > len(x.h) {
		x.h = h
	}
}

func (x *several) do(c api.Choice) []api.Answer {
	switch c.Kind {
	case api.ChCall:
		node := x.nodes[c.Call.Node]
		if !node.View().Up {
			return []api.Answer{{Req: c.Call.Req, Node: c.Call.Node, Code: api.AnTimeout}}
		}
		x.open = append(x.open, c.Call)
		return x.sent(c.Call.Node, node.Call(c.Call))
	case api.ChPick:
		if m, e := x.net.Pick(c.N); e == api.OK {
			return x.sent(m.To, x.nodes[m.To].Message(m.From, m.Bytes))
		}
	case api.ChDrop:
		x.net.Drop(c.N)
	case api.ChCopy:
		x.net.Copy(c.N)
	case api.ChTick:
		return x.sent(c.Node, x.nodes[c.Node].Tick())
	case api.ChWork:
		return x.sent(c.Node, x.nodes[c.Node].Work(c.N))
	case api.ChSync:
		return x.sent(c.Node, x.nodes[c.Node].Sync())
	case api.ChCrash:
		return x.crash(c)
	case api.ChStart:
		return x.sent(c.Node, x.nodes[c.Node].Start())
	case api.ChBytes:
		return x.sent(c.Node, x.nodes[c.Node].Message(-1, c.Bytes))
	}
	return nil
}

func (x *several) sent(from int, d replica.Done) []api.Answer {
	for _, o := range d.Outs {
		x.net.Send(from, o.To, o.Bytes)
	}
	return d.Answers
}

func (x *several) crash(c api.Choice) []api.Answer {
	node := x.nodes[c.Node]
	if !node.View().Up {
		return nil
	}
	if e := node.Crash(min(c.N, node.Waits()), c.M); e != api.OK {
		x.t.Fatal(e)
	}
	var l []api.Answer
	for _, call := range x.open {
		if call.Node == c.Node {
			l = append(l, api.Answer{Req: call.Req, Node: call.Node, Code: api.AnTimeout})
		}
	}
	return l
}

// call makes one on a node.
func (x *several) call(node int, op api.Op) []api.Answer {
	x.made++
	return x.step(api.Choice{Kind: api.ChCall, Call: api.Call{Req: x.made, Node: node, Op: op}})
}

// look looks at the whole trace, and at all logs.
func (x *several) look() {
	x.t.Helper()
	l := x.seen[:min(len(x.seen), api.MaxBytes/256)]
	if rule, at, e := trace.Check(l); rule != 0 || e != api.OK {
		x.t.Fatalf("%s: rule %d is broken at step %d (%+v), %v", x.where, rule, at, l[at], e)
	}
	x.lookAtLines()
}

// lookAtLines: where two logs have a record of one LSN and epoch, they are the same up to it.
func (x *several) lookAtLines() {
	x.t.Helper()
	for i := range x.nodes {
		for j := range i {
			a, b := x.nodes[i].Log(), x.nodes[j].Log()
			k := min(len(a), len(b))
			for k > 0 && a[k-1].Epoch != b[k-1].Epoch {
				k--
			}
			if !slices.Equal(a[:k], b[:k]) {
				x.t.Fatalf("%s: the logs of %d and %d are not the same up to %d", x.where, i, j, k)
			}
		}
	}
}

// round is one of 27.7: each node ticks, works and syncs, and what is in flight is delivered. The answers at it.
func (x *several) round() []api.Answer {
	x.t.Helper()
	var l []api.Answer
	for i := range x.nodes {
		l = append(l, x.step(api.Choice{Kind: api.ChTick, Node: i})...)
		for w := range 8 {
			l = append(l, x.step(api.Choice{Kind: api.ChWork, Node: i, N: w})...)
		}
		l = append(l, x.step(api.Choice{Kind: api.ChSync, Node: i})...)
	}
	for range x.net.Len() {
		l = append(l, x.step(api.Choice{Kind: api.ChPick})...)
	}
	return l
}

// within has rounds go by until something holds.
func (x *several) within(rounds int, what string, holds func([]api.Answer) bool) {
	x.t.Helper()
	for l, i := []api.Answer(nil), 0; !holds(l); i++ {
		if i == rounds {
			x.t.Fatalf("%s: not within %d rounds: %s: %s", x.where, rounds, what, x)
		}
		l = x.round()
	}
}

// settled is a primary whose commit is its last LSN; -1, if there is none.
func (x *several) settled() int {
	return slices.IndexFunc(x.nodes, func(node *replica.Node) bool {
		v := node.View()
		return v.Role == replica.Primary && v.Commit == v.Last
	})
}

// goesOn is 27.7, from whatever was chosen on.
func (x *several) goesOn() {
	x.t.Helper()
	x.seen = nil // what comes now is longer than a trace may be
	for i := range x.nodes {
		x.step(api.Choice{Kind: api.ChStart, Node: i})
	}
	x.within(200, "a primary", func([]api.Answer) bool { return x.settled() >= 0 })
	for range 40 {
		x.round()
	}
	at := x.settled()
	if at < 0 {
		x.t.Fatalf("%s: no primary any more: %s", x.where, x)
	}
	x.call(at, putOp("zz", "last"))
	req := x.made
	x.within(50, "a put is answered", func(l []api.Answer) bool {
		return slices.ContainsFunc(l, func(a api.Answer) bool { return a.Req == req && a.Code == api.AnOK })
	})
	x.within(200, "all commits are the primary's", func([]api.Answer) bool {
		return !slices.ContainsFunc(x.nodes, func(node *replica.Node) bool { return node.View().Commit != x.nodes[at].View().Commit })
	})
	x.lookAtLines()
}

func (x *several) String() string {
	s := ""
	for i, node := range x.nodes {
		s += fmt.Sprintf("\n%d: %+v", i, node.View())
	}
	return s
}

func anyOp(r *rand.Rand, keys int) api.Op {
	k := fmt.Sprintf("k%03d", r.Intn(keys))
	switch r.Intn(10) {
	case 0, 1:
		return api.Op{Kind: api.OpGet, Key: k}
	case 2:
		return api.Op{Kind: api.OpScan, Key: k}
	case 3, 4:
		return api.Op{Kind: api.OpDel, Key: k}
	}
	return putOp(k, fmt.Sprintf("v%0*d", 1+r.Intn(31), r.Intn(9)))
}

// chaos are choices of all kinds, each as often as by chance it is chosen to be.
func (x *several) chaos(r *rand.Rand, keys, count int) {
	x.t.Helper()
	often := []int{api.ChCall: 1 + r.Intn(20), api.ChPick: 10 + r.Intn(60), api.ChDrop: r.Intn(15), api.ChCopy: r.Intn(15), api.ChTick: 1 + r.Intn(50), api.ChWork: r.Intn(60), api.ChSync: r.Intn(30), api.ChCrash: r.Intn(3), api.ChStart: r.Intn(6), api.ChBytes: 1}
	var kinds []int
	for kind, n := range often {
		kinds = append(kinds, slices.Repeat([]int{kind}, n)...)
	}
	for range count {
		c := api.Choice{Kind: kinds[r.Intn(len(kinds))], Node: r.Intn(len(x.nodes))}
		switch c.Kind {
		case api.ChCall:
			x.call(c.Node, anyOp(r, keys))
			continue
		case api.ChPick, api.ChDrop, api.ChCopy:
			c.N = r.Intn(max(x.net.Len(), 1))
		case api.ChWork:
			c.N = r.Intn(8)
		case api.ChCrash:
			c.N, c.M = r.Intn(6), r.Intn(api.PageSize+1)
		case api.ChBytes:
			c.Bytes = make([]byte, r.Intn(60))
			r.Read(c.Bytes)
		}
		x.step(c)
	}
}

// apart has some nodes hear one another for a while, and the others not; whoever is primary is called.
func (x *several) apart(r *rand.Rand, keys, count int) {
	x.t.Helper()
	n := len(x.nodes)
	group, dear, syncs := r.Intn(1<<n), r.Intn(n), 1+r.Intn(4)
	for range count {
		i := r.Intn(n)
		if r.Intn(2) == 0 {
			i = dear
		}
		switch r.Intn(12) {
		case 0, 1, 2:
			x.step(api.Choice{Kind: api.ChTick, Node: i})
		case 3, 4:
			x.step(api.Choice{Kind: api.ChWork, Node: i, N: r.Intn(8)})
			x.step(api.Choice{Kind: api.ChWork, Node: i, N: r.Intn(2)})
		case 5:
			if r.Intn(4) < syncs {
				x.step(api.Choice{Kind: api.ChSync, Node: i})
			}
		case 6:
			for k := range x.nodes {
				if x.nodes[k].View().Role == replica.Primary || r.Intn(8) == 0 {
					x.call(k, anyOp(r, keys))
				}
			}
		case 7:
			if r.Intn(20) == 0 {
				x.step(api.Choice{Kind: api.ChCrash, Node: i, N: r.Intn(6), M: r.Intn(api.PageSize + 1)})
			}
			if r.Intn(5) == 0 {
				x.step(api.Choice{Kind: api.ChStart, Node: i})
			}
		default:
			x.deliver(r, group)
		}
	}
}

// deliver has messages come among the nodes of a group; of the others some are lost, and some late.
func (x *several) deliver(r *rand.Rand, group int) {
	x.t.Helper()
	for at := 0; at < x.net.Len() && r.Intn(6) > 0; {
		m := x.net.Flight()[at]
		switch {
		case group>>m.From&1 == 1 && group>>m.To&1 == 1:
			x.step(api.Choice{Kind: api.ChPick, N: at})
		case r.Intn(3) > 0:
			x.step(api.Choice{Kind: api.ChDrop, N: at})
		default:
			at++
		}
	}
}

// 27.2 to 27.7, of nodes alone: whatever is chosen, the rules of chapter 26 are kept, logs come to one line, and it goes on.
func TestSeveralNodesKeepTheRules(t *testing.T) {
	counts, epochs, mended := map[int]int{}, 0, 0
	for n := 1; n <= api.MaxNodes; n++ {
		for seed := range 10 {
			r := rand.New(rand.NewSource(int64(1000*n + seed)))
			x := newSeveral(t, n)
			x.where = fmt.Sprintf("%d nodes, seed %d", n, seed)
			keys := 3 + r.Intn(100)
			for len(x.seen) < 3500 {
				if seed%3 == 0 {
					x.chaos(r, keys, 500)
				} else {
					x.apart(r, keys, 20+r.Intn(200))
				}
			}
			x.look()
			x.goesOn()
			for code, k := range x.counts {
				counts[code] += k
			}
			epochs += len(x.rulers)
			mended += mendings(x.nodes[0].Log())
		}
	}
	for _, code := range []int{api.AnOK, api.AnNotPrimary, api.AnStale, api.AnNotReady, api.AnDiskFull, api.AnTimeout} {
		if counts[code] < 100 {
			t.Errorf("only %d answers of code %d", counts[code], code)
		}
	}
	if epochs < 200 || mended < 10 {
		t.Errorf("only %d epochs with a primary, and %d trees that were mended", epochs, mended)
	}
}

// mendings is how many epochs of a log begin with records ahead of their ReNoop.
func mendings(l []api.Record) int {
	count := 0
	for i := 1; i < len(l); i++ {
		if l[i].Epoch > l[i-1].Epoch && l[i].Kind != api.ReNoop {
			count++
		}
	}
	return count
}

// quiet has all be synced and delivered, over and over, until nothing is in flight: the answers.
func (x *several) quiet() []api.Answer {
	x.t.Helper()
	var l []api.Answer
	for range 9 {
		for i := range x.nodes {
			l = append(l, x.step(api.Choice{Kind: api.ChSync, Node: i})...)
		}
		for x.net.Len() > 0 {
			l = append(l, x.step(api.Choice{Kind: api.ChPick})...)
		}
	}
	return l
}

// ticks has a node tick.
func (x *several) ticks(node, count int) {
	for range count {
		x.step(api.Choice{Kind: api.ChTick, Node: node})
	}
}

// elected has a node be primary of three.
func (x *several) elected(node int) {
	x.t.Helper()
	x.ticks(node, patience(node))
	x.quiet()
	if v := x.nodes[node].View(); v.Role != replica.Primary {
		x.t.Fatalf("%+v", v)
	}
}

func (x *several) wantAnswer(l []api.Answer, a api.Answer) {
	x.t.Helper()
	if len(l) != 1 || !sameAnswer(l[0], a) {
		x.t.Fatalf("%v, not %v", l, a)
	}
}

// The document's examples of the whole, as far as nodes alone can have them.
func TestExamplesOfTheWhole(t *testing.T) {
	begin := func() *several {
		x := newSeveral(t, 3)
		x.elected(0)
		wantView(t, x.nodes[0], replica.View{Role: replica.Primary, Epoch: 1, Last: 1, Synced: 1, Commit: 1})
		return x
	}
	put := func(x *several) { // a put, one step, a tick
		x.call(0, putOp("a", "x"))
		x.step(api.Choice{Kind: api.ChWork})
		x.ticks(0, 1)
	}
	// 2 and 3.
	x := begin()
	x.wantAnswer(x.call(1, getOp("a")), api.Answer{Req: 1, Node: 1, Code: api.AnNotReady})
	put(x)
	x.wantAnswer(x.quiet(), api.Answer{Req: 2, Code: api.AnOK})
	if len(x.h) != 1 || x.h[0].Req != 2 {
		t.Fatal(x.h)
	}
	x.wantAnswer(x.call(1, putOp("a", "x")), api.Answer{Req: 3, Node: 1, Code: api.AnNotPrimary})
	x.wantAnswer(x.call(1, getOp("a")), api.Answer{Req: 4, Node: 1, Code: api.AnOK}) // its point is the ReNoop's
	x.ticks(0, 1)
	x.quiet()
	x.step(api.Choice{Kind: api.ChWork, Node: 1, N: 1})
	found := api.Result{Found: true, Value: "x"}
	x.wantAnswer(x.call(1, getOp("a")), api.Answer{Req: 5, Node: 1, Code: api.AnOK, Result: found})
	// 5: node 0 crashes behind the sync.
	x.step(api.Choice{Kind: api.ChCrash})
	x.elected(1)
	if v := x.nodes[1].View(); v.Epoch != 2 {
		t.Fatalf("%+v", v)
	}
	x.ticks(1, 1)
	x.quiet()
	x.call(1, getOp("a"))
	x.wantAnswer(x.step(api.Choice{Kind: api.ChWork, Node: 1}), api.Answer{Req: 6, Node: 1, Code: api.AnOK, Result: found})
	// 7.
	for i := range 3 {
		x.step(api.Choice{Kind: api.ChStart, Node: i})
		x.wantAnswer(x.call(i, putOp("12345678901234567", "x")), api.Answer{Req: x.made, Node: i, Code: api.AnKeyTooLong})
		x.wantAnswer(x.call(i, putOp("", "x")), api.Answer{Req: x.made, Node: i, Code: api.AnMalformed})
	}
	x.look()
	// 4: node 0 crashes ahead of the sync.
	x = begin()
	put(x)
	x.wantAnswer(x.step(api.Choice{Kind: api.ChCrash}), api.Answer{Req: 1, Code: api.AnTimeout})
	x.step(api.Choice{Kind: api.ChStart})
	x.goesOn()
	if len(x.h) != 1 || x.h[0].Key != "zz" { // the one that goesOn puts
		t.Fatal(x.h)
	}
	// 6: node 0 starts again with a record that no majority has.
	x = begin()
	x.ticks(0, 1)
	x.quiet()
	put(x)
	x.nodes[0].Sync() // and what it says is lost
	x.wantAnswer(x.step(api.Choice{Kind: api.ChCrash}), api.Answer{Req: 1, Code: api.AnTimeout})
	x.elected(1)
	x.step(api.Choice{Kind: api.ChStart})
	wantLog(t, x.nodes[0], noop(1, 1), rePut(2, 1, 1, "a", "x"), committed(3, 1, 1, "a", "x"))
	for range 3 {
		x.ticks(1, 1)
		x.quiet()
	}
	for _, node := range x.nodes {
		wantLog(t, node, noop(1, 1), noop(2, 2))
	}
	x.look()
}
