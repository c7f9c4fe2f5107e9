package cluster_test

import (
	"bytes"
	"fmt"
	"math/rand"
	"slices"
	"testing"

	"lattice/api"
	"lattice/cluster"
	"lattice/fold"
	"lattice/replica"
	"lattice/trace"
)

// maxSeen is how many steps a trace may have.
const maxSeen = api.MaxBytes / 256

// world is a cluster that is looked at behind each step.
type world struct {
	t      *testing.T
	where  string
	c      *cluster.Cluster
	n      int
	made   int // the number of the last call
	seen   []trace.Seen
	h      []api.Record   // behind the last step
	logs   [][]api.Record // likewise
	views  []replica.View // likewise
	rulers map[int]int    // by epochs, the node that was primary
	floors []int          // of each node that is primary, behind which beginning of H its acked writes are
	begun  map[int]begun  // reads on primaries, by their numbers
	counts map[int]int    // of answers, by their codes
}

// begun is a read that was begun on a primary.
type begun struct {
	op    api.Op
	floor int
}

func newWorld(t *testing.T, where string, n int) *world {
	t.Helper()
	c, e := cluster.New(n)
	if e != api.OK {
		t.Fatal(e)
	}
	w := &world{t: t, where: where, c: c, n: n, rulers: map[int]int{}, floors: make([]int, n), begun: map[int]begun{}, counts: map[int]int{}}
	w.logs, w.views = make([][]api.Record, n), make([]replica.View, n)
	for i := range n {
		w.views[i] = c.View(i)
	}
	return w
}

func (w *world) fatal(what ...any) {
	w.t.Helper()
	s := ""
	for i := range w.n {
		s += fmt.Sprintf("\n%d: %+v", i, w.c.View(i))
	}
	w.t.Fatalf("%s, step %d: %s%s", w.where, len(w.seen), fmt.Sprint(what...), s)
}

// step does a choice, and looks at all that must hold behind each.
func (w *world) step(x api.Choice) []api.Answer {
	w.t.Helper()
	flight := w.c.Flight()
	w.begin(x)
	answers, e := w.c.Step(x)
	if e != api.OK {
		w.fatal(x, ": ", e)
	}
	was, wasLogs, wasH := slices.Clone(w.views), slices.Clone(w.logs), w.h
	w.look(x)
	for _, a := range answers {
		w.counts[a.Code]++
		w.answered(a)
	}
	if x.Kind == api.ChBytes && (len(answers) > 0 || w.c.Flight() != flight || !slices.Equal(was, w.views) || !slices.EqualFunc(wasLogs, w.logs, slices.Equal) || !slices.Equal(wasH, w.h)) {
		w.fatal("a stranger's bytes changed something: ", x.Bytes)
	}
	w.seen = append(w.seen, trace.Seen{Choice: x, Answers: answers, H: w.h})
	return answers
}

// look looks at what all nodes are, and have.
func (w *world) look(x api.Choice) {
	w.t.Helper()
	w.h = w.c.H()
	for i := range w.n {
		v := w.c.View(i)
		was := w.views[i]
		if was.Role != v.Role || was.Epoch != v.Epoch {
			w.floors[i] = 0
		}
		w.views[i] = v
		if v.Role == replica.Primary { // 27.5
			if k, ok := w.rulers[v.Epoch]; ok && k != i {
				w.fatal("nodes ", k, " and ", i, " are both primary of epoch ", v.Epoch)
			}
			w.rulers[v.Epoch] = i
		}
		if log := w.c.Log(i); !slices.Equal(log, w.logs[i]) || v.Commit != was.Commit {
			w.logs[i] = log
			w.lookAtLog(i, v)
		}
	}
}

// lookAtLog is 27.3 and 27.4.
func (w *world) lookAtLog(i int, v replica.View) {
	w.t.Helper()
	log := w.logs[i]
	if v.Up && v.Last != len(log) || v.Commit > len(log) {
		w.fatal("node ", i, " has ", len(log), " records")
	}
	if h := fold.History(log[:v.Commit]); len(h) > len(w.h) || !slices.Equal(h, w.h[:len(h)]) {
		w.fatal("node ", i, " has committed ", h, ", and H is ", w.h)
	}
	for j, other := range w.logs {
		k := min(len(log), len(other))
		for k > 0 && log[k-1].Epoch != other[k-1].Epoch {
			k--
		}
		if !slices.Equal(log[:k], other[:k]) {
			w.fatal("the logs of ", i, " and ", j, " are not the same up to ", k)
		}
	}
}

// begin takes in a read on a primary.
func (w *world) begin(x api.Choice) {
	i, op := x.Call.Node, x.Call.Op
	if x.Kind == api.ChCall && (op.Kind == api.OpGet || op.Kind == api.OpScan) && w.views[i].Role == replica.Primary {
		w.begun[x.Call.Req] = begun{op, w.floors[i]}
	}
}

// answered is 27.9: a read that begins behind a write that was acked on the same primary tells of it.
func (w *world) answered(a api.Answer) {
	w.t.Helper()
	if a.Code != api.AnOK {
		return
	}
	if b, ok := w.begun[a.Req]; ok {
		if _, ok := fold.Agrees(w.h, b.op, a.Result, b.floor); !ok {
			w.fatal(b.op, " tells ", a.Result, ", which is none behind ", b.floor, " of ", w.h)
		}
		return
	}
	if at, ok := fold.Place(w.h, a.Req); ok {
		w.floors[a.Node] = max(w.floors[a.Node], at+1)
	}
}

// check is 27.2.
func (w *world) check() {
	w.t.Helper()
	if rule, at, e := trace.Check(w.seen); rule != 0 || e != api.OK {
		w.t.Fatalf("%s: rule %d is broken at step %d (%+v), %v", w.where, rule, at, w.seen[at], e)
	}
}

// call makes one on a node.
func (w *world) call(node int, op api.Op) []api.Answer {
	w.t.Helper()
	w.made++
	return w.step(api.Choice{Kind: api.ChCall, Call: api.Call{Req: w.made, Node: node, Op: op}})
}

// round is one of 27.7; eager: what is sent meanwhile is delivered, too.
func (w *world) round(eager bool) []api.Answer {
	w.t.Helper()
	var l []api.Answer
	for i := range w.n {
		l = append(l, w.step(api.Choice{Kind: api.ChTick, Node: i})...)
		for k := range 8 {
			l = append(l, w.step(api.Choice{Kind: api.ChWork, Node: i, N: k})...)
		}
		l = append(l, w.step(api.Choice{Kind: api.ChSync, Node: i})...)
	}
	for k := w.c.Flight(); k > 0 || eager && w.c.Flight() > 0; k-- {
		l = append(l, w.step(api.Choice{Kind: api.ChPick})...)
	}
	return l
}

// within has rounds go by until something holds.
func (w *world) within(rounds int, eager bool, what string, holds func([]api.Answer) bool) {
	w.t.Helper()
	for range rounds {
		if holds(w.round(eager)) {
			return
		}
	}
	w.fatal("not within ", rounds, " rounds: ", what)
}

// settled is a primary whose commit is its last LSN; -1, if there is none.
func (w *world) settled() int {
	return slices.IndexFunc(w.views, func(v replica.View) bool { return v.Role == replica.Primary && v.Commit == v.Last })
}

// goesOn is 27.7, from whatever was chosen on.
func (w *world) goesOn(eager bool) {
	w.t.Helper()
	for i := range w.n {
		w.step(api.Choice{Kind: api.ChStart, Node: i})
	}
	w.within(200, eager, "a primary", func([]api.Answer) bool { return w.settled() >= 0 })
	at := w.settled()
	for range 40 {
		w.round(eager)
	}
	w.call(at, api.Op{Kind: api.OpPut, Key: "zz", Value: "last"})
	req := w.made
	w.within(50, eager, "a put is answered", func(l []api.Answer) bool {
		return slices.ContainsFunc(l, func(a api.Answer) bool { return a.Req == req && a.Code == api.AnOK })
	})
	w.within(200, eager, "all commits are the primary's", func([]api.Answer) bool {
		return !slices.ContainsFunc(w.views, func(v replica.View) bool { return v.Commit != w.views[at].Commit })
	})
}

func anyOp(r *rand.Rand, keys int) api.Op {
	k := fmt.Sprintf("k%03d", r.Intn(keys))
	switch r.Intn(10) {
	case 0, 1:
		return api.Op{Kind: api.OpGet, Key: k}
	case 2:
		return api.Op{Kind: api.OpScan, Key: k}
	case 3, 4:
		return api.Op{Kind: api.OpDel, Key: k}
	}
	return api.Op{Kind: api.OpPut, Key: k, Value: fmt.Sprintf("v%0*d", 1+r.Intn(31), r.Intn(9))}
}

// anyBytes are a stranger's: some of them a right message's.
func anyBytes(r *rand.Rand) []byte {
	b := make([]byte, r.Intn(60))
	r.Read(b)
	if r.Intn(2) == 0 {
		b, _ = replica.Encode(replica.Message{Kind: 1 + r.Intn(4), Epoch: r.Intn(1000), Mark: api.Mark{Epoch: r.Intn(9), LSN: r.Intn(99)}, Commit: r.Intn(99), OK: r.Intn(2) == 0})
	}
	return bytes.Clone(b)
}

// any is a choice of a kind.
func (w *world) any(r *rand.Rand, kind, keys int) {
	w.t.Helper()
	x := api.Choice{Kind: kind, Node: r.Intn(w.n)}
	switch kind {
	case api.ChCall:
		w.call(x.Node, anyOp(r, keys))
		return
	case api.ChPick, api.ChDrop, api.ChCopy:
		x.N = r.Intn(w.c.Flight() + 1)
	case api.ChWork:
		x.N = r.Intn(8)
	case api.ChCrash:
		x.N, x.M = r.Intn(6), r.Intn(api.PageSize+1)
	case api.ChBytes:
		x.Bytes = anyBytes(r)
	}
	w.step(x)
}

// anything are so many choices: of all kinds in any turn, or such that keep nodes apart.
func (w *world) anything(r *rand.Rand, wild bool, count int) {
	w.t.Helper()
	keys := 3 + r.Intn(100)
	for len(w.seen) < count {
		if wild {
			w.chaos(r, keys, 100)
		} else {
			w.apart(r, keys, 20+r.Intn(100))
		}
	}
}

// ticks has a node tick.
func (w *world) ticks(node, count int) {
	w.t.Helper()
	for range count {
		w.step(api.Choice{Kind: api.ChTick, Node: node})
	}
}

// chaos are choices of all kinds, each as often as by chance it is chosen to be.
func (w *world) chaos(r *rand.Rand, keys, count int) {
	w.t.Helper()
	often := []int{api.ChCall: 1 + r.Intn(20), api.ChPick: 10 + r.Intn(60), api.ChDrop: r.Intn(15), api.ChCopy: r.Intn(15), api.ChTick: 1 + r.Intn(50), api.ChWork: r.Intn(60), api.ChSync: r.Intn(30), api.ChCrash: r.Intn(3), api.ChStart: r.Intn(6), api.ChBytes: 1}
	var kinds []int
	for kind, n := range often {
		kinds = append(kinds, slices.Repeat([]int{kind}, n)...)
	}
	for range count {
		w.any(r, kinds[r.Intn(len(kinds))], keys)
	}
}

// apart has some nodes hear one another for a while, and the others not; whoever is primary is called.
func (w *world) apart(r *rand.Rand, keys, count int) {
	w.t.Helper()
	dear, syncs := r.Intn(w.n), 1+r.Intn(4)
	group := r.Intn(1<<w.n) | r.Intn(1<<w.n)
	if r.Intn(4) > 0 {
		group |= 1 << dear
	}
	for range count {
		i := r.Intn(w.n)
		if r.Intn(2) == 0 {
			i = dear
		}
		switch r.Intn(12) {
		case 0, 1, 2:
			w.step(api.Choice{Kind: api.ChTick, Node: i})
		case 3, 4:
			w.step(api.Choice{Kind: api.ChWork, Node: i, N: r.Intn(8)})
			w.step(api.Choice{Kind: api.ChWork, Node: i, N: r.Intn(2)})
		case 5:
			if r.Intn(4) < syncs {
				w.step(api.Choice{Kind: api.ChSync, Node: i})
			}
		case 6:
			for k := range w.n {
				if w.views[k].Role == replica.Primary || r.Intn(8) == 0 {
					w.call(k, anyOp(r, keys))
				}
			}
		case 7:
			if r.Intn(20) == 0 {
				w.any(r, api.ChCrash, keys)
			}
			if r.Intn(5) == 0 {
				w.step(api.Choice{Kind: api.ChStart, Node: i})
			}
		default:
			w.deliver(r, group)
		}
	}
}

// deliver has messages come among the nodes of a group; of the others some are lost, and some late.
func (w *world) deliver(r *rand.Rand, group int) {
	w.t.Helper()
	for at := 0; at < w.c.Flight() && r.Intn(6) > 0; {
		m := w.c.InFlight()[at]
		switch {
		case group>>m.From&1 == 1 && group>>m.To&1 == 1:
			if r.Intn(20) == 0 {
				w.step(api.Choice{Kind: api.ChCopy, N: at})
			}
			w.step(api.Choice{Kind: api.ChPick, N: at})
		case r.Intn(3) > 0:
			w.step(api.Choice{Kind: api.ChDrop, N: at})
		default:
			at++
		}
	}
}
