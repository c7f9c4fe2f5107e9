package cluster_test

import (
	"fmt"
	"math"
	"math/rand"
	"slices"
	"testing"

	"lattice/api"
	"lattice/cluster"
	"lattice/replica"
)

// 27.2 to 27.7, and 27.9: whatever is chosen, the rules are kept, and it goes on.
func TestScriptsKeepTheRules(t *testing.T) {
	for n := 1; n <= api.MaxNodes; n++ {
		t.Run(fmt.Sprint(n), func(t *testing.T) {
			t.Parallel()
			counts, epochs := map[int]int{}, 0
			for seed := range 15 {
				w := newWorld(t, fmt.Sprintf("%d nodes, seed %d", n, seed), n)
				w.anything(rand.New(rand.NewSource(int64(1000*n+seed))), seed%3 == 0, 3000)
				w.check()
				w.goesOn(seed%2 == 0)
				for code, k := range w.counts {
					counts[code] += k
				}
				epochs += len(w.rulers)
			}
			codes := []int{api.AnOK, api.AnNotPrimary, api.AnDiskFull, api.AnTimeout}
			if n > 1 { // who is alone is never deposed
				codes = append(codes, api.AnStale, api.AnNotReady)
			}
			for _, code := range codes {
				if counts[code] < 5 {
					t.Errorf("only %d answers of code %d", counts[code], code)
				}
			}
			if epochs < 15 {
				t.Errorf("only %d epochs with a primary", epochs)
			}
		})
	}
}

// 27.7 where nothing was chosen yet, and where all that could be is at its worst: each node down, with a promise of its own, and with nothing synced.
func TestItGoesOnFromAnywhere(t *testing.T) {
	for n := 1; n <= api.MaxNodes; n++ {
		for _, eager := range []bool{false, true} {
			newWorld(t, fmt.Sprintf("%d fresh nodes", n), n).goesOn(eager)
			w := newWorld(t, fmt.Sprintf("%d nodes that stood", n), n)
			for i := range n {
				for range 40 * (n - i) { // the greatest number has the least epoch
					w.step(api.Choice{Kind: api.ChTick, Node: i})
					w.step(api.Choice{Kind: api.ChSync, Node: i})
				}
			}
			for i := range n {
				w.step(api.Choice{Kind: api.ChTick, Node: i})
				w.step(api.Choice{Kind: api.ChCrash, Node: i, M: api.PageSize})
			}
			w.goesOn(eager)
		}
	}
}

// A node that was away for long is brought up.
func TestANodeThatWasAwayIsBroughtUp(t *testing.T) {
	w := newWorld(t, "a node that was away", 3)
	w.step(api.Choice{Kind: api.ChCrash, Node: 2})
	w.within(30, true, "a primary", func([]api.Answer) bool { return w.settled() >= 0 })
	at := w.settled()
	for i := range 300 {
		w.call(at, api.Op{Kind: api.OpPut, Key: fmt.Sprintf("k%03d", i*7%300), Value: "12345678901234567890"})
		w.round(true)
	}
	for range 5 {
		w.round(true)
	}
	if len(w.h) != 300 {
		t.Fatalf("%d records of H", len(w.h))
	}
	w.goesOn(true)
	if !slices.Equal(w.logs[2], w.logs[0]) || len(w.logs[0]) < 600 {
		t.Errorf("logs of %d and %d records", len(w.logs[2]), len(w.logs[0]))
	}
}

// A disk that is full: calls are refused, and no rule is broken.
func TestDisksThatAreFull(t *testing.T) {
	w := newWorld(t, "a full disk", 1)
	w.ticks(0, 10)
	for i := 0; w.counts[api.AnDiskFull] < 20; i++ {
		w.call(0, api.Op{Kind: api.OpPut, Key: fmt.Sprintf("k%015d", i%4), Value: "12345678901234567890123456789012"})
		w.step(api.Choice{Kind: api.ChWork})
		w.step(api.Choice{Kind: api.ChWork})
		if i%40 == 39 { // not more often: a trace may have no more steps
			w.step(api.Choice{Kind: api.ChSync})
		}
		if i%400 == 399 {
			w.call(0, api.Op{Kind: api.OpDel, Key: "none"})
			w.step(api.Choice{Kind: api.ChWork})
			w.step(api.Choice{Kind: api.ChCrash, N: 3, M: 99})
			w.step(api.Choice{Kind: api.ChStart})
			w.ticks(0, 10)
		}
	}
	w.step(api.Choice{Kind: api.ChSync})
	w.check()
	if w.counts[api.AnOK] < 900 {
		t.Errorf("%v", w.counts)
	}
	if l := w.call(0, api.Op{Kind: api.OpScan}); len(l) != 1 || l[0].Code != api.AnOK || len(l[0].Result.Entries) != 4 {
		t.Errorf("%v", l)
	}
	w.step(api.Choice{Kind: api.ChCrash})
	w.step(api.Choice{Kind: api.ChStart})
	w.ticks(0, 10)
	w.step(api.Choice{Kind: api.ChSync})
	if v := w.views[0]; v.Role != replica.Primary || v.Commit != v.Last {
		t.Errorf("%+v", v)
	}
}

// among has all that some nodes say to one another be synced and delivered, and all else be lost, so many times.
func (w *world) among(times int, nodes ...int) {
	w.t.Helper()
	for range times {
		for _, i := range nodes {
			w.step(api.Choice{Kind: api.ChSync, Node: i})
		}
		for range w.c.Flight() {
			m := w.c.InFlight()[0]
			if slices.Contains(nodes, m.From) && slices.Contains(nodes, m.To) {
				w.step(api.Choice{Kind: api.ChPick})
			} else {
				w.step(api.Choice{Kind: api.ChDrop})
			}
		}
	}
}

// reigns has a node tick until it is primary, by what some nodes say to one another.
func (w *world) reigns(i int, nodes ...int) {
	w.t.Helper()
	for range 60 {
		w.ticks(i, 1)
		w.among(1, nodes...)
		if w.views[i].Role == replica.Primary {
			return
		}
	}
	w.fatal("node ", i, " is no primary")
}

// 27.3, where a majority has records of an epoch ahead, and none yet of the primary's own: they may still be cut off.
func TestWhatAMajorityHasOfAnEpochAhead(t *testing.T) {
	w := newWorld(t, "an epoch ahead", 3)
	w.reigns(0, 0, 1, 2)
	w.ticks(0, 1)
	w.among(3, 0, 1, 2)
	for range 20 { // these none but node 0 has
		w.call(0, api.Op{Kind: api.OpDel, Key: "none"})
		w.step(api.Choice{Kind: api.ChWork})
		w.step(api.Choice{Kind: api.ChWork})
	}
	w.among(1, 0)
	w.step(api.Choice{Kind: api.ChCrash})
	w.reigns(1, 1, 2)
	w.among(1, 1) // its ReNoop none but node 1 has
	w.step(api.Choice{Kind: api.ChCrash, Node: 1})
	w.step(api.Choice{Kind: api.ChStart})
	w.reigns(0, 0, 2)
	for len(w.logs[2]) == 1 {
		w.ticks(0, 1)
		w.among(1, 0, 2)
	}
	w.among(2, 0, 2) // node 2 has some of node 0's, and node 0 knows
	if n := len(w.logs[2]); n < replica.MaxSend || w.logs[2][n-1].Epoch != 1 || len(w.h) != 0 {
		w.fatal(w.logs[2], w.h)
	}
	w.step(api.Choice{Kind: api.ChCrash})
	w.step(api.Choice{Kind: api.ChStart, Node: 1})
	w.reigns(1, 1, 2)
	w.call(1, api.Op{Kind: api.OpPut, Key: "a", Value: "x"})
	w.step(api.Choice{Kind: api.ChWork, Node: 1})
	for range 4 {
		w.ticks(1, 1)
		w.among(2, 1, 2)
	}
	if len(w.h) != 1 || w.h[0].Key != "a" {
		w.fatal(w.h)
	}
	w.check()
	w.goesOn(true)
	if len(w.h) != 2 || !slices.Equal(w.logs[0], w.logs[1]) || !slices.Equal(w.logs[0], w.logs[2]) {
		w.fatal(w.h)
	}
}

// script are the choices of a world in which anything happens.
func script(t *testing.T, n int, seed int64, count int) []api.Choice {
	t.Helper()
	w := newWorld(t, fmt.Sprintf("%d nodes, seed %d", n, seed), n)
	w.anything(rand.New(rand.NewSource(seed)), seed%2 == 0, count)
	var l []api.Choice
	for _, s := range w.seen {
		l = append(l, s.Choice)
	}
	return l
}

// twins play a script on two clusters, on the second one with what a twist does to each choice; both must tell the same, and be the same.
func twins(t *testing.T, what string, twist func(r *rand.Rand, c *cluster.Cluster, n int, x api.Choice) []api.Answer) {
	t.Helper()
	for n := 1; n <= api.MaxNodes; n++ {
		r := rand.New(rand.NewSource(int64(n)))
		a, _ := cluster.New(n)
		b, _ := cluster.New(n)
		for i, x := range script(t, n, int64(n+100), 900) {
			where := fmt.Sprintf("%s: %d nodes, step %d, %+v", what, n, i, x)
			want, e := a.Step(x)
			if e != api.OK {
				t.Fatal(where, e)
			}
			if got := twist(r, b, n, x); !same(got, want) {
				t.Fatalf("%s: %v, not %v", where, got, want)
			}
			wantState(t, where, b, stateOf(a, n))
		}
	}
}

// stepped is a step that must tell no error.
func stepped(t *testing.T, c *cluster.Cluster, x api.Choice) []api.Answer {
	t.Helper()
	l, e := c.Step(x)
	if e != api.OK {
		t.Fatalf("%+v: %v", x, e)
	}
	return l
}

// 27.8
func TestTheSameChoicesDoTheSame(t *testing.T) {
	twins(t, "again", func(_ *rand.Rand, c *cluster.Cluster, _ int, x api.Choice) []api.Answer { return stepped(t, c, x) })
}

// wrong are choices that are wrong whatever was done: of n nodes.
func wrong(n int) []api.Choice {
	var l []api.Choice
	for _, kind := range []int{math.MinInt, -1, 0, 11, 12, math.MaxInt} {
		l = append(l, api.Choice{Kind: kind})
	}
	for _, i := range []int{math.MinInt, -1, n, n + 1, math.MaxInt} {
		l = append(l, api.Choice{Kind: api.ChCall, Call: api.Call{Req: 1 << 30, Node: i, Op: api.Op{Kind: api.OpGet, Key: "a"}}})
		for kind := api.ChTick; kind <= api.ChBytes; kind++ {
			l = append(l, api.Choice{Kind: kind, Node: i})
		}
	}
	for _, i := range []int{math.MinInt, -1} {
		for _, kind := range []int{api.ChPick, api.ChDrop, api.ChCopy, api.ChWork, api.ChCrash} {
			l = append(l, api.Choice{Kind: kind, N: i})
		}
	}
	for _, i := range []int{math.MinInt, -1, api.PageSize + 1, math.MaxInt} {
		l = append(l, api.Choice{Kind: api.ChCrash, M: i})
	}
	return append(l, api.Choice{Kind: api.ChBytes, Bytes: make([]byte, 65536)}, api.Choice{Kind: api.ChBytes, Bytes: make([]byte, 1<<20)})
}

// 27.1: a step that tells an error changes nothing.
func TestWrongStepsChangeNothing(t *testing.T) {
	twins(t, "with wrong steps", func(r *rand.Rand, c *cluster.Cluster, n int, x api.Choice) []api.Answer {
		l := wrong(n)
		for range 3 {
			if got, e := c.Step(l[r.Intn(len(l))]); e != api.ErrArg || len(got) > 0 {
				t.Fatalf("%v, %v", got, e)
			}
		}
		answers := stepped(t, c, x)
		if x.Kind == api.ChCall { // it is there now
			x.Call.Op, x.Call.Node = anyOp(r, 3), r.Intn(n)
			if got, e := c.Step(x); e != api.ErrState || len(got) > 0 {
				t.Fatalf("%v, %v", got, e)
			}
		}
		return answers
	})
}

// 27.1: fields that a kind does not name are not looked at.
func TestFieldsThatAreNotNamed(t *testing.T) {
	twins(t, "with other fields", func(r *rand.Rand, c *cluster.Cluster, _ int, x api.Choice) []api.Answer {
		y := api.Choice{Kind: x.Kind, Node: edge(r, -1, 0, 8, math.MaxInt-1), N: edge(r, -1, 0, 9), M: edge(r, -1, 0, 257), Call: api.Call{Req: 1 + r.Intn(99), Node: edge(r, -1, 0, 8), Op: anyOp(r, 9)}, Bytes: make([]byte, edge(r, 1, 65536))}
		switch x.Kind {
		case api.ChCall:
			y.Call = x.Call
		case api.ChPick, api.ChDrop, api.ChCopy:
			y.N = x.N
		case api.ChWork:
			y.Node, y.N = x.Node, x.N
		case api.ChCrash:
			y.Node, y.N, y.M = x.Node, x.N, x.M
		case api.ChBytes:
			y.Node, y.Bytes = x.Node, x.Bytes
		default:
			y.Node = x.Node
		}
		return stepped(t, c, y)
	})
}

// 27.6: strangers change nothing, also where their bytes are a message's that is in flight.
func TestStrangersChangeNothing(t *testing.T) {
	twins(t, "with strangers", func(r *rand.Rand, c *cluster.Cluster, n int, x api.Choice) []api.Answer {
		l := [][]byte{nil, {}, anyBytes(r), make([]byte, 65535)}
		for _, m := range c.InFlight() {
			l = append(l, m.Bytes)
		}
		for range 3 {
			b := l[r.Intn(len(l))]
			if got := stepped(t, c, api.Choice{Kind: api.ChBytes, Node: r.Intn(n), Bytes: b}); len(got) > 0 {
				t.Fatalf("%v is answered %v", b, got)
			}
		}
		return stepped(t, c, x)
	})
}

// R3: what is handed in is not changed and not kept, what is told shares nothing.
func TestNothingIsSharedOrKept(t *testing.T) {
	twins(t, "wiped", func(_ *rand.Rand, c *cluster.Cluster, n int, x api.Choice) []api.Answer {
		roomy := append(make([]byte, 0, len(x.Bytes)+9), x.Bytes...)
		copy(roomy[len(roomy):cap(roomy)], "spare room")
		was := slices.Clone(roomy[:cap(roomy)])
		x.Bytes = roomy
		answers := stepped(t, c, x)
		if !slices.Equal(roomy[:cap(roomy)], was) {
			t.Fatal("bytes that were handed in are others now")
		}
		clear(roomy[:cap(roomy)])
		out := make([]api.Answer, len(answers))
		for i, a := range answers {
			out[i] = a
			out[i].Result.Entries = slices.Clone(a.Result.Entries)
		}
		for _, a := range answers {
			wipe(a.Result.Entries)
		}
		wipe(answers)
		wipe(c.H())
		for i := range n {
			wipe(c.Log(i))
		}
		return out
	})
}

// wipe writes over a list, spare room too.
func wipe[T any](l []T) { clear(l[:cap(l)]) }

// Two scans are answered at one step: their lists are not one.
func TestAnswersShareNothing(t *testing.T) {
	w := newWorld(t, "two scans", 1)
	w.ticks(0, 10)
	w.call(0, api.Op{Kind: api.OpPut, Key: "a", Value: "x"})
	w.step(api.Choice{Kind: api.ChWork})
	w.call(0, api.Op{Kind: api.OpScan})
	w.call(0, api.Op{Kind: api.OpScan})
	l := w.step(api.Choice{Kind: api.ChSync})
	want := []api.Entry{{Key: "a", Value: "x"}}
	if len(l) != 3 || !slices.Equal(l[1].Result.Entries, want) || !slices.Equal(l[2].Result.Entries, want) {
		t.Fatalf("%v", l)
	}
	wipe(l[1].Result.Entries)
	if !slices.Equal(l[2].Result.Entries, want) || !slices.Equal(w.call(0, api.Op{Kind: api.OpScan})[0].Result.Entries, want) {
		t.Error("they share a list")
	}
	one, two := w.c.H(), w.c.H()
	wipe(one)
	if len(two) != 1 || two[0].Req != 1 || !slices.Equal(w.c.H(), two) {
		t.Error("histories share a list")
	}
}
