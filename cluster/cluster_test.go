package cluster_test

import (
	"fmt"
	"math"
	"slices"
	"testing"

	"lattice/api"
	"lattice/cluster"
	"lattice/net"
	"lattice/replica"
)

// 27.1: New.
func TestNew(t *testing.T) {
	for _, n := range []int{math.MinInt, -1, 0, api.MaxNodes + 1, math.MaxInt} {
		if c, e := cluster.New(n); c != nil || e != api.ErrArg {
			t.Errorf("New(%d): %v, %v", n, c, e)
		}
	}
	for n := 1; n <= api.MaxNodes; n++ {
		c, e := cluster.New(n)
		if e != api.OK || len(c.H()) != 0 || c.Flight() != 0 {
			t.Fatalf("New(%d): %v, %v, %d", n, e, c.H(), c.Flight())
		}
		for _, i := range []int{math.MinInt, -1, 0, n - 1, n, math.MaxInt} {
			want := replica.View{}
			if i >= 0 && i < n {
				want = replica.View{Up: true, Role: replica.Standby}
			}
			if v := c.View(i); v != want || len(c.Log(i)) != 0 {
				t.Errorf("New(%d): node %d: %+v, %v", n, i, v, c.Log(i))
			}
		}
	}
}

// 27.1: of a node that is none there is nothing, also where there are others.
func TestNodesThatAreNone(t *testing.T) {
	w := newWorld(t, "three", 3)
	for range 20 {
		w.round(true)
	}
	for i := range 3 {
		if len(w.c.Log(i)) != 1 {
			t.Errorf("node %d: %v", i, w.c.Log(i))
		}
	}
	for _, i := range []int{math.MinInt, -1, 3, 4, math.MaxInt} {
		if w.c.View(i) != (replica.View{}) || len(w.c.Log(i)) != 0 {
			t.Errorf("node %d: %+v, %v", i, w.c.View(i), w.c.Log(i))
		}
	}
}

// 27.1: a nil cluster.
func TestNil(t *testing.T) {
	var c *cluster.Cluster
	for range 2 { // R6
		for _, x := range append(wrong(1), api.Choice{Kind: api.ChTick}, api.Choice{Kind: api.ChPick}, api.Choice{Kind: api.ChCall, Call: api.Call{Req: 1}}) {
			if l, e := c.Step(x); len(l) != 0 || e != api.ErrState {
				t.Errorf("%+v: %v, %v", x, l, e)
			}
		}
		for _, i := range []int{-1, 0, 1} {
			if c.View(i) != (replica.View{}) || len(c.Log(i)) != 0 {
				t.Error(c.View(i), c.Log(i))
			}
		}
		if len(c.H()) != 0 || c.Flight() != 0 {
			t.Error(c.H(), c.Flight())
		}
	}
}

// P1: a cluster that New has not made has no nodes.
func TestNotMade(t *testing.T) {
	var c cluster.Cluster
	for kind := range 12 {
		c.Step(api.Choice{Kind: kind})
	}
	if len(c.H()) != 0 || c.Flight() != 0 || c.View(0) != (replica.View{}) || len(c.Log(0)) != 0 {
		t.Error("it has something")
	}
}

// 27.1: Step's errors, on clusters in which nothing, and much, was done.
func TestErrors(t *testing.T) {
	for n := 1; n <= api.MaxNodes; n++ {
		fresh := newWorld(t, "fresh", n)
		used := newWorld(t, "used", n)
		for range 20 {
			used.round(true)
		}
		used.call(0, api.Op{Kind: api.OpGet, Key: "a"})
		used.ticks(used.settled(), 1)
		for _, w := range []*world{fresh, used} {
			was := stateOf(w.c, n)
			for _, x := range wrong(n) {
				if l, e := w.c.Step(x); len(l) != 0 || e != api.ErrArg {
					t.Errorf("%d nodes: %+v: %v, %v", n, x, l, e)
				}
			}
			wantState(t, "behind what is wrong", w.c, was)
			for _, i := range []int{0, n - 1} { // the edges that are right
				for kind := api.ChTick; kind <= api.ChBytes; kind++ {
					w.step(api.Choice{Kind: kind, Node: i})
				}
				w.step(api.Choice{Kind: api.ChWork, Node: i, N: math.MaxInt})
				w.step(api.Choice{Kind: api.ChCrash, Node: i, N: math.MaxInt, M: api.PageSize})
				w.step(api.Choice{Kind: api.ChStart, Node: i})
				w.step(api.Choice{Kind: api.ChBytes, Node: i, Bytes: make([]byte, 65535)})
				w.call(i, api.Op{Kind: api.OpGet, Key: "a"})
			}
			for _, kind := range []int{api.ChPick, api.ChDrop, api.ChCopy} {
				w.step(api.Choice{Kind: kind})
				w.step(api.Choice{Kind: kind, N: math.MaxInt})
			}
		}
	}
}

// 27.1: a Req that was called ahead, on the same node or on another one, and whatever came of it.
func TestReqsThatWereCalledAhead(t *testing.T) {
	w := newWorld(t, "called ahead", 2)
	w.step(api.Choice{Kind: api.ChCrash, Node: 1})
	call := func(req, node int, key string) ([]api.Answer, api.Errno) {
		return w.c.Step(api.Choice{Kind: api.ChCall, Call: api.Call{Req: req, Node: node, Op: api.Op{Kind: api.OpGet, Key: key}}})
	}
	for req, code := range map[int]int{1: api.AnNotReady, 0: api.AnMalformed, -1: api.AnMalformed, api.MaxReq: api.AnNotReady, api.MaxReq + 1: api.AnMalformed, math.MinInt: api.AnMalformed, math.MaxInt: api.AnMalformed} {
		if l, e := call(req, 2, "a"); len(l) != 0 || e != api.ErrArg { // which makes none
			t.Errorf("%d: %v, %v", req, l, e)
		}
		if l, e := call(req, 0, "a"); e != api.OK || !same(l, []api.Answer{{Req: req, Code: code}}) {
			t.Errorf("%d: %v, %v", req, l, e)
		}
		for _, node := range []int{0, 1} {
			for _, key := range []string{"a", "b", ""} {
				if l, e := call(req, node, key); len(l) != 0 || e != api.ErrState {
					t.Errorf("%d again: %v, %v", req, l, e)
				}
			}
		}
		if _, e := call(req, 2, "a"); e != api.ErrArg { // its node is looked at first
			t.Errorf("%d on no node: %v", req, e)
		}
	}
	for i, key := range []string{"a", "", "12345678901234567"} { // on a node that is not up
		if l, e := call(10+i, 1, key); e != api.OK || !same(l, []api.Answer{{Req: 10 + i, Node: 1, Code: api.AnTimeout}}) {
			t.Errorf("%v, %v", l, e)
		}
		if _, e := call(10+i, 0, key); e != api.ErrState {
			t.Error(e)
		}
	}
}

// 27.1: messages in flight, picked, lost and there twice: as many as there are, one fewer and more.
func TestMessagesInFlight(t *testing.T) {
	begin := func() (*world, [][]byte) {
		w := newWorld(t, "in flight", 4)
		w.ticks(0, 10)
		w.step(api.Choice{Kind: api.ChSync})
		var l [][]byte
		for _, m := range w.c.InFlight() {
			l = append(l, append([]byte{byte(m.To)}, m.Bytes...))
		}
		if w.c.Flight() != 3 {
			t.Fatal(w.c.Flight())
		}
		return w, l
	}
	for kind, lengths := range map[int][]int{api.ChPick: {2, 2, 2, 3, 3, 3}, api.ChDrop: {2, 2, 2, 3, 3, 3}, api.ChCopy: {4, 4, 4, 3, 3, 3}} {
		for i, want := range lengths {
			w, was := begin()
			at := i
			if i == 5 {
				at = math.MaxInt
			}
			if l := w.step(api.Choice{Kind: kind, N: at}); len(l) != 0 || w.c.Flight() != want {
				t.Errorf("kind %d of %d: %v, %d in flight", kind, at, l, w.c.Flight())
			}
			left := was
			switch {
			case kind == api.ChCopy && i < 3:
				left = append(slices.Clone(was), was[i])
			case i < 3:
				left = slices.Delete(slices.Clone(was), i, i+1)
			}
			for k, m := range w.c.InFlight() {
				if !slices.Equal(append([]byte{byte(m.To)}, m.Bytes...), left[k]) {
					t.Errorf("kind %d of %d: message %d is another one", kind, at, k)
				}
			}
			for k := 1; k < 4; k++ {
				if heard := w.views[k].Epoch == 1; heard != (kind == api.ChPick && i+1 == k) {
					t.Errorf("kind %d of %d: node %d: %+v", kind, at, k, w.views[k])
				}
			}
		}
	}
}

// A message to a node that is not up is lost, and does nothing when it is up again.
func TestMessagesToANodeThatIsNotUp(t *testing.T) {
	w := newWorld(t, "not up", 3)
	w.ticks(0, 10)
	w.step(api.Choice{Kind: api.ChSync})
	w.step(api.Choice{Kind: api.ChCrash, Node: 1})
	for range 2 {
		w.step(api.Choice{Kind: api.ChPick})
	}
	w.step(api.Choice{Kind: api.ChStart, Node: 1})
	w.step(api.Choice{Kind: api.ChSync, Node: 1})
	w.step(api.Choice{Kind: api.ChSync, Node: 2})
	if w.c.Flight() != 1 || w.views[1].Epoch != 0 || w.views[2].Epoch != 1 {
		t.Errorf("%d in flight, %+v", w.c.Flight(), w.views)
	}
}

// A net that is full: what is sent then is lost, and no copy is there.
func TestANetThatIsFull(t *testing.T) {
	w := newWorld(t, "full", 3)
	w.ticks(2, 16)
	w.step(api.Choice{Kind: api.ChSync, Node: 2}) // two messages
	for w.c.Flight() < net.MaxFlight-1 {
		w.step(api.Choice{Kind: api.ChCopy})
	}
	w.ticks(2, 16)
	w.step(api.Choice{Kind: api.ChSync, Node: 2}) // two more, of which there is room for one
	was := stateOf(w.c, 3)
	if len(was.flight) != net.MaxFlight || was.flight[net.MaxFlight-1].To != 0 {
		t.Fatalf("%d in flight", len(was.flight))
	}
	for i := range net.MaxFlight + 1 {
		w.step(api.Choice{Kind: api.ChCopy, N: i})
	}
	wantState(t, "full", w.c, was)
	w.step(api.Choice{Kind: api.ChDrop, N: 7})
	w.step(api.Choice{Kind: api.ChCopy, N: 9})
	if w.c.Flight() != net.MaxFlight {
		t.Errorf("%d in flight", w.c.Flight())
	}
	w.seen = nil
	w.goesOn(true)
}

// ruled is a cluster of which node 0 is primary, all of it synced and delivered.
func ruled(t *testing.T, n int) *world {
	t.Helper()
	w := newWorld(t, fmt.Sprintf("%d nodes", n), n)
	w.ticks(0, 10)
	w.quiet()
	if v := w.views[0]; v != (replica.View{Up: true, Role: replica.Primary, Epoch: 1, Last: 1, Synced: 1, Commit: 1}) {
		t.Fatalf("%+v", v)
	}
	return w
}

// quiet has all be synced and delivered, until nothing is in flight any more: the answers.
func (w *world) quiet() []api.Answer {
	w.t.Helper()
	var l []api.Answer
	for range 6 {
		for i := range w.n {
			l = append(l, w.step(api.Choice{Kind: api.ChSync, Node: i})...)
		}
		for w.c.Flight() > 0 {
			l = append(l, w.step(api.Choice{Kind: api.ChPick})...)
		}
	}
	return l
}

// A crash with calls that wait: all that were made on it and not answered, in their order, and no others.
func TestACrashAnswersWhatWaits(t *testing.T) {
	w := ruled(t, 3)
	for i, op := range []api.Op{{Kind: api.OpPut, Key: "a", Value: "x"}, {Kind: api.OpGet, Key: "a"}, {Kind: api.OpDel, Key: "b"}, {Kind: api.OpGet, Key: ""}, {Kind: api.OpScan}, {Kind: api.OpPut, Key: "c"}} {
		w.step(api.Choice{Kind: api.ChCall, Call: api.Call{Req: 100 - i, Op: op}}) // the one of Req 97 is answered at once, so is 96
	}
	w.step(api.Choice{Kind: api.ChCall, Call: api.Call{Req: 200, Node: 1, Op: api.Op{Kind: api.OpGet, Key: "a"}}})
	w.step(api.Choice{Kind: api.ChWork, N: 2}) // the delete has its result, and waits for its commit
	if w.counts[api.AnMalformed] != 1 || w.counts[api.AnOK] != 1 || w.counts[api.AnNotReady] != 1 {
		t.Fatal(w.counts)
	}
	want := []api.Answer{{Req: 100, Code: api.AnTimeout}, {Req: 99, Code: api.AnTimeout}, {Req: 98, Code: api.AnTimeout}, {Req: 95, Code: api.AnTimeout}}
	if l := w.step(api.Choice{Kind: api.ChCrash, N: 1, M: 9}); !same(l, want) {
		t.Errorf("%v", l)
	}
	for _, kind := range []int{api.ChCrash, api.ChTick, api.ChWork, api.ChSync, api.ChStart, api.ChStart, api.ChCrash} { // it is not up, then up
		if l := w.step(api.Choice{Kind: kind}); len(l) != 0 {
			t.Errorf("kind %d: %v", kind, l)
		}
	}
	w.goesOn(true)
	w.check()
}

// A crash keeps so many of the writes that wait, all where there are fewer, and so many bytes of the next one.
func TestWhatACrashKeeps(t *testing.T) {
	seen := map[string]int{}
	for keep := range 8 {
		for _, torn := range []int{0, 1, 30, 200, api.PageSize} {
			w := newWorld(t, "keep", 1)
			w.ticks(0, 10)
			w.step(api.Choice{Kind: api.ChSync})
			node, _ := replica.New(0, 1)
			for range 10 {
				node.Tick()
			}
			node.Sync()
			for i := range 2 {
				call := api.Call{Req: i + 1, Op: api.Op{Kind: api.OpPut, Key: "a", Value: "12345678901234567890"}}
				w.call(0, call.Op)
				w.step(api.Choice{Kind: api.ChWork})
				w.step(api.Choice{Kind: api.ChWork})
				node.Call(call)
				node.Work(0)
				node.Work(0)
			}
			waits := node.Waits()
			node.Crash(min(keep, waits), torn)
			node.Start()
			w.step(api.Choice{Kind: api.ChCrash, N: keep, M: torn})
			w.step(api.Choice{Kind: api.ChStart})
			if w.views[0] != node.View() || !slices.Equal(w.c.Log(0), node.Log()) {
				t.Errorf("%d of %d, %d bytes: %+v, not %+v", keep, waits, torn, w.views[0], node.View())
			}
			seen[fmt.Sprint(len(node.Log()), keep < waits, keep > waits)]++
		}
	}
	if len(seen) < 5 {
		t.Errorf("%v", seen)
	}
}

// A start of a node that is up changes nothing.
func TestAStartOfOneThatIsUp(t *testing.T) {
	w := ruled(t, 3)
	w.call(0, api.Op{Kind: api.OpPut, Key: "a", Value: "x"})
	w.step(api.Choice{Kind: api.ChWork})
	was := stateOf(w.c, 3)
	for i := range 3 {
		if l := w.step(api.Choice{Kind: api.ChStart, Node: i}); len(l) != 0 {
			t.Error(l)
		}
	}
	wantState(t, "started", w.c, was)
	w.ticks(0, 1)
	if l := w.quiet(); !same(l, []api.Answer{{Req: 1, Code: api.AnOK}}) {
		t.Errorf("%v", l)
	}
}

// H is what a node has committed that is up, and stays when none is.
func TestHStays(t *testing.T) {
	w := ruled(t, 3)
	w.call(0, api.Op{Kind: api.OpPut, Key: "a", Value: "x"})
	w.step(api.Choice{Kind: api.ChWork})
	w.ticks(0, 1)
	if len(w.c.H()) != 0 {
		t.Error(w.c.H())
	}
	w.quiet()
	want := []api.Record{{LSN: 3, Epoch: 1, Kind: api.ReCommit, Other: 1, Req: 1, Key: "a", Value: "x"}}
	for i := range 3 {
		if !slices.Equal(w.c.H(), want) {
			t.Errorf("%v", w.c.H())
		}
		w.step(api.Choice{Kind: api.ChCrash, Node: i})
	}
	for i := range 3 {
		w.step(api.Choice{Kind: api.ChStart, Node: i})
		if !slices.Equal(w.c.H(), want) {
			t.Errorf("%v", w.c.H())
		}
	}
}
