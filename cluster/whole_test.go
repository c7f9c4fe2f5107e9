package cluster_test

import (
	"fmt"
	"math/rand"
	"slices"
	"testing"

	"lattice/api"
	"lattice/blink"
	"lattice/fold"
	"lattice/page"
	"lattice/redo"
	"lattice/replay"
	"lattice/replica"
	"lattice/restart"
	"lattice/wal"
)

// The examples of the whole, and the chapter's own.

var (
	put     = api.Op{Kind: api.OpPut, Key: "a", Value: "x"}
	get     = api.Op{Kind: api.OpGet, Key: "a"}
	isThere = api.Result{Found: true, Value: "x"}
)

func (w *world) wantAnswers(got []api.Answer, want ...api.Answer) {
	w.t.Helper()
	if !same(got, want) {
		w.t.Fatalf("%v, not %v", got, want)
	}
}

// putOn is a put on node 0, one step, and a tick.
func (w *world) putOn() {
	w.t.Helper()
	w.wantAnswers(w.call(0, put))
	w.wantAnswers(w.step(api.Choice{Kind: api.ChWork}))
	w.ticks(0, 1)
}

func TestTheChaptersExample(t *testing.T) {
	w := newWorld(t, "one", 1)
	w.ticks(0, 10)
	if w.views[0].Role != replica.Primary {
		t.Fatalf("%+v", w.views[0])
	}
	w.step(api.Choice{Kind: api.ChSync})
	w.wantAnswers(w.call(0, put))
	for range 3 {
		w.wantAnswers(w.step(api.Choice{Kind: api.ChWork}))
	}
	w.wantAnswers(w.step(api.Choice{Kind: api.ChSync}), api.Answer{Req: 1, Code: api.AnOK})
	if i, ok := fold.Place(w.c.H(), 1); i != 0 || !ok {
		t.Error(w.c.H())
	}
	w.check()
}

// 1, 2 and 3.
func TestAPutOnAPrimary(t *testing.T) {
	w := ruled(t, 3)
	w.wantAnswers(w.call(1, get), api.Answer{Req: 1, Node: 1, Code: api.AnNotReady})
	w.putOn()
	w.wantAnswers(w.quiet(), api.Answer{Req: 2, Code: api.AnOK})
	if i, ok := fold.Place(w.c.H(), 2); i != 0 || !ok || len(w.c.H()) != 1 {
		t.Error(w.c.H())
	}
	w.wantAnswers(w.call(1, put), api.Answer{Req: 3, Node: 1, Code: api.AnNotPrimary})
	w.ticks(0, 1)
	w.quiet()
	w.wantAnswers(w.call(1, get), api.Answer{Req: 4, Node: 1, Code: api.AnOK}) // of the consistent point ahead of the put
	w.step(api.Choice{Kind: api.ChWork, Node: 1, N: 1})
	w.wantAnswers(w.call(1, get), api.Answer{Req: 5, Node: 1, Code: api.AnOK, Result: isThere})
	w.check()
}

// 4.
func TestACrashAheadOfTheSync(t *testing.T) {
	w := ruled(t, 3)
	w.putOn()
	w.wantAnswers(w.step(api.Choice{Kind: api.ChCrash}), api.Answer{Req: 1, Code: api.AnTimeout})
	w.step(api.Choice{Kind: api.ChStart})
	w.goesOn(true)
	if _, ok := fold.Place(w.c.H(), 1); ok || len(w.c.H()) != 1 { // the put by which it goes on
		t.Error(w.c.H())
	}
	w.check()
}

// 5.
func TestACrashBehindTheSync(t *testing.T) {
	w := ruled(t, 3)
	w.putOn()
	w.wantAnswers(w.quiet(), api.Answer{Req: 1, Code: api.AnOK})
	w.step(api.Choice{Kind: api.ChCrash})
	w.ticks(1, 13)
	w.quiet()
	if v := w.views[1]; v.Role != replica.Primary || v.Epoch != 2 {
		t.Fatalf("%+v", v)
	}
	w.call(1, get)
	w.wantAnswers(w.step(api.Choice{Kind: api.ChWork, Node: 1}), api.Answer{Req: 2, Node: 1, Code: api.AnOK, Result: isThere})
	w.check()
}

// 6.
func TestARecordThatNoMajorityHas(t *testing.T) {
	w := ruled(t, 3)
	w.putOn()
	w.step(api.Choice{Kind: api.ChSync})
	for w.c.Flight() > 0 {
		w.step(api.Choice{Kind: api.ChDrop})
	}
	w.wantAnswers(w.step(api.Choice{Kind: api.ChCrash}), api.Answer{Req: 1, Code: api.AnTimeout})
	w.ticks(1, 13)
	w.quiet()
	w.step(api.Choice{Kind: api.ChStart})
	if l := w.c.Log(0); len(l) != 3 || l[2].Req != 1 {
		t.Fatal(l)
	}
	for range 3 {
		w.ticks(1, 1)
		w.quiet()
	}
	want := []api.Record{{LSN: 1, Epoch: 1, Kind: api.ReNoop}, {LSN: 2, Epoch: 2, Kind: api.ReNoop}}
	for i := range 3 {
		if l := w.c.Log(i); !slices.Equal(l, want) {
			t.Errorf("node %d: %v", i, l)
		}
	}
	if len(w.c.H()) != 0 {
		t.Error(w.c.H())
	}
	w.check()
}

// 7.
func TestKeysThatAreNone(t *testing.T) {
	w := ruled(t, 3)
	for i := range 3 {
		for _, kind := range []int{api.OpPut, api.OpGet, api.OpDel} {
			w.wantAnswers(w.call(i, api.Op{Kind: kind, Key: "12345678901234567"}), api.Answer{Req: w.made, Node: i, Code: api.AnKeyTooLong})
			w.wantAnswers(w.call(i, api.Op{Kind: kind}), api.Answer{Req: w.made, Node: i, Code: api.AnMalformed})
		}
	}
	w.check()
}

// busy is a cluster that has a tree of several levels, all of its nodes up to date.
func busy(t *testing.T, n int) *world {
	t.Helper()
	w := ruled(t, n)
	r := rand.New(rand.NewSource(int64(n)))
	for range 300 {
		w.call(0, anyOp(r, 80))
		for k := range 8 {
			w.step(api.Choice{Kind: api.ChWork, N: k})
		}
		if r.Intn(4) == 0 {
			w.ticks(0, 1)
			w.quiet()
		}
	}
	for range 120 {
		w.round(true)
	}
	if len(w.h) < 150 || w.views[0].Commit != w.views[0].Last {
		t.Fatalf("%d writes, %+v", len(w.h), w.views[0])
	}
	return w
}

// root are the pages with which each log begins.
func root() []redo.Slot { return []redo.Slot{{Page: 1}} }

// P4: all logs are one, and its replay, by any workers, comes to one tree, that of the map behind H.
func TestOneLogAndOneTree(t *testing.T) {
	for _, n := range []int{1, 3, 4} {
		w := busy(t, n)
		log := w.c.Log(0)
		for i := range n {
			if !slices.Equal(w.c.Log(i), log) {
				t.Errorf("node %d of %d has another log", i, n)
			}
		}
		want, e := redo.Replay(root(), log)
		if e != api.OK || len(want) < 10 || blink.Check(want) != api.OK {
			t.Fatalf("%d pages, %v", len(want), e)
		}
		entries, _ := blink.Entries(want)
		if m, _ := fold.Behind(w.h, len(w.h)); len(m) < 20 || !slices.Equal(entries, m) {
			t.Errorf("%v, not %v", entries, m)
		}
		r := rand.New(rand.NewSource(int64(n)))
		for workers := 1; workers <= 8; workers++ {
			x, _ := replay.New(root(), 0, workers)
			for _, rec := range log {
				x.Feed(rec)
				x.Work(r.Intn(workers))
			}
			for x.Done() < len(log) {
				x.Work(r.Intn(workers))
			}
			if !same(x.Pages(), want) {
				t.Errorf("%d workers come to another tree", workers)
			}
		}
	}
}

// 8 and P5: a page of which one byte is torn; the log is replayed from its beginning.
func TestAPageThatIsTorn(t *testing.T) {
	w := busy(t, 3)
	log := wal.New()
	for _, r := range w.c.Log(1) {
		log.Append(r)
	}
	pages, _ := redo.Replay(root(), w.c.Log(1))
	last, _ := log.Last()
	var images []restart.Image
	for _, s := range pages {
		b, e := page.Encode(s.Node)
		if e != api.OK {
			t.Fatal(e)
		}
		images = append(images, restart.Image{Page: s.Page, Bytes: b})
	}
	for i := range images {
		torn := slices.Clone(images)
		torn[i].Bytes = slices.Clone(torn[i].Bytes)
		torn[i].Bytes[i%api.PageSize] ^= 1
		if got, n, e := restart.Back(torn, log.Bytes(), last+1); !same(got, pages) || n != last || e != api.OK {
			t.Fatalf("page %d: %d, %v", images[i].Page, n, e)
		}
	}
}

// 9 and P3: two puts that part one leaf, step by step in any turn.
func TestTwoPutsThatPartOneLeaf(t *testing.T) {
	parted := 0
	for turns := range 1 << 8 {
		w := newWorld(t, fmt.Sprintf("turns %b", turns), 1)
		w.ticks(0, 10)
		value := "12345678901234567890123456789012"
		for _, k := range []string{"b", "d", "f", "h", "j", "l"} { // the leaf has no room for a seventh
			w.call(0, api.Op{Kind: api.OpPut, Key: k, Value: value})
			for range 3 {
				w.step(api.Choice{Kind: api.ChWork})
			}
		}
		w.step(api.Choice{Kind: api.ChSync})
		w.call(0, api.Op{Kind: api.OpPut, Key: "c", Value: value})
		w.call(0, api.Op{Kind: api.OpPut, Key: "k", Value: value})
		for i := range 24 {
			w.step(api.Choice{Kind: api.ChWork, N: turns >> (i % 8) & 1})
			pages, e := redo.Replay(root(), w.c.Log(0))
			if e != api.OK || blink.Check(pages) != api.OK {
				t.Fatalf("turns %b: step %d: no tree", turns, i)
			}
			if i == 23 && len(pages) > 2 {
				parted++
			}
		}
		l := w.step(api.Choice{Kind: api.ChSync})
		if len(l) != 2 || l[0].Code != api.AnOK || l[1].Code != api.AnOK {
			t.Fatalf("turns %b: %v", turns, l)
		}
		for _, k := range []string{"c", "k"} {
			w.call(0, api.Op{Kind: api.OpGet, Key: k})
			var l []api.Answer
			for range 3 {
				l = append(l, w.step(api.Choice{Kind: api.ChWork})...)
			}
			w.wantAnswers(l, api.Answer{Req: w.made, Code: api.AnOK, Result: api.Result{Found: true, Value: value}})
		}
		w.check()
	}
	if parted != 1<<8 {
		t.Errorf("only %d were parted", parted)
	}
}

// 10.
func TestAnyBytesAsAMessage(t *testing.T) {
	r := rand.New(rand.NewSource(10))
	w := ruled(t, 3)
	w.putOn()
	was := stateOf(w.c, 3)
	for range 2000 {
		w.step(api.Choice{Kind: api.ChBytes, Node: r.Intn(3), Bytes: anyBytes(r)})
	}
	wantState(t, "behind them", w.c, was)
	w.wantAnswers(w.quiet(), api.Answer{Req: 1, Code: api.AnOK})
}
