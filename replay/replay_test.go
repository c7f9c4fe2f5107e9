package replay_test

import (
	"fmt"
	"math"
	"math/rand"
	"slices"
	"strings"
	"testing"

	"lattice/api"
	"lattice/blink"
	"lattice/fold"
	"lattice/page"
	"lattice/record"
	"lattice/redo"
	"lattice/replay"
	"lattice/steps"
)

func same(a, b api.Node) bool {
	return a.Level == b.Level && a.LSN == b.LSN && a.Right == b.Right && a.High == b.High &&
		slices.Equal(a.Keys, b.Keys) && slices.Equal(a.Vals, b.Vals) && slices.Equal(a.Kids, b.Kids)
}

func sameSlots(a, b []redo.Slot) bool {
	return slices.EqualFunc(a, b, func(x, y redo.Slot) bool { return x.Page == y.Page && same(x.Node, y.Node) })
}

// leaf is a leaf of keys; the value of each is v and the key.
func leaf(lsn int, keys ...string) api.Node {
	n := api.Node{LSN: lsn, Keys: keys}
	for _, k := range keys {
		n.Vals = append(n.Vals, "v"+k)
	}
	return n
}

// leaves are pages from 1 on, each an empty leaf.
func leaves(n int) []redo.Slot {
	var l []redo.Slot
	for i := range n {
		l = append(l, redo.Slot{Page: i + 1})
	}
	return l
}

func put(p int, k string) api.Record {
	return api.Record{Kind: api.RePut, Page: p, Key: k, Value: "v" + k}
}

func del(p int, k string) api.Record { return api.Record{Kind: api.ReDel, Page: p, Key: k} }

func fresh(p int, n api.Node) api.Record {
	n.LSN = 0
	b, e := page.Encode(n)
	if e != api.OK {
		panic(fmt.Sprint(n, e))
	}
	return api.Record{Kind: api.ReNew, Page: p, Value: string(b)}
}

func cut(p int, k string, other int) api.Record {
	return api.Record{Kind: api.ReCut, Page: p, Key: k, Other: other}
}

func post(p int, k string, other int) api.Record {
	return api.Record{Kind: api.RePost, Page: p, Key: k, Other: other}
}

func noop() api.Record { return api.Record{Kind: api.ReNoop} }

func commit(k string) api.Record {
	return api.Record{Kind: api.ReCommit, Other: 1, Req: 9, Key: k, Value: "v" + k}
}

func isOfNoPage(x api.Record) bool { return x.Kind == api.ReNoop || x.Kind == api.ReCommit }

// at is a record of an LSN.
func at(lsn int, x api.Record) api.Record {
	x.LSN = lsn
	return x
}

// behind are records whose LSNs follow one another behind last.
func behind(last int, rs ...api.Record) []api.Record {
	l := slices.Clone(rs)
	for i := range l {
		l[i].LSN = last + 1 + i
	}
	return l
}

// begun is a new replay.
func begun(t *testing.T, l []redo.Slot, last, workers int) *replay.Replay {
	t.Helper()
	r, e := replay.New(l, last, workers)
	if r == nil || e != api.OK {
		t.Fatalf("New of %d pages, %d, %d: %v, %v", len(l), last, workers, r, e)
	}
	return r
}

// feed feeds records, all of which are taken.
func feed(t *testing.T, r *replay.Replay, rs ...api.Record) {
	t.Helper()
	for _, x := range rs {
		if e := r.Feed(x); e != api.OK {
			t.Fatalf("Feed(%v): %v", x, e)
		}
	}
}

func wantFeed(t *testing.T, r *replay.Replay, x api.Record, want api.Errno) {
	t.Helper()
	if e := r.Feed(x); e != want {
		t.Errorf("Feed(%v): %v, not %v", x, e, want)
	}
}

func wantWork(t *testing.T, r *replay.Replay, i int, want bool, wantE api.Errno) {
	t.Helper()
	if ok, e := r.Work(i); ok != want || e != wantE {
		t.Errorf("Work(%d): %v, %v, not %v, %v", i, ok, e, want, wantE)
	}
}

// wantAt tells whether a replay is fed and done up to LSNs, and which point is consistent (-1: none).
func wantAt(t *testing.T, r *replay.Replay, fed, done, point int) {
	t.Helper()
	if n := r.Fed(); n != fed {
		t.Errorf("Fed: %d, not %d", n, fed)
	}
	if n := r.Done(); n != done {
		t.Errorf("Done: %d, not %d", n, done)
	}
	wantOK := point >= 0
	if n, ok := r.Point(); ok != wantOK || n != max(point, 0) {
		t.Errorf("Point: %d, %v, not %d, %v", n, ok, max(point, 0), wantOK)
	}
}

// wantWaits tells how many wait for each worker, from 0 on.
func wantWaits(t *testing.T, r *replay.Replay, want ...int) {
	t.Helper()
	for i, n := range want {
		if got := r.Waits(i); got != n {
			t.Errorf("Waits(%d): %d, not %d", i, got, n)
		}
	}
	for _, i := range []int{math.MinInt, -1, len(want), len(want) + 1, math.MaxInt} {
		if got := r.Waits(i); got != 0 {
			t.Errorf("Waits(%d) of %d workers: %d", i, len(want), got)
		}
	}
}

func wantPages(t *testing.T, r *replay.Replay, want []redo.Slot) {
	t.Helper()
	if got := r.Pages(); !sameSlots(got, want) {
		t.Errorf("Pages: %v, not %v", got, want)
	}
}

// 17.1: New.

func TestNewLooksAtLastAndWorkers(t *testing.T) {
	lasts := map[int]bool{math.MinInt: false, -1: false, 0: true, 1: true, 7: true, api.MaxLSN - 1: true, api.MaxLSN: true, api.MaxLSN + 1: false, math.MaxInt: false}
	counts := map[int]bool{math.MinInt: false, -1: false, 0: false, 1: true, 2: true, 7: true, 8: true, 9: false, 64: false, math.MaxInt: false}
	notRising := []redo.Slot{{Page: 2}, {Page: 1}}
	for last, lastIsRight := range lasts {
		for workers, workersAreRight := range counts {
			for _, l := range [][]redo.Slot{nil, {}, leaves(3)} {
				r, e := replay.New(l, last, workers)
				if right := lastIsRight && workersAreRight; (r != nil) != right || (e == api.OK) != right || !right && e != api.ErrArg {
					t.Errorf("New(%v, %d, %d): %v, %v", l, last, workers, r, e)
				}
				if r != nil {
					wantAt(t, r, last, last, last)
					wantWaits(t, r, make([]int, workers)...)
					wantPages(t, r, l)
				}
			}
			want := api.ErrArg // ahead of what is wrong of the pages, as the chapter has it
			if lastIsRight && workersAreRight {
				want = api.ErrNode
			}
			if r, e := replay.New(notRising, last, workers); r != nil || e != want {
				t.Errorf("New of pages that do not rise, %d, %d: %v, %v, not %v", last, workers, r, e, want)
			}
		}
	}
}

func TestNewLooksAtThePages(t *testing.T) {
	const most = api.MaxPages
	for _, pages := range [][]int{nil, {}, {1}, {2}, {most}, {1, 2, 3}, {1, 9, most}, {0}, {-1}, {math.MinInt}, {most + 1}, {math.MaxInt}, {1, 1}, {2, 1}, {1, 3, 2}, {1, 2, 2}, {0, 1}, {1, most + 1}, {1, 0}} {
		var l []redo.Slot
		for _, p := range pages {
			l = append(l, redo.Slot{Page: p, Node: leaf(3, "a")})
		}
		wantNewAsRedo(t, l)
	}
	for _, n := range []api.Node{
		{}, leaf(9, "a"), leaf(api.MaxLSN), {Level: 1, Kids: []int{7}}, {Level: 20, Kids: []int{most}}, {Right: most, High: "z"},
		{Level: -1}, {Level: 21, Kids: []int{1}}, {LSN: -1}, {LSN: api.MaxLSN + 1}, {Right: -1}, {Right: most + 1}, {High: strings.Repeat("k", 17)}, leaf(0, "b", "a"), leaf(0, "a", "a"), leaf(0, ""),
		{Keys: []string{"a"}}, {Vals: []string{"a"}}, {Kids: []int{1}}, {Level: 1}, {Level: 1, Kids: []int{0}}, {Keys: []string{"a"}, Vals: []string{strings.Repeat("v", 33)}},
	} {
		wantNewAsRedo(t, []redo.Slot{{Page: 1, Node: n}})
		wantNewAsRedo(t, []redo.Slot{{Page: 1}, {Page: 2, Node: n}, {Page: 3}})
		wantNewAsRedo(t, []redo.Slot{{Page: 7}, {Page: most, Node: n}})
	}
}

// wantNewAsRedo tells whether New takes pages just if redo.Replay does, and has them.
func wantNewAsRedo(t *testing.T, l []redo.Slot) {
	t.Helper()
	want, wantE := redo.Replay(l, nil)
	for _, last := range []int{0, 3, api.MaxLSN} {
		r, e := replay.New(l, last, 3)
		if (r != nil) != (wantE == api.OK) || e != wantE {
			t.Errorf("New(%v): %v, %v, not %v", l, r, e, wantE)
			return
		}
		wantPages(t, r, want)
	}
}

// 17.1: Feed and Fed.

// wrongRecords are records of an LSN that are not right, of each kind and of none.
func wrongRecords(lsn int) []api.Record {
	whole := fresh(1, api.Node{})
	l := []api.Record{
		{}, {Kind: -1}, {Kind: 8}, {Kind: math.MaxInt}, {Kind: api.ReNoop, Page: 1}, {Kind: api.ReNoop, Key: "a"}, {Kind: api.ReNoop, Epoch: -1}, {Kind: api.ReNoop, Epoch: api.MaxLSN + 1},
		put(0, "a"), put(-1, "a"), put(api.MaxPages+1, "a"), put(1, ""), put(1, strings.Repeat("k", 17)), {Kind: api.RePut, Page: 1, Key: "a", Value: strings.Repeat("v", 33)}, {Kind: api.RePut, Page: 1, Key: "a", Req: 1},
		del(0, "a"), del(1, ""), {Kind: api.ReDel, Page: 1, Key: "a", Value: "x"}, {Kind: api.ReNew, Page: 1}, {Kind: api.ReNew, Page: 1, Value: whole.Value[1:]}, {Kind: api.ReNew, Value: whole.Value},
		cut(1, "a", 0), cut(0, "a", 1), cut(1, "", 2), post(1, "a", api.MaxPages+1), post(math.MinInt, "a", 1),
		{Kind: api.ReCommit, Other: 1, Key: "a"}, {Kind: api.ReCommit, Req: 1, Key: "a"}, {Kind: api.ReCommit, Other: 3, Req: 1, Key: "a"}, {Kind: api.ReCommit, Other: 2, Req: 1, Key: "a", Value: "x"}, {Kind: api.ReCommit, Other: 1, Req: 1}, {Kind: api.ReCommit, Other: 1, Req: 1, Key: "a", Page: 1},
	}
	for i := range l {
		l[i].LSN = lsn
	}
	return l
}

// rightRecords are one of each kind, of an LSN.
func rightRecords(lsn int) []api.Record {
	l := []api.Record{noop(), put(1, "a"), del(1, "a"), fresh(1, api.Node{}), cut(1, "a", 2), post(1, "a", 2), commit("a"), {Kind: api.ReCommit, Epoch: 3, Other: 2, Req: api.MaxReq, Key: "b"}}
	for i := range l {
		l[i].LSN = lsn
	}
	return l
}

func TestFeedRefusesWrongRecords(t *testing.T) {
	for _, last := range []int{0, 7, api.MaxLSN - 1, api.MaxLSN} {
		r := begun(t, leaves(2), last, 2)
		for _, lsn := range []int{last + 1, last, last + 2, 1} { // also where there is a gap
			for _, x := range wrongRecords(lsn) {
				if record.Check(x) != api.ErrRecord {
					t.Fatalf("%v is right", x)
				}
				wantFeed(t, r, x, api.ErrRecord)
			}
		}
		for _, lsn := range []int{math.MinInt, -1, 0, api.MaxLSN + 1, math.MaxInt} {
			for _, x := range rightRecords(lsn) {
				wantFeed(t, r, x, api.ErrRecord)
			}
		}
		wantAt(t, r, last, last, last)
		wantWaits(t, r, 0, 0)
		wantPages(t, r, leaves(2))
	}
}

func TestFeedTakesTheNextOneAlone(t *testing.T) {
	for _, last := range []int{0, 1, 7, api.MaxLSN - 2, api.MaxLSN - 1, api.MaxLSN} {
		for kind := range rightRecords(1) {
			r := begun(t, leaves(2), last, 2)
			for _, lsn := range []int{1, 2, last - 1, last, last + 2, last + 3, api.MaxLSN - 1, api.MaxLSN} {
				if lsn >= 1 && lsn <= api.MaxLSN && lsn != last+1 {
					wantFeed(t, r, rightRecords(lsn)[kind], api.ErrGap)
				}
			}
			wantAt(t, r, last, last, last)
			x := rightRecords(last + 1)[kind]
			if last == api.MaxLSN { // behind it there is no LSN
				wantFeed(t, r, x, api.ErrRecord)
				continue
			}
			wantFeed(t, r, x, api.OK)
			wantFeed(t, r, x, api.ErrGap) // it was fed
			if r.Fed() != last+1 {
				t.Errorf("Fed: %d, not %d", r.Fed(), last+1)
			}
			if waits := r.Waits(1); (waits == 1) == isOfNoPage(x) || r.Waits(0) != 0 {
				t.Errorf("%v: %d wait", x, waits)
			}
		}
	}
}

// A record of any epoch, also of one below that of the record ahead, is fed: the chapter asks for its LSN alone.
func TestFeedLooksAtNoEpoch(t *testing.T) {
	r := begun(t, leaves(1), 0, 1)
	for i, epoch := range []int{3, api.MaxLSN, 0, 2} {
		wantFeed(t, r, api.Record{LSN: i + 1, Epoch: epoch, Kind: api.ReNoop}, api.OK)
	}
	wantAt(t, r, 4, 4, 4)
}

// 17.2: Work, Waits, Pages.

func TestRecordsWaitForTheirWorkers(t *testing.T) {
	const most = api.MaxPages
	for workers := 1; workers <= 8; workers++ {
		var l []redo.Slot
		var rs []api.Record
		waits := make([]int, workers)
		for _, p := range []int{1, 2, 3, 4, 5, 6, 7, 8, 9, 10, 15, 16, 17, 63, 64, most - 1, most} {
			l = append(l, redo.Slot{Page: p})
			for i := range p % 3 {
				rs = append(rs, put(p, string(rune('a'+i))))
				waits[p%workers]++
			}
			rs = append(rs, noop(), commit("a"))
		}
		r := begun(t, l, 0, workers)
		feed(t, r, behind(0, rs...)...)
		wantWaits(t, r, waits...)
		wantPages(t, r, l)
		for _, i := range []int{math.MinInt, -1, workers, workers + 1, 8, math.MaxInt} {
			wantWork(t, r, i, false, api.ErrNone)
		}
		for i := range workers {
			for waits[i] > 0 {
				wantWork(t, r, i, true, api.OK)
				waits[i]--
				wantWaits(t, r, waits...)
			}
			wantWork(t, r, i, false, api.OK)
			wantWork(t, r, i, false, api.OK)
		}
		all, _ := redo.Replay(l, behind(0, rs...))
		wantPages(t, r, all)
		wantAt(t, r, len(rs), len(rs), len(rs))
	}
}

func TestEachKindIsDone(t *testing.T) {
	l := []redo.Slot{{Page: 1, Node: leaf(3, "a", "b", "c")}, {Page: 2, Node: api.Node{Level: 1, LSN: 2, Keys: []string{"m"}, Kids: []int{7, 8}}}, {Page: 9, Node: leaf(4, "x")}}
	for _, x := range []api.Record{put(1, "d"), put(1, "a"), del(1, "b"), del(1, "z"), cut(1, "c", 9), post(2, "q", 3), post(2, "m", 8), cut(2, "m", 5), fresh(1, leaf(0, "n")), fresh(5, leaf(0, "n")), fresh(api.MaxPages, api.Node{})} {
		for _, workers := range []int{1, 2, 8} {
			r := begun(t, l, 4, workers)
			feed(t, r, at(5, x))
			wantPages(t, r, l)
			wantWork(t, r, x.Page%workers, true, api.OK)
			want, _ := redo.Replay(l, []api.Record{at(5, x)})
			wantPages(t, r, want)
			wantWaits(t, r, make([]int, workers)...)
		}
	}
}

// A record that its page has already changes nothing, and is done.
func TestWhatThePageHasAlready(t *testing.T) {
	l := []redo.Slot{{Page: 1, Node: leaf(6, "a")}, {Page: 2, Node: leaf(5, "b")}}
	r := begun(t, l, 4, 2)
	feed(t, r, behind(4, put(1, "x"), del(2, "b"), fresh(1, leaf(0, "n")), put(1, "q"), noop())...)
	wantWork(t, r, 0, true, api.OK) // LSN 6 of page 2, whose LSN is 5
	wantAt(t, r, 9, 4, -1)
	wantWork(t, r, 1, true, api.OK) // 5 of page 1, whose LSN is 6
	wantAt(t, r, 9, 6, -1)
	wantPages(t, r, []redo.Slot{{Page: 1, Node: leaf(6, "a")}, {Page: 2, Node: leaf(6)}})
	wantWork(t, r, 1, true, api.OK)
	wantWork(t, r, 1, true, api.OK)
	wantAt(t, r, 9, 9, 9)
	wantPages(t, r, []redo.Slot{{Page: 1, Node: leaf(8, "n", "q")}, {Page: 2, Node: leaf(6)}})
}

func TestAPageThatIsDoneNothingToCountsAsDone(t *testing.T) {
	r := begun(t, []redo.Slot{{Page: 1, Node: leaf(9, "a")}}, 0, 1)
	feed(t, r, behind(0, put(1, "x"), put(1, "y"))...)
	wantAt(t, r, 2, 0, 0)
	wantWork(t, r, 0, true, api.OK)
	wantAt(t, r, 2, 1, -1)
	wantWork(t, r, 0, true, api.OK)
	wantAt(t, r, 2, 2, -1)
	wantPages(t, r, []redo.Slot{{Page: 1, Node: leaf(9, "a")}})
}

func TestARecordThatCannotBeDoneStays(t *testing.T) {
	bound := api.Node{High: "m", Right: 3}
	tree := api.Node{Level: 1, Keys: []string{"m"}, Kids: []int{7, 8}}
	for _, c := range []struct {
		name string
		x    api.Record
		want api.Errno
	}{
		{"a page that is not there", put(7, "a"), api.ErrNone}, {"delete of a page that is not there", del(9, "a"), api.ErrNone},
		{"cut of a page that is not there", cut(5, "a", 1), api.ErrNone}, {"post of a page that is not there", post(5, "a", 1), api.ErrNone},
		{"beyond the bound", put(1, "z"), api.ErrRecord}, {"at the bound", del(1, "m"), api.ErrRecord}, {"put into an inner node", put(3, "a"), api.ErrRecord},
		{"post into a leaf", post(1, "a", 5), api.ErrRecord}, {"cut by no key", cut(3, "n", 5), api.ErrRecord}, {"another kid", post(3, "m", 5), api.ErrRecord},
	} {
		t.Run(c.name, func(t *testing.T) {
			l := []redo.Slot{{Page: 1, Node: bound}, {Page: 2}, {Page: 3, Node: tree}}
			r := begun(t, l, 0, 2)
			// Those behind it wait, too, also of another page, and also what would bring the page.
			feed(t, r, behind(0, put(2, "a"), noop(), c.x, fresh(c.x.Page, leaf(0, "n")), put(1, "b"), put(2, "b"), commit("a"))...)
			wantWaits(t, r, 2, 3)
			for range 3 {
				wantWork(t, r, 1, false, c.want)
				wantWaits(t, r, 2, 3)
				wantAt(t, r, 7, 0, 0)
				wantPages(t, r, l)
			}
			wantWork(t, r, 0, true, api.OK)
			wantAt(t, r, 7, 2, 2)
			wantWork(t, r, 1, false, c.want)
			wantAt(t, r, 7, 2, 2)
			wantWork(t, r, 0, true, api.OK)
			wantAt(t, r, 7, 2, -1)
			wantWork(t, r, 0, false, api.OK)
			wantWork(t, r, 1, false, c.want)
			feed(t, r, at(8, noop()))
			wantAt(t, r, 8, 2, -1)
			wantWaits(t, r, 0, 3)
			l[1].Node = leaf(6, "a", "b")
			wantPages(t, r, l)
		})
	}
}

// redo.Apply tells a leaf that its new bound makes too long for a page as it is; so it is told here, and refused from then on.
func TestALeafThatItsBoundMakesTooLong(t *testing.T) {
	n := api.Node{}
	for i := range 7 {
		n.Keys, n.Vals = append(n.Keys, string([]byte{'a' + byte(i)})), append(n.Vals, strings.Repeat("v", 28))
	}
	n.Vals[6] = strings.Repeat("v", 32)
	n.Vals[5] = strings.Repeat("v", api.PageSize-page.Size(n)+28)
	if page.Size(n) != api.PageSize || page.Check(n) != api.OK {
		t.Fatal(page.Size(n), page.Check(n))
	}
	l := []redo.Slot{{Page: 1, Node: n}, {Page: 2}}
	r := begun(t, l, 0, 2)
	rs := behind(0, cut(1, "z", 2), put(2, "a"), noop(), put(1, "a"))
	feed(t, r, rs...)
	wantWork(t, r, 1, true, api.OK)
	wantWork(t, r, 0, true, api.OK)
	wantAt(t, r, 4, 3, 3)
	want, e := redo.Replay(l, rs[:3])
	if e != api.OK || page.Check(want[0].Node) == api.OK {
		t.Fatal(want, e)
	}
	wantPages(t, r, want)
	wantWork(t, r, 1, false, api.ErrNode)
	wantWaits(t, r, 0, 1)
	wantAt(t, r, 4, 3, 3)
	wantPages(t, r, want)
}

func TestNewPagesStandInTheirOrder(t *testing.T) {
	r := begun(t, []redo.Slot{{Page: 5, Node: leaf(0, "e")}}, 0, 8)
	var rs []api.Record
	for _, p := range []int{9, 1, api.MaxPages, 7, 5, 2} {
		rs = append(rs, fresh(p, leaf(0, "n")), put(p, "p"))
	}
	feed(t, r, behind(0, rs...)...)
	for i := range 8 {
		for r.Waits(7-i) > 0 {
			wantWork(t, r, 7-i, true, api.OK)
		}
	}
	want, e := redo.Replay([]redo.Slot{{Page: 5, Node: leaf(0, "e")}}, behind(0, rs...))
	if e != api.OK || len(want) != 6 {
		t.Fatal(want, e)
	}
	wantPages(t, r, want)
}

// 17.3: Done and Point.

func TestPointsAsTheyCome(t *testing.T) {
	r := begun(t, leaves(3), 4, 3)
	wantAt(t, r, 4, 4, 4)
	feed(t, r, at(5, noop())) // none waits: it is done, and a point
	wantAt(t, r, 5, 5, 5)
	feed(t, r, at(6, commit("a")))
	wantAt(t, r, 6, 6, 6)
	feed(t, r, at(7, put(1, "a"))) // waits
	wantAt(t, r, 7, 6, 6)
	feed(t, r, at(8, commit("a"))) // while another one waits
	wantAt(t, r, 8, 6, 6)
	feed(t, r, at(9, put(2, "b")))
	wantAt(t, r, 9, 6, 6)
	feed(t, r, at(10, noop()))
	wantAt(t, r, 10, 6, 6)
	feed(t, r, at(11, put(3, "c")))
	wantAt(t, r, 11, 6, 6)
	wantWork(t, r, 2, true, api.OK) // 9, ahead of 7: behind each point so far
	wantAt(t, r, 11, 6, -1)
	wantWork(t, r, 1, true, api.OK) // 7
	wantAt(t, r, 11, 10, 10)
	feed(t, r, at(12, commit("c")))
	wantAt(t, r, 12, 10, 10)
	wantWork(t, r, 0, true, api.OK) // 11
	wantAt(t, r, 12, 12, 12)
	feed(t, r, at(13, put(1, "d")))
	wantAt(t, r, 13, 12, 12)
	wantWork(t, r, 1, true, api.OK) // 13, behind which no point stands
	wantAt(t, r, 13, 13, -1)
	feed(t, r, at(14, noop()))
	wantAt(t, r, 14, 14, 14)
}

// Between two points one that was consistent is so no longer when a record behind it is done, and no lesser one comes back.
func TestAPointThatIsPassed(t *testing.T) {
	r := begun(t, leaves(1), 0, 1)
	feed(t, r, behind(0, put(1, "a"), noop(), put(1, "b"), put(1, "c"), commit("c"))...)
	for _, x := range []struct{ done, point int }{{2, 2}, {3, -1}, {5, 5}} {
		wantWork(t, r, 0, true, api.OK)
		wantAt(t, r, 5, x.done, x.point)
	}
}

func TestPointsAtTheLastLSNs(t *testing.T) {
	r := begun(t, leaves(2), api.MaxLSN-3, 2)
	feed(t, r, behind(api.MaxLSN-3, put(1, "a"), put(2, "b"), commit("b"))...)
	wantAt(t, r, api.MaxLSN, api.MaxLSN-3, api.MaxLSN-3)
	wantFeed(t, r, at(api.MaxLSN+1, noop()), api.ErrRecord)
	wantFeed(t, r, at(api.MaxLSN, noop()), api.ErrGap)
	wantWork(t, r, 0, true, api.OK)
	wantAt(t, r, api.MaxLSN, api.MaxLSN-3, -1)
	wantWork(t, r, 1, true, api.OK)
	wantAt(t, r, api.MaxLSN, api.MaxLSN, api.MaxLSN)
}

func TestANilReplay(t *testing.T) {
	for _, r := range []*replay.Replay{nil, {}} { // one that New did not make has no more
		for _, lsn := range []int{1, 2, 7, api.MaxLSN} {
			for _, x := range rightRecords(lsn) {
				wantFeed(t, r, x, api.ErrGap)
			}
			for _, x := range wrongRecords(lsn) {
				wantFeed(t, r, x, api.ErrRecord)
			}
		}
		wantFeed(t, r, noop(), api.ErrRecord)
		for _, i := range []int{math.MinInt, -1, 0, 1, 7, 8, math.MaxInt} {
			wantWork(t, r, i, false, api.ErrNone)
		}
		wantAt(t, r, 0, 0, -1)
		wantWaits(t, r)
		wantPages(t, r, nil)
	}
}

// 17.1 to 17.5, by the chapter's text.

// model is a replay in the chapter's words: all records that were fed, and which of them are done.
type model struct {
	began         []redo.Slot
	last, workers int
	pages         []redo.Slot
	fed           []api.Record
	done          []bool
}

func (m *model) waiting(i int) []int {
	var l []int
	for j, x := range m.fed {
		if !m.done[j] && x.Page%m.workers == i {
			l = append(l, j)
		}
	}
	return l
}

func (m *model) feed(x api.Record) api.Errno {
	switch {
	case record.Check(x) != api.OK:
		return api.ErrRecord
	case x.LSN != m.last+len(m.fed)+1:
		return api.ErrGap
	}
	m.fed, m.done = append(m.fed, x), append(m.done, isOfNoPage(x))
	return api.OK
}

func (m *model) work(i int) (bool, api.Errno) {
	if i < 0 || i >= m.workers {
		return false, api.ErrNone
	}
	l := m.waiting(i)
	if len(l) == 0 {
		return false, api.OK
	}
	x := m.fed[l[0]]
	at := slices.IndexFunc(m.pages, func(s redo.Slot) bool { return s.Page == x.Page })
	var was api.Node
	if at >= 0 {
		was = m.pages[at].Node
	}
	n, _, e := redo.Apply(was, at >= 0, x)
	if e != api.OK {
		return false, e
	}
	if at >= 0 {
		m.pages[at].Node = n
	} else {
		m.pages = append(m.pages, redo.Slot{Page: x.Page, Node: n})
		slices.SortFunc(m.pages, func(a, b redo.Slot) int { return a.Page - b.Page })
	}
	m.done[l[0]] = true
	return true, api.OK
}

// doneUpTo tells whether all records that were fed with an LSN up to one are done.
func (m *model) doneUpTo(lsn int) bool {
	for j, x := range m.fed {
		if x.LSN <= lsn && !m.done[j] {
			return false
		}
	}
	return true
}

func (m *model) consistent(lsn int) bool {
	if lsn != m.last && !isOfNoPage(m.fed[lsn-m.last-1]) || !m.doneUpTo(lsn) {
		return false
	}
	for j, x := range m.fed {
		if x.LSN > lsn && m.done[j] && !isOfNoPage(x) {
			return false
		}
	}
	return true
}

// point is the greatest consistent LSN; -1, if there is none.
func (m *model) point() int {
	for lsn := m.last + len(m.fed); lsn >= m.last; lsn-- {
		if m.consistent(lsn) {
			return lsn
		}
	}
	return -1
}

func (m *model) doneLSN() int {
	lsn := m.last + len(m.fed)
	for !m.doneUpTo(lsn) {
		lsn--
	}
	return lsn
}

// pair is a replay beside its model.
type pair struct {
	r *replay.Replay
	m *model
}

func begunPair(t *testing.T, l []redo.Slot, last, workers int) pair {
	t.Helper()
	return pair{begun(t, l, last, workers), &model{began: l, last: last, workers: workers, pages: slices.Clone(l)}}
}

func (p pair) feed(t *testing.T, x api.Record) {
	t.Helper()
	wantFeed(t, p.r, x, p.m.feed(x))
}

func (p pair) work(t *testing.T, i int) {
	t.Helper()
	ok, e := p.m.work(i)
	wantWork(t, p.r, i, ok, e)
}

// held holds a replay against its model, and its pages, where 17.4 and 17.5 speak of them, against those of the replay in order.
func (p pair) held(t *testing.T) {
	t.Helper()
	point := p.m.point()
	wantAt(t, p.r, p.m.last+len(p.m.fed), p.m.doneLSN(), point)
	waits, all := make([]int, p.m.workers), 0
	for i := range waits {
		waits[i] = len(p.m.waiting(i))
		all += waits[i]
	}
	wantWaits(t, p.r, waits...)
	wantPages(t, p.r, p.m.pages)
	if all == 0 {
		p.wantReplayed(t, len(p.m.fed))
	}
	if point >= 0 {
		p.wantReplayed(t, point-p.m.last)
	}
}

// wantReplayed tells whether the pages are those of the replay in order of the first n records.
func (p pair) wantReplayed(t *testing.T, n int) {
	t.Helper()
	want, e := redo.Replay(p.m.began, p.m.fed[:n])
	if got := p.r.Pages(); e != api.OK || !sameSlots(got, want) {
		t.Errorf("the pages behind %d records are %v, not %v, %v", n, got, want, e)
	}
}

// turns has all turns be gone through of feeding a row of records, of which the first some are fed already, and of working: of each, what is done next: -1: a record is fed; else a worker. Turns in which nothing happens are not told.
func turns(workers int, rs []api.Record, fed int, try func(turn []int)) {
	wait := func(waits []int, i, more int) []int {
		waits = slices.Clone(waits)
		waits[i] += more
		return waits
	}
	with := func(waits []int, x api.Record) []int {
		if isOfNoPage(x) {
			return waits
		}
		return wait(waits, x.Page%workers, 1)
	}
	var walk func(turn []int, fed int, waits []int)
	walk = func(turn []int, fed int, waits []int) {
		over := true
		if fed < len(rs) {
			over = false
			walk(append(slices.Clone(turn), -1), fed+1, with(waits, rs[fed]))
		}
		for i := range workers {
			if waits[i] > 0 {
				over = false
				walk(append(slices.Clone(turn), i), fed, wait(waits, i, -1))
			}
		}
		if over {
			try(turn)
		}
	}
	waits := make([]int, workers)
	for _, x := range rs[:fed] {
		waits = with(waits, x)
	}
	walk(nil, fed, waits)
}

// rows are all rows of n of some records.
func rows(of []api.Record, n int) [][]api.Record {
	if n == 0 {
		return [][]api.Record{nil}
	}
	var l [][]api.Record
	for _, row := range rows(of, n-1) {
		for _, x := range of {
			l = append(l, append(slices.Clone(row), x))
		}
	}
	return l
}

func TestShortRowsInAllTurns(t *testing.T) {
	of := []api.Record{put(1, "a"), put(2, "b"), fresh(3, leaf(0, "c")), del(1, "a"), noop()}
	for n := range 5 {
		for _, rs := range rows(of, n) {
			for workers := 1; workers <= 3; workers++ {
				rs := behind(7, rs...)
				turns(workers, rs, 0, func(turn []int) {
					p := begunPair(t, leaves(2), 7, workers)
					next := 0
					for _, i := range turn {
						if i >= 0 {
							p.work(t, i)
						} else {
							p.feed(t, rs[next])
							next++
						}
						p.held(t)
					}
				})
			}
		}
		if t.Failed() {
			return
		}
	}
}

// A longer row, all of which is fed first, by all workers in all turns.
func TestALongerRowInAllTurns(t *testing.T) {
	rs := behind(0, put(1, "a"), put(2, "b"), commit("b"), put(3, "c"), put(1, "d"), commit("d"), fresh(4, leaf(0, "n")), post(5, "m", 4), cut(1, "c", 4), noop(), put(4, "p"))
	l := append(leaves(3), redo.Slot{Page: 5, Node: api.Node{Level: 1, Kids: []int{1}}})
	for _, workers := range []int{1, 2, 3, 5} {
		turns(workers, rs, len(rs), func(turn []int) {
			p := begunPair(t, l, 0, workers)
			for _, x := range rs {
				p.feed(t, x)
			}
			for _, i := range turn {
				p.work(t, i)
				p.held(t)
			}
		})
		if t.Failed() {
			return
		}
	}
}

// anyRecord is a record that may be wrong, and that its page may refuse.
func anyRecord(r *rand.Rand, lsn int) api.Record {
	k := string(rune('a' + r.Intn(5)))
	p, other := 1+r.Intn(6), 1+r.Intn(6)
	node := leaf(0, k)
	if r.Intn(3) == 0 {
		node = api.Node{Level: 1, Keys: []string{k}, Kids: []int{p, other}}
	}
	l := []api.Record{noop(), commit(k), put(p, k), put(p, k), put(p, k), del(p, k), fresh(p, node), fresh(p, leaf(0)), post(p, k, other), cut(p, k, other), put(0, k), {}}
	weights := len(l)
	if r.Intn(4) > 0 {
		weights = 8
	}
	x := at(lsn, l[r.Intn(weights)])
	if r.Intn(12) == 0 {
		x.LSN += r.Intn(5) - 2
	}
	return x
}

func TestAnyRecordsInAnyTurns(t *testing.T) {
	r := rand.New(rand.NewSource(17))
	stuck, passed := 0, 0
	for range 3000 {
		workers := 1 + r.Intn(8)
		last := []int{0, 0, 5, api.MaxLSN - 9}[r.Intn(4)]
		var l []redo.Slot
		for p := range 6 {
			if r.Intn(2) == 0 {
				l = append(l, redo.Slot{Page: p + 1, Node: leaf(r.Intn(4))})
			}
		}
		p := begunPair(t, l, last, workers)
		for range 1 + r.Intn(40) {
			if r.Intn(2) == 0 {
				p.feed(t, anyRecord(r, p.m.last+len(p.m.fed)+1))
			} else {
				p.work(t, r.Intn(workers+2)-1)
			}
			p.held(t)
		}
		for moved := true; moved; { // until nothing waits, or what waits can't be done
			moved = false
			for _, i := range r.Perm(workers) {
				ok, e := p.m.work(i)
				wantWork(t, p.r, i, ok, e)
				moved = moved || ok
			}
			p.held(t)
		}
		if _, e := redo.Replay(l, p.m.fed); e != api.OK {
			stuck++
		} else {
			passed++
			for i := range workers {
				if p.r.Waits(i) != 0 {
					t.Errorf("%d wait for %d, though all can be done", p.r.Waits(i), i)
				}
			}
		}
		if t.Failed() {
			t.Fatalf("%d workers, last %d, %v: %v", workers, last, l, p.m.fed)
		}
	}
	if stuck < 300 || passed < 300 {
		t.Errorf("%d stuck, %d passed: one kind was hardly tried", stuck, passed)
	}
}

// 17.4 and 17.5 of a tree's log.

// operated are the records of a tree on which operations were done, one behind the other, each with its commit behind it.
func operated(t *testing.T, r *rand.Rand, ops, keys int) []api.Record {
	t.Helper()
	tree := blink.New()
	s := steps.New(tree)
	var log []api.Record
	for req := range ops {
		k := fmt.Sprintf("k%0*d", 1+r.Intn(8), r.Intn(keys))
		op, did := api.Op{Kind: api.OpPut, Key: k, Value: strings.Repeat("v", r.Intn(33))}, 1
		if r.Intn(4) == 0 {
			op, did = api.Op{Kind: api.OpDel, Key: k}, 2
		}
		_, rs, e := s.Do(op)
		if e != api.OK {
			t.Fatal(op, e)
		}
		c, e := tree.Say(api.Record{Kind: api.ReCommit, Other: did, Req: req + 1, Key: k, Value: op.Value})
		if e != api.OK {
			t.Fatal(op, e)
		}
		log = append(append(log, rs...), c)
	}
	return log
}

// wantMap tells whether pages at a consistent point are a tree, and its entries those of the map behind the history up to there.
func wantMap(t *testing.T, l []redo.Slot, log []api.Record, point int) {
	t.Helper()
	got, e := blink.Entries(l)
	want, _ := fold.Behind(log[:point], len(fold.History(log[:point])))
	if e != api.OK || !slices.Equal(got, want) {
		t.Errorf("at %d: %v, %v, not %v", point, got, e, want)
	}
}

func TestATreesLog(t *testing.T) {
	r := rand.New(rand.NewSource(175))
	root := leaves(1)
	for range 12 {
		log := operated(t, r, 120, 60)
		for workers := 1; workers <= 8; workers++ {
			p := begun(t, root, 0, workers)
			bias := r.Intn(5) // how seldom workers work, so that few or many wait
			met := 0
			for p.Done() < len(log) {
				if p.Fed() < len(log) && r.Intn(5) >= bias {
					feed(t, p, log[p.Fed()])
				} else if _, e := p.Work(r.Intn(workers)); e != api.OK {
					t.Fatal(e)
				}
				point, ok := p.Point()
				if ok && point != met {
					met = point
					wantMap(t, p.Pages(), log, point)
				}
			}
			want, e := redo.Replay(root, log)
			if e != api.OK || p.Fed() != len(log) {
				t.Fatal(e, p.Fed())
			}
			wantPages(t, p, want)
			wantAt(t, p, len(log), len(log), len(log))
		}
	}
}

// Two logs' beginnings, each replayed by other workers, and the one begun where the other stands.
func TestOneReplayGoesOnWhereAnotherStands(t *testing.T) {
	r := rand.New(rand.NewSource(3))
	log := operated(t, r, 150, 50)
	var points []int
	for _, x := range log {
		if isOfNoPage(x) {
			points = append(points, x.LSN)
		}
	}
	for range 30 {
		point := points[r.Intn(len(points))]
		first := begun(t, leaves(1), 0, 1+r.Intn(8))
		feed(t, first, log[:point]...)
		for first.Done() < point {
			first.Work(r.Intn(8))
		}
		wantAt(t, first, point, point, point)
		second := begun(t, first.Pages(), point, 1+r.Intn(8))
		wantAt(t, second, point, point, point)
		feed(t, second, log[point:]...)
		for second.Done() < len(log) {
			second.Work(r.Intn(8))
		}
		want, _ := redo.Replay(leaves(1), log)
		wantPages(t, second, want)
	}
}

func TestLongQueues(t *testing.T) {
	const n = 40000
	r := begun(t, leaves(2), 0, 2)
	lsn := 0
	next := func() api.Record {
		lsn++
		return at(lsn, put(1+lsn%2, string([]byte{'a' + byte(lsn%7)})))
	}
	for range n {
		feed(t, r, next())
	}
	for range n { // the queues stay as long as they are
		wantWork(t, r, r.Done()%2, true, api.OK)
		feed(t, r, next())
	}
	wantWaits(t, r, n/2, n/2)
	wantAt(t, r, 2*n, n, -1)
	for i := range n {
		wantWork(t, r, i/(n/2), true, api.OK)
	}
	wantWaits(t, r, 0, 0)
	wantAt(t, r, 2*n, 2*n, -1)
	feed(t, r, at(2*n+1, noop()))
	wantAt(t, r, 2*n+1, 2*n+1, 2*n+1)
	var log []api.Record
	for lsn = 0; lsn < 2*n; {
		log = append(log, next())
	}
	want, _ := redo.Replay(leaves(2), log)
	wantPages(t, r, want)
}

func TestAllPages(t *testing.T) {
	r := begun(t, nil, 0, 7)
	for p := range api.MaxPages {
		feed(t, r, at(p+1, fresh(api.MaxPages-p, leaf(0, "a"))))
	}
	for i := range 7 {
		for r.Waits(i) > 0 {
			wantWork(t, r, i, true, api.OK)
		}
	}
	l := r.Pages()
	for i, s := range l {
		if s.Page != i+1 || !same(s.Node, leaf(api.MaxPages-i, "a")) {
			t.Fatalf("page %d: %v", i+1, s)
		}
	}
	if len(l) != api.MaxPages {
		t.Errorf("%d pages", len(l))
	}
}

// R3, R4 and R6

// scribble writes over all that pages have, spare room too.
func scribble(l []redo.Slot) {
	for i := range l {
		for _, s := range [][]string{l[i].Node.Keys, l[i].Node.Vals} {
			s = s[:cap(s)]
			for j := range s {
				s[j] = "scribble"
			}
		}
		kids := l[i].Node.Kids[:cap(l[i].Node.Kids)]
		for j := range kids {
			kids[j] = -7
		}
	}
	l = l[:cap(l)]
	for i := range l {
		l[i] = redo.Slot{Page: -7}
	}
}

// shared are pages with spare room in each list.
func shared() []redo.Slot {
	roomy := func(l ...string) []string { return append(make([]string, 0, 9), l...) }
	return append(make([]redo.Slot, 0, 9),
		redo.Slot{Page: 1, Node: api.Node{Keys: roomy("a", "b"), Vals: roomy("1", "2")}},
		redo.Slot{Page: 2, Node: api.Node{Level: 1, Keys: roomy("m"), Kids: append(make([]int, 0, 9), 3, 4)}},
		redo.Slot{Page: 3, Node: api.Node{Keys: roomy(), Vals: roomy()}})
}

func TestNothingIsShared(t *testing.T) {
	l := shared()
	r := begun(t, l, 0, 2)
	feed(t, r, behind(0, put(1, "c"), post(2, "q", 5), del(1, "a"), fresh(4, leaf(0, "n", "o")), noop())...)
	if !sameSlots(l, shared()) {
		t.Error("the pages that were handed in were changed")
	}
	scribble(l)
	wantPages(t, r, shared())
	done := []api.Record{}
	for _, i := range []int{-1, 1, 0, 1, 0} {
		if i >= 0 {
			done = append(done, at([]int{2, 1, 4, 3}[len(done)], []api.Record{post(2, "q", 5), put(1, "c"), fresh(4, leaf(0, "n", "o")), del(1, "a")}[len(done)]))
			wantWork(t, r, done[len(done)-1].Page%2, true, api.OK)
		}
		want, e := redo.Replay(shared(), done)
		if e != api.OK {
			t.Fatal(e)
		}
		one, two := r.Pages(), r.Pages()
		scribble(one)
		if !sameSlots(two, want) {
			t.Errorf("two answers share: %v, not %v", two, want)
		}
		scribble(two)
		wantPages(t, r, want)
	}
	wantAt(t, r, 5, 5, 5)
}

// What is fed behind, and done, does not reach pages that were told ahead.
func TestPagesThatWereToldStay(t *testing.T) {
	r := begun(t, shared(), 0, 1)
	feed(t, r, behind(0, put(1, "a"), del(1, "b"), post(2, "q", 9), fresh(3, leaf(0, "z")), cut(1, "b", 7))...)
	var told, copies [][]redo.Slot
	for n := range 6 {
		want, _ := redo.Replay(shared(), behind(0, put(1, "a"), del(1, "b"), post(2, "q", 9), fresh(3, leaf(0, "z")), cut(1, "b", 7))[:n])
		told, copies = append(told, r.Pages()), append(copies, want)
		r.Work(0)
	}
	for i := range told {
		if !sameSlots(told[i], copies[i]) {
			t.Errorf("behind %d: %v, not %v", i, told[i], copies[i])
		}
	}
}

// What answers tell changes nothing, and two replays share nothing.
func TestTheSameAgain(t *testing.T) {
	l := shared()
	a, b := begun(t, l, 0, 2), begun(t, l, 0, 2)
	rs := behind(0, put(1, "c"), noop(), put(3, "d"), put(2, "x"), commit("x"))
	feed(t, a, rs...)
	wantAt(t, b, 0, 0, 0)
	wantWork(t, a, 1, true, api.OK)
	wantPages(t, b, shared())
	for range 3 {
		wantAt(t, a, 5, 2, 2)
		wantWaits(t, a, 1, 1)
		wantWork(t, a, 0, false, api.ErrRecord)
		wantWork(t, a, 2, false, api.ErrNone)
		wantFeed(t, a, at(5, noop()), api.ErrGap)
		wantFeed(t, a, at(6, put(0, "a")), api.ErrRecord)
	}
	feed(t, b, rs...)
	wantWork(t, b, 1, true, api.OK)
	if !sameSlots(a.Pages(), b.Pages()) {
		t.Errorf("%v, not %v", a.Pages(), b.Pages())
	}
}

func TestEmptyListsAreNil(t *testing.T) {
	for _, l := range [][]redo.Slot{nil, {}} {
		r := begun(t, l, 0, 1)
		wantPages(t, r, nil)
		feed(t, r, behind(0, fresh(1, leaf(0)), put(1, "a"))...)
		wantWork(t, r, 0, true, api.OK)
		wantWork(t, r, 0, true, api.OK)
		wantPages(t, r, []redo.Slot{{Page: 1, Node: leaf(2, "a")}})
	}
	for _, n := range []api.Node{{}, {Keys: []string{}, Vals: []string{}, Kids: []int{}}} {
		r := begun(t, []redo.Slot{{Page: 1, Node: n}}, 0, 1)
		feed(t, r, at(1, put(1, "a")))
		wantWork(t, r, 0, true, api.OK)
		wantPages(t, r, []redo.Slot{{Page: 1, Node: leaf(1, "a")}})
	}
}

// The chapter's example.
func TestExamples(t *testing.T) {
	r := begun(t, leaves(2), 0, 2)
	feed(t, r, behind(0, put(1, "a"), put(2, "b"), commit("b"))...)
	wantWork(t, r, 0, true, api.OK)
	wantPages(t, r, []redo.Slot{{Page: 1}, {Page: 2, Node: leaf(2, "b")}})
	wantAt(t, r, 3, 0, -1)
	wantWork(t, r, 1, true, api.OK)
	wantPages(t, r, []redo.Slot{{Page: 1, Node: leaf(1, "a")}, {Page: 2, Node: leaf(2, "b")}})
	wantAt(t, r, 3, 3, 3)
}
