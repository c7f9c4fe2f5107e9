package rewind_test

import (
	"fmt"
	"math"
	"math/rand"
	"slices"
	"strings"
	"testing"

	"lattice/api"
	"lattice/blink"
	"lattice/line"
	"lattice/page"
	"lattice/record"
	"lattice/redo"
	"lattice/rewind"
	"lattice/steps"
)

func same(a, b api.Node) bool {
	return a.Level == b.Level && a.LSN == b.LSN && a.Right == b.Right && a.High == b.High &&
		slices.Equal(a.Keys, b.Keys) && slices.Equal(a.Vals, b.Vals) && slices.Equal(a.Kids, b.Kids)
}

func sameSlots(a, b []redo.Slot) bool {
	return slices.EqualFunc(a, b, func(x, y redo.Slot) bool { return x.Page == y.Page && same(x.Node, y.Node) })
}

// leaf is a leaf of keys; the value of each is v and the key.
func leaf(lsn int, high string, right int, keys ...string) api.Node {
	n := api.Node{LSN: lsn, High: high, Right: right, Keys: keys}
	for _, k := range keys {
		n.Vals = append(n.Vals, "v"+k)
	}
	return n
}

// plain is a leaf that has no page to its right.
func plain(lsn int, keys ...string) api.Node { return leaf(lsn, "", 0, keys...) }

// inner is an inner node of level 1.
func inner(lsn int, kids []int, keys ...string) api.Node {
	return api.Node{Level: 1, LSN: lsn, Kids: kids, Keys: keys}
}

func slot(p int, n api.Node) redo.Slot { return redo.Slot{Page: p, Node: n} }

// slots are pages from 1 on.
func slots(nodes ...api.Node) []redo.Slot {
	var l []redo.Slot
	for i, n := range nodes {
		l = append(l, slot(i+1, n))
	}
	return l
}

func put(p int, k string) api.Record {
	return api.Record{Kind: api.RePut, Page: p, Key: k, Value: "v" + k}
}

func del(p int, k string) api.Record { return api.Record{Kind: api.ReDel, Page: p, Key: k} }

func fresh(p int, n api.Node) api.Record {
	n.LSN = 0
	b, e := page.Encode(n)
	if e != api.OK {
		panic(fmt.Sprint(n, e))
	}
	return api.Record{Kind: api.ReNew, Page: p, Value: string(b)}
}

func cutAt(p int, k string, other int) api.Record {
	return api.Record{Kind: api.ReCut, Page: p, Key: k, Other: other}
}

func post(p int, k string, other int) api.Record {
	return api.Record{Kind: api.RePost, Page: p, Key: k, Other: other}
}

func noop() api.Record { return api.Record{Kind: api.ReNoop} }

func commit(req int, k string) api.Record {
	return api.Record{Kind: api.ReCommit, Other: 1, Req: req, Key: k, Value: "v" + k}
}

func commitDel(req int, k string) api.Record {
	return api.Record{Kind: api.ReCommit, Other: 2, Req: req, Key: k}
}

// logOf are records as a log, numbered from 1 on.
func logOf(rs ...api.Record) []api.Record {
	log := slices.Clone(rs)
	for i := range log {
		log[i].LSN = i + 1
	}
	return log
}

// abc is a log of three puts on page 1.
func abc() []api.Record { return logOf(put(1, "a"), put(1, "b"), put(1, "c")) }

// noLogs are records whose LSNs are not 1, 2, 3 and so on.
func noLogs() map[string][]api.Record {
	with := func(lsns ...int) []api.Record {
		var l []api.Record
		for _, n := range lsns {
			l = append(l, api.Record{LSN: n, Kind: api.ReNoop})
		}
		return l
	}
	return map[string][]api.Record{
		"0": with(0), "0 1 2": with(0, 1, 2), "2": with(2), "2 3 4": with(2, 3, 4), "-1": with(-1), "a gap": with(1, 2, 4), "a gap at once": with(1, 3, 4), "one twice": with(1, 2, 2), "the first twice": with(1, 1, 2),
		"falling": with(3, 2, 1), "two changed": with(1, 3, 2), "the last is 0": with(1, 2, 0), "great": with(api.MaxLSN), "the least": with(math.MinInt), "the greatest": with(1, math.MaxInt),
	}
}

func wantPoint(t *testing.T, mine, theirs line.Line, want int, wantCut bool, wantE api.Errno) {
	t.Helper()
	if n, cut, e := rewind.Point(mine, theirs); n != want || cut != wantCut || e != wantE {
		t.Errorf("Point(%v, %v): %d, %v, %v, not %d, %v, %v", mine, theirs, n, cut, e, want, wantCut, wantE)
	}
}

func wantPages(t *testing.T, what string, l []redo.Slot, log []api.Record, cut int, want []redo.Slot) {
	t.Helper()
	if got, e := rewind.Pages(l, log, cut); !sameSlots(got, want) || e != api.OK {
		t.Errorf("%s: Pages(%v, %v, %d): %v, %v, not %v", what, l, log, cut, got, e, want)
	}
}

func wantError(t *testing.T, what string, l []redo.Slot, log []api.Record, cut int, want api.Errno) {
	t.Helper()
	if got, e := rewind.Pages(l, log, cut); len(got) != 0 || e != want {
		t.Errorf("%s: Pages(%v, %v, %d): %v, %v, not %v", what, l, log, cut, got, e, want)
	}
}

func wantLost(t *testing.T, log []api.Record, cut int, want []int, wantE api.Errno) {
	t.Helper()
	if got, e := rewind.Lost(log, cut); !slices.Equal(got, want) || e != wantE {
		t.Errorf("Lost(%v, %d): %v, %v, not %v, %v", log, cut, got, e, want, wantE)
	}
}

// 23.1

// lineOf is the timeline of a row of epochs, one an LSN.
func lineOf(epochs ...int) line.Line {
	l := line.Line{Last: len(epochs)}
	for i, epoch := range epochs {
		if i == 0 || epochs[i-1] != epoch {
			l.Marks = append(l.Marks, api.Mark{Epoch: epoch, LSN: i + 1})
		}
	}
	return l
}

// rows are all rows of up to so many epochs below a bound that never fall.
func rows(longest, bound int) [][]int {
	all := [][]int{nil}
	for i := 0; i < len(all); i++ {
		row := all[i]
		if len(row) == longest {
			continue
		}
		from := 0
		if len(row) > 0 {
			from = row[len(row)-1]
		}
		for epoch := from; epoch < bound; epoch++ {
			all = append(all, append(slices.Clone(row), epoch))
		}
	}
	return all
}

func TestPoint(t *testing.T) {
	count := map[bool]int{}
	for _, a := range rows(5, 3) {
		for _, b := range rows(5, 3) {
			n := 0
			for n < min(len(a), len(b)) && a[n] == b[n] {
				n++
			}
			wantPoint(t, lineOf(a...), lineOf(b...), n, len(a) > n, api.OK)
			count[len(a) > n]++
		}
	}
	if count[true] < 1000 || count[false] < 100 {
		t.Errorf("%v", count)
	}
}

func TestPointOfTimelinesThatPart(t *testing.T) {
	const most = api.MaxLSN
	whole := lineOf(1, 1, 2, 2, 4)
	wantPoint(t, whole, whole, 5, false, api.OK)
	wantPoint(t, lineOf(1, 1, 2), whole, 3, false, api.OK)
	wantPoint(t, whole, lineOf(1, 1, 2), 3, true, api.OK)
	wantPoint(t, line.Line{}, whole, 0, false, api.OK)
	wantPoint(t, whole, line.Line{}, 0, true, api.OK)
	wantPoint(t, line.Line{}, line.Line{Marks: []api.Mark{}}, 0, false, api.OK)
	wantPoint(t, lineOf(2, 2), lineOf(1, 1, 1), 0, true, api.OK)
	wantPoint(t, lineOf(1, 1, 3), lineOf(1, 1, 2, 3), 2, true, api.OK)
	wantPoint(t, lineOf(1, 1, 2, 3), lineOf(1, 1, 3), 2, true, api.OK)
	long := line.Line{Marks: []api.Mark{{Epoch: 0, LSN: 1}, {Epoch: most, LSN: most}}, Last: most}
	wantPoint(t, long, long, most, false, api.OK)
	wantPoint(t, long, line.Line{Marks: long.Marks[:1], Last: most}, most-1, true, api.OK)
	wantPoint(t, line.Line{Marks: long.Marks[:1], Last: most - 1}, long, most-1, false, api.OK)
}

func TestPointOfWrongTimelines(t *testing.T) {
	marks := func(l ...int) []api.Mark {
		var m []api.Mark
		for i := 0; i < len(l); i += 2 {
			m = append(m, api.Mark{Epoch: l[i], LSN: l[i+1]})
		}
		return m
	}
	wrong := []line.Line{
		{Last: -1}, {Last: 1}, {Marks: []api.Mark{}, Last: 3}, {Marks: marks(1, 1)}, {Marks: marks(1, 1), Last: -1}, {Marks: marks(1, 1), Last: api.MaxLSN + 1}, {Marks: marks(1, 0), Last: 3}, {Marks: marks(1, 2), Last: 3},
		{Marks: marks(1, 1, 2, 4), Last: 3}, {Marks: marks(1, 1, 1, 2), Last: 3}, {Marks: marks(2, 1, 1, 2), Last: 3}, {Marks: marks(1, 1, 2, 3, 3, 2), Last: 3}, {Marks: marks(1, 1, 2, 1), Last: 3}, {Marks: marks(-1, 1), Last: 3}, {Marks: marks(api.MaxLSN+1, 1), Last: 3},
	}
	for _, x := range wrong {
		for _, right := range []line.Line{{}, lineOf(1), lineOf(1, 1, 2), lineOf(3, 3, 3, 3)} {
			wantPoint(t, x, right, 0, false, api.ErrForm)
			wantPoint(t, right, x, 0, false, api.ErrForm)
		}
		for _, y := range wrong {
			wantPoint(t, x, y, 0, false, api.ErrForm)
		}
	}
}

// 23.2: its errors, in their order.

func TestRecordsThatAreNoLog(t *testing.T) {
	wrong := []redo.Slot{slot(2, plain(0)), slot(1, plain(0))}
	for what, log := range noLogs() {
		for _, cut := range []int{math.MinInt, -1, 0, 1, 2, len(log), len(log) + 1, math.MaxInt} {
			for _, l := range [][]redo.Slot{nil, slots(plain(0)), wrong, slots(inner(0, []int{2}))} {
				wantError(t, what, l, log, cut, api.ErrLog)
			}
			wantLost(t, log, cut, nil, api.ErrLog)
		}
	}
	// What is wrong with a record, but for its LSN, is told by the replay, and only if it comes to that.
	log := logOf(put(1, "a"), api.Record{Kind: 99, Epoch: -1}, noop())
	log[0].Epoch = 7 // epochs may fall
	wantPages(t, "a wrong record behind cut", nil, log, 1, slots(plain(1, "a")))
	wantError(t, "a wrong record at cut", nil, log, 2, api.ErrRecord)
	wantError(t, "a wrong record ahead of cut", nil, log, 3, api.ErrRecord)
	wantLost(t, log, 0, nil, api.OK)
}

func TestCutMustBeInTheLog(t *testing.T) {
	wrong := []redo.Slot{slot(2, plain(0)), slot(1, plain(0))}
	unfit := logOf(put(7, "a"), put(7, "b"), put(7, "c"))
	for _, cut := range []int{math.MinInt, -2, -1, 4, 5, api.MaxRecords, api.MaxLSN, api.MaxLSN + 1, math.MaxInt} {
		for _, l := range [][]redo.Slot{nil, slots(plain(0)), wrong, slots(inner(0, []int{2}))} {
			wantError(t, "abc", l, abc(), cut, api.ErrArg)
			wantError(t, "records that can't be replayed", l, unfit, cut, api.ErrArg)
		}
		wantLost(t, abc(), cut, nil, api.ErrArg)
	}
	for cut, keys := range [][]string{nil, {"a"}, {"a", "b"}, {"a", "b", "c"}} {
		wantPages(t, "abc", nil, abc(), cut, slots(plain(cut, keys...)))
		wantLost(t, abc(), cut, nil, api.OK)
	}
	for _, none := range [][]api.Record{nil, {}} {
		for _, cut := range []int{math.MinInt, -1, 1, math.MaxInt} {
			wantError(t, "no record", nil, none, cut, api.ErrArg)
			wantLost(t, none, cut, nil, api.ErrArg)
		}
		wantPages(t, "no record", nil, none, 0, slots(plain(0)))
		wantLost(t, none, 0, nil, api.OK)
	}
}

func TestErrorsInTheirOrder(t *testing.T) {
	wrong := slots(plain(0), api.Node{Level: -1})
	noTree := slots(inner(0, []int{2}))
	noReplay := logOf(noop(), put(7, "a"), noop())
	gap := []api.Record{{LSN: 1, Kind: api.ReNoop}, {LSN: 3, Kind: api.ReNoop}}
	wantError(t, "no log, and cut, and pages", wrong, gap, 9, api.ErrLog)
	wantError(t, "no log, behind cut", slots(plain(0)), gap, 1, api.ErrLog)
	wantError(t, "cut, and pages", wrong, noReplay, 4, api.ErrArg)
	wantError(t, "cut, and no tree", noTree, abc(), -1, api.ErrArg)
	wantError(t, "pages, and records", wrong, noReplay, 2, api.ErrNode)
	wantError(t, "pages, and no records", wrong, nil, 0, api.ErrNode)
	wantError(t, "records, and no tree", noTree, noReplay, 2, api.ErrNone)
	wantError(t, "no tree", noTree, noReplay, 1, api.ErrTree)
}

func TestPagesThatAreWrong(t *testing.T) {
	const most = api.MaxPages
	log := logOf(noop(), noop(), noop())
	for _, c := range []struct {
		pages []int
		right bool
	}{
		{nil, true}, {[]int{1}, true}, {[]int{2}, true}, {[]int{most}, true}, {[]int{1, 2, 3}, true}, {[]int{1, 7, most - 1, most}, true}, {[]int{3, 5}, true},
		{[]int{0}, false}, {[]int{-1}, false}, {[]int{math.MinInt}, false}, {[]int{most + 1}, false}, {[]int{math.MaxInt}, false}, {[]int{0, 1}, false}, {[]int{1, most + 1}, false},
		{[]int{1, 1}, false}, {[]int{2, 1}, false}, {[]int{2, 2}, false}, {[]int{1, 3, 2}, false}, {[]int{1, 2, 0}, false}, {[]int{most, 1}, false}, {[]int{3, 2}, false}, {[]int{-1, 1, 2}, false},
	} {
		var stay, gone []redo.Slot
		want := slots(plain(0))
		for _, p := range c.pages {
			stay = append(stay, slot(p, plain(0)))
			gone = append(gone, slot(p, plain(3)))
			if p > 1 {
				want = append(want, slot(p, plain(0)))
			}
		}
		if c.right {
			wantPages(t, "pages that stay", stay, log, 2, want)
		} else {
			wantError(t, "pages that stay", stay, log, 2, api.ErrNode)
			wantError(t, "pages that stay", stay, nil, 0, api.ErrNode)
		}
		wantPages(t, "pages that are let go", gone, log, 2, slots(plain(0)))
	}
}

func TestNodesThatAreWrong(t *testing.T) {
	log := logOf(noop(), noop(), noop())
	big := plain(2)
	for i := range 9 {
		big.Keys, big.Vals = append(big.Keys, fmt.Sprintf("k%015d", i)), append(big.Vals, strings.Repeat("x", 32))
	}
	for what, n := range map[string]api.Node{
		"a level": {LSN: 2, Level: 21}, "a page to the right": {LSN: 2, Right: -1}, "keys": plain(2, "b", "a"), "values": {LSN: 2, Keys: []string{"a"}}, "a High": leaf(2, strings.Repeat("h", 17), 3), "kids": {LSN: 2, Level: 1}, "its size": big,
	} {
		for _, p := range []int{1, 2, 4096} {
			wantError(t, what, []redo.Slot{slot(p, n)}, log, 2, api.ErrNode)
			wantError(t, what, []redo.Slot{slot(p, n)}, log, 3, api.ErrNode)
			wantPages(t, what+", let go", []redo.Slot{slot(p, n)}, log, 1, slots(plain(0)))
		}
	}
	for _, lsn := range []int{-1, math.MinInt} {
		wantError(t, "an LSN below 0", slots(plain(lsn)), log, 0, api.ErrNode)
		wantError(t, "an LSN below 0", slots(plain(0), plain(lsn)), log, 3, api.ErrNode)
	}
	for _, lsn := range []int{4, api.MaxLSN, api.MaxLSN + 1, math.MaxInt} {
		wantPages(t, "an LSN above all", slots(plain(lsn, "q")), log, 3, slots(plain(0)))
	}
}

func TestRecordsThatCannotBeReplayed(t *testing.T) {
	l := slots(plain(0), leaf(0, "m", 3), inner(0, []int{1}))
	for what, c := range map[string]struct {
		r    api.Record
		want api.Errno
	}{
		"a put on a page that is not there":    {put(7, "c"), api.ErrNone},
		"a delete on a page that is not there": {del(7, "c"), api.ErrNone},
		"a cut of a page that is not there":    {cutAt(7, "c", 1), api.ErrNone},
		"a post on a page that is not there":   {post(7, "c", 1), api.ErrNone},
		"a post on a leaf":                     {post(1, "c", 2), api.ErrRecord},
		"a put that belongs further right":     {put(2, "z"), api.ErrRecord},
		"a put on an inner page":               {put(3, "a"), api.ErrRecord},
		"a cut beyond the High":                {cutAt(2, "z", 1), api.ErrRecord},
		"a record of no kind":                  {api.Record{}, api.ErrRecord},
		"a put of no key":                      {put(1, ""), api.ErrRecord},
		"a commit that is not right":           {commit(0, "a"), api.ErrRecord},
		"a noop that is not right":             {api.Record{Kind: api.ReNoop, Page: 1}, api.ErrRecord},
	} {
		log := logOf(noop(), c.r, noop())
		wantPages(t, what+", behind cut", l, log, 1, l)
		wantError(t, what+", at cut", l, log, 2, c.want)
		wantError(t, what+", ahead of cut", l, log, 3, c.want)
		first := logOf(c.r, noop())
		wantPages(t, what+", behind cut 0", l, first, 0, l)
		wantError(t, what+", all from 1 on", l, first, 2, c.want)
	}
	// The first that tells an error tells it.
	wantError(t, "two", l, logOf(put(7, "c"), put(3, "a")), 2, api.ErrNone)
	wantError(t, "two", l, logOf(put(3, "a"), put(7, "c")), 2, api.ErrRecord)
}

func TestPagesThatAreNoTree(t *testing.T) {
	for what, l := range map[string][]redo.Slot{
		"a kid that is not there":    slots(inner(0, []int{2})),
		"a kid that is the root":     slots(inner(0, []int{1})),
		"a root with a page right":   slots(leaf(0, "m", 2), plain(0)),
		"a root with a High":         slots(leaf(0, "m", 0)),
		"a row that breaks off":      slots(inner(0, []int{2}), leaf(0, "m", 3)),
		"a row that goes round":      slots(inner(0, []int{2}), leaf(0, "m", 3), leaf(0, "r", 2)),
		"a key below its low end":    slots(inner(0, []int{2}), leaf(0, "m", 3), plain(0, "a")),
		"a kid with another low end": slots(inner(0, []int{2, 3}, "k"), leaf(0, "m", 3), plain(0)),
		"a kid of another level":     slots(inner(0, []int{2}), inner(0, []int{3}), plain(0)),
	} {
		wantError(t, what, l, nil, 0, api.ErrTree)
		wantError(t, what, l, logOf(noop(), commit(3, "a")), 2, api.ErrTree)
		log := logOf(noop(), fresh(1, plain(0)), put(1, "q"))
		wantError(t, what+", ahead of what mends it", l, log, 1, api.ErrTree)
		want := slices.Clone(l)
		want[0].Node = plain(3, "q")
		wantPages(t, what+", mended", l, log, 3, want)
	}
	kids := slots(inner(1, []int{2}), leaf(1, "m", 3), plain(3))
	wantError(t, "a kid that is let go", kids, logOf(noop(), noop(), noop()), 2, api.ErrTree)
	wantPages(t, "it stays", kids, logOf(noop(), noop(), noop()), 3, kids)
	wantPages(t, "the root is let go, the others say nothing", slots(inner(3, []int{2}), leaf(1, "m", 3), plain(1)), logOf(noop(), put(1, "x"), noop()), 2, slots(plain(2, "x"), leaf(1, "m", 3), plain(1)))
}

// 23.2: the pages.

func TestWhichPagesStay(t *testing.T) {
	log := logOf(noop(), noop(), noop(), noop(), noop())
	for cut := range len(log) + 1 {
		for _, lsn := range []int{0, 1, 2, 3, 4, 5, 6, api.MaxLSN} {
			var want []redo.Slot
			if lsn <= cut {
				want = slots(plain(lsn, "x"), plain(lsn, "y"))
			} else {
				want = slots(plain(0))
			}
			wantPages(t, fmt.Sprint("LSN ", lsn), slots(plain(lsn, "x"), plain(lsn, "y")), log, cut, want)
		}
		l, want := slots(plain(0)), slots(plain(0))
		for lsn := range 8 {
			l = append(l, slot(lsn+3, plain(lsn, "z")))
			if lsn <= cut {
				want = append(want, slot(lsn+3, plain(lsn, "z")))
			}
		}
		wantPages(t, "each LSN", l, log, cut, want)
		wantPages(t, "each LSN, and no root", l[1:], log, cut, want)
	}
}

func TestTheRoot(t *testing.T) {
	log := logOf(put(1, "a"), put(1, "b"), put(1, "c"))
	other := slot(3, plain(0, "q"))
	for _, c := range []struct {
		what string
		l    []redo.Slot
		want [4][]string // the root's keys, by cut
	}{
		{"missing", nil, [4][]string{nil, {"a"}, {"a", "b"}, {"a", "b", "c"}}},
		{"of LSN 0", slots(plain(0, "z")), [4][]string{{"z"}, {"a", "z"}, {"a", "b", "z"}, {"a", "b", "c", "z"}}},
		{"of LSN 1", slots(plain(1, "z")), [4][]string{nil, {"z"}, {"b", "z"}, {"b", "c", "z"}}},
		{"of LSN 2", slots(plain(2, "z")), [4][]string{nil, {"a"}, {"z"}, {"c", "z"}}},
		{"of LSN 3", slots(plain(3, "z")), [4][]string{nil, {"a"}, {"a", "b"}, {"z"}}},
		{"of LSN 4", slots(plain(4, "z")), [4][]string{nil, {"a"}, {"a", "b"}, {"a", "b", "c"}}},
	} {
		for cut, keys := range c.want {
			want := plain(cut, keys...)
			wantPages(t, c.what, c.l, log, cut, slots(want))
			wantPages(t, c.what+", with another page", append(slices.Clone(c.l), other), log, cut, []redo.Slot{slot(1, want), other})
			wantPages(t, c.what+", with one that is let go", append(slices.Clone(c.l), slot(2, plain(9))), log, cut, slots(want))
			wantPages(t, c.what+", behind one that is let go", append([]redo.Slot{slot(2, plain(9))}, c.l...), log, cut, slots(want))
		}
	}
	late := []redo.Slot{other, slot(1, plain(2, "z"))}
	wantError(t, "it stays, but is not the first", late, log, 2, api.ErrNode)
	wantPages(t, "it was not the first, but is let go", late, log, 1, []redo.Slot{slot(1, plain(1, "a")), other})
}

func TestAllIsReplayedFromTheBeginningOn(t *testing.T) {
	log := logOf(fresh(2, plain(0, "q")), put(1, "a"), put(2, "r"), commit(1, "r"), put(1, "b"), put(2, "s"))
	now := slots(plain(5, "a", "b"), plain(6, "q", "r", "s"))
	for cut, want := range [][]redo.Slot{
		slots(plain(0)), slots(plain(0), plain(1, "q")), slots(plain(2, "a"), plain(1, "q")), slots(plain(2, "a"), plain(3, "q", "r")),
		slots(plain(2, "a"), plain(3, "q", "r")), slots(plain(5, "a", "b"), plain(3, "q", "r")), now,
	} {
		wantPages(t, "as they are", now, log, cut, want)
		wantPages(t, "as they were", want, log, cut, want)
		wantPages(t, "none", nil, log, cut, want)
		wantPages(t, "the root alone", now[:1], log, cut, want)
		wantPages(t, "all but the root", now[1:], log, cut, want)
	}
}

func TestALongLog(t *testing.T) {
	rs := make([]api.Record, api.MaxRecords)
	for i := range rs {
		rs[i] = put(1, string(rune('a'+i%5)))
	}
	for p := 2; p <= api.MaxPages; p++ {
		rs[10*p] = fresh(p, plain(0, "n"))
	}
	log := logOf(rs...)
	now, e := redo.Replay(slots(plain(0)), log)
	if e != api.OK || len(now) != api.MaxPages {
		t.Fatal(len(now), e)
	}
	for _, cut := range []int{0, 1, 19, 20, api.MaxRecords / 2, 10 * api.MaxPages, api.MaxRecords - 1, api.MaxRecords} {
		want, e := redo.Replay(slots(plain(0)), log[:cut])
		if e != api.OK {
			t.Fatal(e)
		}
		if got, e := rewind.Pages(now, log, cut); !sameSlots(got, want) || e != api.OK {
			t.Errorf("cut %d: %d pages, %v", cut, len(got), e)
		}
	}
	more := append(log, api.Record{LSN: api.MaxRecords + 1, Kind: api.ReCommit, Other: 2, Req: 5, Key: "a"}) // it is a log here
	if got, e := rewind.Pages(now, more, api.MaxRecords+1); !sameSlots(got, now) || e != api.OK {
		t.Errorf("one more: %v", e)
	}
	if got, e := rewind.Lost(more, api.MaxRecords); !slices.Equal(got, []int{5}) || e != api.OK {
		t.Errorf("one more: %v, %v", got, e)
	}
}

// Pages and Lost against the chapter's text, of pages, logs and cuts at random.

// isLog tells whether records are a log.
func isLog(log []api.Record) bool {
	for i, r := range log {
		if r.LSN != i+1 {
			return false
		}
	}
	return true
}

// modelPages is what Pages tells, by the chapter's text, a record and a page at a time.
func modelPages(l []redo.Slot, log []api.Record, cut int) ([]redo.Slot, api.Errno) {
	if !isLog(log) {
		return nil, api.ErrLog
	}
	if cut < 0 || cut > len(log) {
		return nil, api.ErrArg
	}
	var stay []redo.Slot
	for _, s := range l {
		if !(s.Node.LSN > cut) {
			stay = append(stay, s)
		}
	}
	if len(stay) == 0 || stay[0].Page != 1 {
		stay = append([]redo.Slot{{Page: 1}}, stay...)
	}
	pages := map[int]api.Node{}
	for i, s := range stay {
		if s.Page < 1 || s.Page > 4096 || i > 0 && s.Page <= stay[i-1].Page || page.Check(s.Node) != api.OK {
			return nil, api.ErrNode
		}
		pages[s.Page] = s.Node
	}
	for _, r := range log {
		if r.LSN > cut {
			break
		}
		if record.Check(r) != api.OK {
			return nil, api.ErrRecord
		}
		if r.Kind == api.ReNoop || r.Kind == api.ReCommit {
			continue
		}
		n, there := pages[r.Page]
		n, _, e := redo.Apply(n, there, r)
		if e != api.OK {
			return nil, e
		}
		pages[r.Page] = n
	}
	var out []redo.Slot
	for p := range 4097 {
		if n, there := pages[p]; there {
			out = append(out, slot(p, n))
		}
	}
	if blink.Check(out) != api.OK {
		return nil, api.ErrTree
	}
	return out, api.OK
}

// modelLost is what Lost tells, by the chapter's text.
func modelLost(log []api.Record, cut int) ([]int, api.Errno) {
	if !isLog(log) {
		return nil, api.ErrLog
	}
	if cut < 0 || cut > len(log) {
		return nil, api.ErrArg
	}
	var reqs []int
	for _, r := range log {
		if r.LSN > cut && r.Kind == api.ReCommit && record.Check(r) == api.OK {
			reqs = append(reqs, r.Req)
		}
	}
	return reqs, api.OK
}

// anyRecord is a record on one of a few pages; seldom it is not right.
func anyRecord(r *rand.Rand) api.Record {
	p, k := 1+r.Intn(3), string(rune('a'+r.Intn(6)))
	switch r.Intn(12) {
	case 0:
		return noop()
	case 1:
		return commit(1+r.Intn(4), k)
	case 2:
		return commitDel(1+r.Intn(4), k)
	case 3:
		return del(p, k)
	case 4, 5:
		return fresh(p, anyNode(r, p))
	case 6:
		return []api.Record{cutAt(p, k, 1+r.Intn(3)), post(p, k, 1+r.Intn(3))}[r.Intn(2)]
	case 7:
		if r.Intn(8) == 0 {
			return []api.Record{commit(0, k), commitDel(api.MaxReq+1, k), put(0, k), {}, {Kind: api.ReCommit, Req: 4, Key: k}}[r.Intn(5)]
		}
	}
	return put(p, k)
}

// anyNode is a node, for a page most often one that a tree has there; seldom it is wrong.
func anyNode(r *rand.Rand, p int) api.Node {
	lsn := r.Intn(9)
	switch {
	case r.Intn(6) == 0:
		return leaf(lsn, "d", 1+r.Intn(3), "b")
	case p == 1:
		return []api.Node{plain(lsn, "a"), inner(lsn, []int{2}), inner(lsn, []int{2, 3}, "d")}[r.Intn(3)]
	case p == 2:
		return leaf(lsn, "d", 3, "a", "c")
	}
	return plain(lsn, "d", "e")
}

// anyPages are a few pages; seldom they do not rise, or a node is wrong.
func anyPages(r *rand.Rand) []redo.Slot {
	var l []redo.Slot
	for _, p := range []int{1, 2, 3, 9} {
		if r.Intn(4) > 0 {
			l = append(l, slot(p, anyNode(r, p)))
		}
	}
	if len(l) > 1 && r.Intn(15) == 0 {
		l[0], l[1] = l[1], l[0]
	}
	if len(l) > 0 && r.Intn(15) == 0 {
		l[r.Intn(len(l))].Node.Level = 30
	}
	if len(l) > 0 && r.Intn(20) == 0 {
		l[r.Intn(len(l))].Page = r.Intn(3) - 1
	}
	return l
}

// anyLog is a log of a few records; seldom it is none.
func anyLog(r *rand.Rand) []api.Record {
	var rs []api.Record
	for range r.Intn(9) {
		rs = append(rs, anyRecord(r))
		rs[len(rs)-1].Epoch = r.Intn(3)
	}
	log := logOf(rs...)
	if len(log) > 0 && r.Intn(12) == 0 {
		log[r.Intn(len(log))].LSN += 1 - 2*r.Intn(2)
	}
	return log
}

func TestByTheText(t *testing.T) {
	r := rand.New(rand.NewSource(23))
	count, lost := map[api.Errno]int{}, 0
	for range 40000 {
		l, log := anyPages(r), anyLog(r)
		cut := r.Intn(len(log)+3) - 1
		want, wantE := modelPages(l, log, cut)
		if got, e := rewind.Pages(l, log, cut); !sameSlots(got, want) || e != wantE {
			t.Fatalf("Pages(%v, %v, %d): %v, %v, not %v, %v", l, log, cut, got, e, want, wantE)
		}
		count[wantE]++
		reqs, wantE := modelLost(log, cut)
		wantLost(t, log, cut, reqs, wantE)
		lost += len(reqs)
	}
	for _, e := range []api.Errno{api.OK, api.ErrArg, api.ErrLog, api.ErrNode, api.ErrNone, api.ErrRecord, api.ErrTree} {
		if count[e] < 300 {
			t.Errorf("%v: %d are too few", e, count[e])
		}
	}
	if lost < 5000 {
		t.Errorf("%d are lost", lost)
	}
}

// 23.3

// noCommits are records that are in no history: of other kinds (of a request that is open still), and commits that are not right.
func noCommits() []api.Record {
	return []api.Record{
		{}, noop(), put(1, "a"), del(1, "a"), fresh(1, plain(0)), cutAt(1, "a", 2), post(1, "a", 2), {Kind: 8, Other: 1, Req: 1, Key: "a"}, {Kind: api.RePut, Page: 1, Req: 4, Key: "a"},
		commit(0, "a"), commit(-1, "a"), commit(api.MaxReq+1, "a"), commit(1, ""), commit(1, strings.Repeat("k", 17)), commitDel(0, "a"), commitDel(1, ""),
		{Kind: api.ReCommit, Other: 0, Req: 1, Key: "a"}, {Kind: api.ReCommit, Other: 3, Req: 1, Key: "a"}, {Kind: api.ReCommit, Other: 2, Req: 1, Key: "a", Value: "v"}, {Kind: api.ReCommit, Other: 1, Page: 1, Req: 1, Key: "a"}, {Kind: api.ReCommit, Other: 1, Epoch: -1, Req: 1, Key: "a"},
	}
}

func TestLost(t *testing.T) {
	commits := []api.Record{commit(7, "a"), commitDel(3, "a"), commit(api.MaxReq, "b"), commit(1, "c"), commit(7, "d"), commitDel(3, "q"), commit(2, "a")}
	reqs := []int{7, 3, api.MaxReq, 1, 7, 3, 2}
	log := logOf(commits...)
	for cut := range len(log) + 1 {
		wantLost(t, log, cut, reqs[cut:], api.OK)
	}
	for gap := range len(commits) + 1 { // others in one gap, and in all
		log := logOf(slices.Concat(commits[:gap], noCommits(), commits[gap:])...)
		for cut := range len(log) + 1 {
			ahead := min(cut, gap) + max(0, cut-gap-len(noCommits()))
			wantLost(t, log, cut, reqs[ahead:], api.OK)
		}
	}
	all := noCommits()
	for _, c := range commits {
		all = append(append(all, c), noCommits()...)
	}
	log = logOf(all...)
	for cut := range len(log) + 1 {
		ahead := cut / (len(noCommits()) + 1)
		wantLost(t, log, cut, reqs[ahead:], api.OK)
	}
	for _, r := range noCommits() {
		wantLost(t, logOf(r), 0, nil, api.OK)
		wantLost(t, logOf(r), 1, nil, api.OK)
	}
}

// A request is lost if a commit of it stands behind cut, wherever its other records are.
func TestRequestsOnBothSides(t *testing.T) {
	log := logOf(put(1, "a"), commit(1, "a"), put(1, "b"), put(1, "c"), commit(3, "c"), commit(2, "b"), del(1, "a"), commit(1, "a"), put(1, "d"))
	for cut, want := range [][]int{{1, 3, 2, 1}, {1, 3, 2, 1}, {3, 2, 1}, {3, 2, 1}, {3, 2, 1}, {2, 1}, {1}, {1}, nil, nil} {
		wantLost(t, log, cut, want, api.OK)
	}
}

// 23.4

// story is a log, and the pages behind each of its records, of an empty root.
type story struct {
	log    []api.Record
	behind [][]redo.Slot // by LSN, from 0 on
}

// add adds a record, if it can be replayed.
func (s *story) add(r api.Record) bool {
	if len(s.behind) == 0 {
		s.behind = [][]redo.Slot{slots(plain(0))}
	}
	r.LSN = len(s.log) + 1
	pages, e := redo.Replay(s.behind[len(s.log)], []api.Record{r})
	if e != api.OK {
		return false
	}
	s.log, s.behind = append(s.log, r), append(s.behind, pages)
	return true
}

// wantRewound tells whether pages, rewound, are those that a story had there.
func (s story) wantRewound(t *testing.T, l []redo.Slot, log []api.Record, cut int) {
	t.Helper()
	want, wantE := s.behind[cut], blink.Check(s.behind[cut])
	if wantE != api.OK {
		want = nil
	}
	if got, e := rewind.Pages(l, log, cut); !sameSlots(got, want) || e != wantE {
		t.Fatalf("Pages(%v, %v, %d): %v, %v, not %v, %v", l, log, cut, got, e, want, wantE)
	}
}

// operated is the story of a tree on which operations go step by step, in any turn.
func operated(t *testing.T, r *rand.Rand, ops, keys int) story {
	t.Helper()
	tree := blink.New()
	ms := steps.New(tree)
	var s story
	say := func(rs ...api.Record) {
		for _, x := range rs {
			if !s.add(x) || blink.Check(s.behind[len(s.log)]) != api.OK {
				t.Fatalf("%v can't be replayed to a tree", x)
			}
		}
	}
	for ops > 0 || len(ms.Running()) > 0 {
		if ops > 0 && r.Intn(3) == 0 {
			k := fmt.Sprintf("key%0*d", 3+r.Intn(2)*10, r.Intn(keys))
			op := api.Op{Kind: api.OpPut, Key: k, Value: strings.Repeat("x", 32-r.Intn(2)*r.Intn(33))}
			if r.Intn(4) == 0 {
				op = api.Op{Kind: api.OpDel, Key: k}
			}
			if _, e := ms.Begin(op); e == api.OK {
				ops--
			}
		}
		if l := ms.Running(); len(l) > 0 {
			said, e := ms.Step(l[r.Intn(len(l))])
			if e != api.OK {
				t.Fatal(e)
			}
			say(said...)
		}
		if r.Intn(20) == 0 {
			x, e := tree.Say([]api.Record{noop(), commit(9, "a")}[r.Intn(2)])
			if e != api.OK {
				t.Fatal(e)
			}
			say(x)
		}
	}
	if len(s.behind) > 0 && !sameSlots(s.behind[len(s.log)], tree.Pages()) {
		t.Fatal("the records do not come to the tree's pages")
	}
	return s
}

func TestATreeRewoundToEachOfItsLSNs(t *testing.T) {
	r := rand.New(rand.NewSource(234))
	levels := map[int]int{}
	for _, ops := range []int{3, 10, 20, 60, 120, 240} {
		s := operated(t, r, ops, 20+ops)
		last := len(s.log)
		now := s.behind[last]
		root, _ := redo.Find(now, 1)
		levels[root.Level]++
		for cut := range s.behind {
			s.wantRewound(t, now, s.log, cut)
		}
		for range 200 {
			n := r.Intn(last + 1)
			cut := r.Intn(n + 1)
			s.wantRewound(t, s.behind[n], s.log[:n], cut)
			s.wantRewound(t, s.behind[n], s.log, cut)
		}
	}
	if levels[0] == 0 || levels[1] == 0 || levels[2] == 0 {
		t.Errorf("levels of the root: %v", levels)
	}
}

// All pages behind each LSN of a short log, rewound to each one ahead of it; and again, from there on.
func TestRewoundAgain(t *testing.T) {
	s := operated(t, rand.New(rand.NewSource(4)), 24, 20)
	for n := range s.behind {
		for cut := range n + 1 {
			s.wantRewound(t, s.behind[n], s.log[:n], cut)
			got, _ := rewind.Pages(s.behind[n], s.log[:n], cut)
			s.wantRewound(t, got, s.log[:n], cut)
			s.wantRewound(t, got, s.log[:cut], cut/2)
			s.wantRewound(t, got, s.log, n) // and forward
		}
	}
}

// Pages that stand as they were at different LSNs, or are not there any more, come to the same.
func TestPagesOfDifferentLSNs(t *testing.T) {
	r := rand.New(rand.NewSource(5))
	s := operated(t, r, 120, 100)
	last := len(s.log)
	for range 400 {
		var l []redo.Slot
		for _, x := range s.behind[last] {
			if n, there := redo.Find(s.behind[r.Intn(last+1)], x.Page); there && r.Intn(9) > 0 {
				l = append(l, slot(x.Page, n))
			}
		}
		s.wantRewound(t, l, s.log, r.Intn(last+1))
	}
}

// Logs whose records come of no tree: where the pages were one, one gets them.
func TestAnyLogRewound(t *testing.T) {
	r := rand.New(rand.NewSource(6))
	trees := map[bool]int{}
	for range 3000 {
		var s story
		for range 12 {
			s.add(anyRecord(r))
		}
		if len(s.behind) == 0 {
			continue
		}
		for cut := range s.behind {
			s.wantRewound(t, s.behind[len(s.log)], s.log, cut)
			trees[blink.Check(s.behind[cut]) == api.OK]++
		}
	}
	if trees[true] < 5000 || trees[false] < 5000 {
		t.Errorf("%v", trees)
	}
}

// 23.5

// branches are nodes' logs: in each epoch one of them writes, and others take a beginning of what it has.
func branches(r *rand.Rand, nodes, epochs int) [][]api.Record {
	logs := make([][]api.Record, nodes)
	for epoch := 1; epoch <= epochs; epoch++ {
		writer := r.Intn(nodes)
		log := slices.Clone(logs[writer])
		for range r.Intn(4) {
			x := []api.Record{noop(), put(1, string(rune('a'+r.Intn(5)))), del(1, string(rune('a'+r.Intn(5)))), fresh(2+r.Intn(3), plain(0, "n"))}[r.Intn(4)]
			if r.Intn(3) == 0 {
				x = commit(100*epoch+len(log), "c")
			}
			x.Epoch = epoch
			log = append(log, x)
		}
		logs[writer] = logOf(log...)
		for i := range logs {
			if i != writer && r.Intn(2) == 0 {
				n := shared(logs[i], log)
				logs[i] = slices.Clone(logs[writer][:n+r.Intn(len(log)-n+1)])
			}
		}
	}
	return logs
}

// shared is how many records two logs begin with alike.
func shared(a, b []api.Record) int {
	n := 0
	for n < min(len(a), len(b)) && a[n] == b[n] {
		n++
	}
	return n
}

// timeline is a log's timeline.
func timeline(log []api.Record) line.Line {
	var epochs []int
	for _, r := range log {
		epochs = append(epochs, r.Epoch)
	}
	return lineOf(epochs...)
}

func TestRewoundToTheFork(t *testing.T) {
	r := rand.New(rand.NewSource(235))
	count := map[[2]bool]int{}
	for range 1500 {
		logs := branches(r, 3, 1+r.Intn(8))
		for _, mine := range logs {
			for _, theirs := range logs {
				n, cut, e := rewind.Point(timeline(mine), timeline(theirs))
				if e != api.OK || n > min(len(mine), len(theirs)) {
					t.Fatalf("Point of %v and %v: %d, %v, %v", mine, theirs, n, cut, e)
				}
				if !slices.Equal(mine[:n], theirs[:n]) || n < min(len(mine), len(theirs)) && mine[n] == theirs[n] || cut != (len(mine) > n) {
					t.Fatalf("Point of %v and %v: %d, %v", mine, theirs, n, cut)
				}
				count[[2]bool{cut, len(theirs) > n}]++
				wantTheirs(t, mine, theirs, n)
			}
		}
	}
	for _, c := range [][2]bool{{false, false}, {false, true}, {true, false}, {true, true}} {
		if count[c] < 500 {
			t.Errorf("%v: %d are too few", c, count[c])
		}
	}
}

// wantTheirs tells whether the pages of one log, rewound to where it parts from another one, are the other one's there, and what is lost of it is its commits that the other one has not.
func wantTheirs(t *testing.T, mine, theirs []api.Record, fork int) {
	t.Helper()
	now, e := redo.Replay(slots(plain(0)), mine)
	if e != api.OK {
		t.Fatal(e)
	}
	there, e := redo.Replay(slots(plain(0)), theirs[:fork])
	if e != api.OK {
		t.Fatal(e)
	}
	wantPages(t, "at the fork", now, mine, fork, there)
	var lost []int
	for _, x := range mine {
		if x.Kind == api.ReCommit && !slices.Contains(theirs, x) {
			lost = append(lost, x.Req)
		}
	}
	wantLost(t, mine, fork, lost, api.OK)
}

// R2, R3, R6

// roomy is a node whose lists have spare room, in which something stands.
func roomy(n api.Node) api.Node {
	texts := func(l []string) []string {
		l = append(slices.Clone(l), "spare", "room", "here")
		return l[: len(l)-3 : len(l)]
	}
	n.Keys, n.Vals = texts(n.Keys), texts(n.Vals)
	kids := append(slices.Clone(n.Kids), 91, 92, 93)
	n.Kids = kids[: len(kids)-3 : len(kids)]
	return n
}

// told is all that pages have, spare room too.
func told(l []redo.Slot) string {
	var b strings.Builder
	for _, s := range l[:cap(l)] {
		n := s.Node
		fmt.Fprintf(&b, "%d %d %d %d %q %q %q %v;", s.Page, n.Level, n.LSN, n.Right, n.High, n.Keys[:cap(n.Keys)], n.Vals[:cap(n.Vals)], n.Kids[:cap(n.Kids)])
	}
	return b.String()
}

// scribble writes over all that pages have, spare room too.
func scribble(l []redo.Slot) {
	l = l[:cap(l)]
	for i := range l {
		n := &l[i].Node
		for _, texts := range [][]string{n.Keys[:cap(n.Keys)], n.Vals[:cap(n.Vals)]} {
			for j := range texts {
				texts[j] = "scribble"
			}
		}
		kids := n.Kids[:cap(n.Kids)]
		for j := range kids {
			kids[j] = -7
		}
		l[i] = slot(-9, api.Node{Level: 99})
	}
}

func TestPagesShareNothing(t *testing.T) {
	s := operated(t, rand.New(rand.NewSource(7)), 40, 40)
	last := len(s.log)
	log := append(make([]api.Record, 0, last+3), s.log...)
	for cut := range s.behind {
		l := make([]redo.Slot, 0, len(s.behind[last])+3)
		for _, x := range s.behind[last] {
			l = append(l, slot(x.Page, roomy(x.Node)))
		}
		was := told(l)
		one, e := rewind.Pages(l, log, cut)
		two, f := rewind.Pages(l, log, cut)
		if e != api.OK || f != api.OK || told(l) != was || !slices.Equal(log[:cap(log)], append(slices.Clone(s.log), make([]api.Record, cap(log)-last)...)) {
			t.Fatalf("cut %d: what was handed in was changed: %v, %v", cut, e, f)
		}
		scribble(one)
		if told(l) != was {
			t.Fatalf("cut %d: an answer shares memory with what was handed in", cut)
		}
		scribble(l)
		if !sameSlots(two, s.behind[cut]) {
			t.Fatalf("cut %d: two answers share memory, or one with what was handed in", cut)
		}
		for i := range two {
			three, _ := rewind.Pages(s.behind[last], s.log, cut)
			scribble(three[i : i+1 : i+1])
			for j := range three {
				if j != i && !same(three[j].Node, s.behind[cut][j].Node) {
					t.Fatalf("cut %d: pages %d and %d share memory", cut, i, j)
				}
			}
		}
	}
}

// Pages that are handed in with one list are not told with one, also where there is nothing to replay.
func TestListsThatAreHandedInTwice(t *testing.T) {
	for cut := range 2 {
		texts := []string{"a", "b"}
		n := api.Node{Keys: texts, Vals: texts}
		got, e := rewind.Pages(slots(n, n, n), logOf(noop()), cut)
		if e != api.OK {
			t.Fatal(e)
		}
		for i := range got {
			got[i].Node.Keys[0], got[i].Node.Vals[1] = fmt.Sprint("k", i), fmt.Sprint("v", i)
		}
		for i, s := range got {
			if !slices.Equal(s.Node.Keys, []string{fmt.Sprint("k", i), "b"}) || !slices.Equal(s.Node.Vals, []string{"a", fmt.Sprint("v", i)}) {
				t.Errorf("cut %d: page %d: %v", cut, s.Page, s.Node)
			}
		}
		if !slices.Equal(texts, []string{"a", "b"}) {
			t.Errorf("cut %d: what was handed in was changed: %v", cut, texts)
		}
	}
}

func TestLostAndPointShareNothing(t *testing.T) {
	log := append(make([]api.Record, 0, 9), logOf(commit(1, "a"), noop(), commit(2, "b"), commitDel(3, "a"))...)
	was := slices.Clone(log[:9])
	one, _ := rewind.Lost(log, 1)
	two, _ := rewind.Lost(log, 1)
	for i := range one[:cap(one)] {
		one[:cap(one)][i] = -5
	}
	if !slices.Equal(two, []int{2, 3}) || !slices.Equal(log[:9], was) {
		t.Errorf("%v, %v", two, log[:9])
	}
	a, b := lineOf(1, 1, 2, 3), lineOf(1, 1, 3, 3)
	wasA, wasB := slices.Clone(a.Marks[:cap(a.Marks)]), slices.Clone(b.Marks[:cap(b.Marks)])
	for range 2 {
		wantPoint(t, a, b, 2, true, api.OK)
	}
	if !slices.Equal(a.Marks[:cap(a.Marks)], wasA) || !slices.Equal(b.Marks[:cap(b.Marks)], wasB) {
		t.Error("timelines were changed")
	}
}

func TestNilAndEmpty(t *testing.T) {
	for _, l := range [][]redo.Slot{nil, {}, slots(plain(4, "x"))[:0]} {
		for _, log := range [][]api.Record{nil, {}, abc()[:0]} {
			wantPages(t, "nothing", l, log, 0, slots(plain(0)))
			wantError(t, "nothing", l, log, 1, api.ErrArg)
			wantLost(t, log, 0, nil, api.OK)
			wantLost(t, log, 1, nil, api.ErrArg)
		}
		wantPages(t, "no pages", l, abc(), 2, slots(plain(2, "a", "b")))
	}
	empty := slots(api.Node{LSN: 1, Keys: []string{}, Vals: []string{}, Kids: []int{}})
	wantPages(t, "empty lists", empty, logOf(noop()), 1, slots(plain(1)))
}

// What stands behind the end of a list is not looked at.
func TestNothingBehindTheEndIsRead(t *testing.T) {
	log := []api.Record{abc()[0], abc()[1], {LSN: 9}}[:2]
	l := slots(plain(0), api.Node{Level: -1})[:1]
	wantPages(t, "two of three", l, log, 2, slots(plain(2, "a", "b")))
	wantError(t, "two of three", l, log, 3, api.ErrArg)
	wantLost(t, logOf(commit(1, "a"), commit(2, "a"))[:1], 0, []int{1}, api.OK)
}

// The chapter's own example.

func TestExample(t *testing.T) {
	log := logOf(put(1, "a"), put(1, "b"), commit(7, "b"), commit(4, "a"))
	now, e := redo.Replay(slots(plain(0)), log)
	if e != api.OK {
		t.Fatal(e)
	}
	wantPages(t, "puts a, b", now, log, 1, slots(plain(1, "a")))
	wantLost(t, log, 1, []int{7, 4}, api.OK)
}
