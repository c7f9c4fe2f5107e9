package pool_test

import (
	"math"
	"math/rand"
	"slices"
	"testing"

	"lattice/api"
	"lattice/pool"
)

// some is a pool that holds these pages, each with one pin, got in this order.
func some(t *testing.T, frames int, pages ...int) *pool.Pool {
	t.Helper()
	p, e := pool.New(frames)
	if p == nil || e != api.OK {
		t.Fatalf("New(%d): %v, %v", frames, p, e)
	}
	for _, page := range pages {
		wantGet(t, p, page, pool.Got{}, api.OK)
	}
	return p
}

func wantErr(t *testing.T, what string, got, want api.Errno) {
	t.Helper()
	if got != want {
		t.Errorf("%s: %v, not %v", what, got, want)
	}
}

func wantGet(t *testing.T, p *pool.Pool, page int, want pool.Got, wantE api.Errno) {
	t.Helper()
	if g, e := p.Get(page); g != want || e != wantE {
		t.Errorf("Get(%d): %+v, %v, not %+v, %v", page, g, e, want, wantE)
	}
}

// unpin takes one pin of each of these pages away, one page behind the other.
func unpin(t *testing.T, p *pool.Pool, pages ...int) {
	t.Helper()
	for _, page := range pages {
		wantErr(t, "Unpin", p.Unpin(page), api.OK)
	}
}

// dirty has a page that is pinned be dirty by these LSNs.
func dirty(t *testing.T, p *pool.Pool, page int, lsns ...int) {
	t.Helper()
	for _, lsn := range lsns {
		wantErr(t, "Dirty", p.Dirty(page, lsn), api.OK)
	}
}

func wantClean(t *testing.T, p *pool.Pool, page, want int, wantE api.Errno) {
	t.Helper()
	if n, e := p.Clean(page); n != want || e != wantE {
		t.Errorf("Clean(%d): %d, %v, not %d, %v", page, n, e, want, wantE)
	}
}

func wantPages(t *testing.T, p *pool.Pool, want ...int) {
	t.Helper()
	if l := p.Pages(); !slices.Equal(l, want) {
		t.Errorf("Pages: %v, not %v", l, want)
	}
}

func wantPins(t *testing.T, p *pool.Pool, page, want int) {
	t.Helper()
	if n := p.Pins(page); n != want {
		t.Errorf("Pins(%d): %d, not %d", page, n, want)
	}
}

func wantOldest(t *testing.T, p *pool.Pool, want int, wantOK bool) {
	t.Helper()
	if n, ok := p.Oldest(); n != want || ok != wantOK {
		t.Errorf("Oldest: %d, %v, not %d, %v", n, ok, want, wantOK)
	}
}

// wantFlushed tells whether the log is flushed up to an LSN, and no further; the pool must have an empty frame. Behind it the log is flushed one further.
func wantFlushed(t *testing.T, p *pool.Pool, want int) {
	t.Helper()
	const page = api.MaxPages - 7
	wantGet(t, p, page, pool.Got{}, api.OK)
	if want > 0 {
		dirty(t, p, page, want)
		wantClean(t, p, page, 0, api.OK)
	}
	if want < api.MaxLSN {
		dirty(t, p, page, want+1)
		wantClean(t, p, page, want+1, api.OK)
	}
}

// noPages are numbers that are no page's.
var noPages = []int{math.MinInt, -api.MaxPages, -1, 0, api.MaxPages + 1, math.MaxInt}

// 11.1

func TestNew(t *testing.T) {
	for _, frames := range []int{math.MinInt, -64, -1, 0, 65, 66, api.MaxPages, math.MaxInt} {
		if p, e := pool.New(frames); p != nil || e != api.ErrArg {
			t.Errorf("New(%d): %v, %v, not ErrArg alone", frames, p, e)
		}
	}
	for _, frames := range []int{1, 2, 3, 63, 64} {
		p := some(t, frames)
		wantPages(t, p)
		wantOldest(t, p, 0, false)
		for page := range api.MaxPages + 2 {
			wantPins(t, p, page, 0)
		}
		wantFlushed(t, p, 0)
	}
}

func TestFramesAreFilledAheadOfLettingGo(t *testing.T) {
	for _, frames := range []int{1, 2, 3, 63, 64} {
		p := some(t, frames)
		var held []int
		for i := range frames {
			page := api.MaxPages - 3*i
			wantGet(t, p, page, pool.Got{}, api.OK)
			unpin(t, p, page)
			held = append(held, page)
			wantPages(t, p, held...)
		}
		wantGet(t, p, 1, pool.Got{Out: api.MaxPages}, api.OK)
		wantPages(t, p, append(held[1:], 1)...)
	}
}

func TestGetOfNoPage(t *testing.T) {
	for _, page := range noPages {
		p := some(t, 2)
		wantGet(t, p, page, pool.Got{}, api.ErrArg)
		wantPages(t, p)
		p = some(t, 1, 1) // all are pinned
		wantGet(t, p, page, pool.Got{}, api.ErrArg)
		unpin(t, p, 1)
		wantGet(t, p, page, pool.Got{}, api.ErrArg)
		wantPages(t, p, 1)
		wantPins(t, p, page, 0)
	}
	p := some(t, 2, 1, api.MaxPages)
	wantPages(t, p, 1, api.MaxPages)
}

func TestGetOfAPageThatIsHeld(t *testing.T) {
	p := some(t, 3, 7, 8)
	wantGet(t, p, 7, pool.Got{Hit: true}, api.OK) // with a frame empty
	wantPins(t, p, 7, 2)
	wantPages(t, p, 8, 7)
	wantGet(t, p, 9, pool.Got{}, api.OK)
	wantGet(t, p, 8, pool.Got{Hit: true}, api.OK) // with none empty, all pinned
	wantPages(t, p, 7, 9, 8)
	unpin(t, p, 9)
	wantGet(t, p, 9, pool.Got{Hit: true}, api.OK) // the one without pins is the one that is got
	unpin(t, p, 9, 7, 7)
	wantGet(t, p, 9, pool.Got{Hit: true}, api.OK) // another one has none: it is not let go
	wantPages(t, p, 7, 8, 9)
	for page, pins := range map[int]int{7: 0, 8: 2, 9: 1} {
		wantPins(t, p, page, pins)
	}
}

func TestAHitLeavesThePageDirty(t *testing.T) {
	p := some(t, 1, 5)
	dirty(t, p, 5, 4, 9)
	unpin(t, p, 5)
	wantGet(t, p, 5, pool.Got{Hit: true}, api.OK)
	wantOldest(t, p, 4, true)
	wantClean(t, p, 5, 9, api.OK)
}

func TestGetWhileAllArePinned(t *testing.T) {
	p := some(t, 2, 1, 2)
	wantGet(t, p, 1, pool.Got{Hit: true}, api.OK)
	wantGet(t, p, 3, pool.Got{}, api.ErrFull)
	unpin(t, p, 1) // it has one pin still
	wantGet(t, p, 3, pool.Got{}, api.ErrFull)
	wantPages(t, p, 2, 1)
	for page, pins := range map[int]int{1: 1, 2: 1, 3: 0} {
		wantPins(t, p, page, pins)
	}
	wantErr(t, "Unpin of what was not got", p.Unpin(3), api.ErrNone)
	unpin(t, p, 1)
	wantGet(t, p, 3, pool.Got{Out: 1}, api.OK)
	wantPages(t, p, 2, 3)
}

func TestOneIsNotPinned(t *testing.T) {
	for _, out := range []int{1, 2, 3} {
		p := some(t, 3, 1, 2, 3)
		unpin(t, p, out)
		wantGet(t, p, 4, pool.Got{Out: out}, api.OK)
		wantPins(t, p, out, 0)
		wantPins(t, p, 4, 1)
		wantGet(t, p, out, pool.Got{}, api.ErrFull)
	}
}

// orders are all orders of some numbers.
func orders(l []int) [][]int {
	if len(l) == 0 {
		return [][]int{nil}
	}
	var all [][]int
	for i, x := range l {
		for _, rest := range orders(slices.Delete(slices.Clone(l), i, i+1)) {
			all = append(all, append([]int{x}, rest...))
		}
	}
	return all
}

func TestWhoWasUsedTheLongestTimeAgoIsLetGo(t *testing.T) {
	for _, got := range orders([]int{1, 2, 3, 4}) {
		for _, freed := range orders([]int{1, 2, 3, 4}) { // when a pin was taken away is no use
			p := some(t, 4, got...)
			unpin(t, p, freed...)
			for i, out := range got {
				wantGet(t, p, 10+i, pool.Got{Out: out}, api.OK)
			}
			wantPages(t, p, 10, 11, 12, 13)
		}
	}
}

func TestUsedAgain(t *testing.T) {
	for _, again := range orders([]int{1, 2, 3, 4}) {
		p := some(t, 4, 1, 2, 3, 4)
		for _, page := range again {
			wantGet(t, p, page, pool.Got{Hit: true}, api.OK)
		}
		unpin(t, p, 4, 3, 2, 1, 1, 2, 3, 4)
		wantPages(t, p, again...)
		for i, out := range again {
			wantGet(t, p, 10+i, pool.Got{Out: out}, api.OK)
		}
	}
}

func TestPinnedOnesAreLeftOut(t *testing.T) {
	for _, got := range orders([]int{1, 2, 3, 4}) {
		p := some(t, 4, got...)
		unpin(t, p, got[1], got[3])
		wantGet(t, p, 10, pool.Got{Out: got[1]}, api.OK)
		wantGet(t, p, 11, pool.Got{Out: got[3]}, api.OK)
		wantGet(t, p, 12, pool.Got{}, api.ErrFull)
		wantPages(t, p, got[0], got[2], 10, 11)
	}
}

func TestOnlyGetIsAUse(t *testing.T) {
	p := some(t, 3, 1, 2, 3)
	dirty(t, p, 1, 5)
	wantClean(t, p, 1, 5, api.OK)
	wantErr(t, "Flushed", p.Flushed(9), api.OK)
	wantGet(t, p, 4, pool.Got{}, api.ErrFull)
	wantPins(t, p, 1, 1)
	wantOldest(t, p, 0, false)
	unpin(t, p, 2, 1)
	wantPages(t, p, 1, 2, 3)
	wantGet(t, p, 4, pool.Got{Out: 1}, api.OK)
	wantPages(t, p, 2, 3, 4)
}

func TestLetGoClean(t *testing.T) {
	p := some(t, 1, 1)
	unpin(t, p, 1)
	wantGet(t, p, 2, pool.Got{Out: 1}, api.OK) // it was never dirty
	dirty(t, p, 2, 7)
	wantClean(t, p, 2, 7, api.OK)
	unpin(t, p, 2)
	wantGet(t, p, 3, pool.Got{Out: 2}, api.OK) // it was dirty
	wantOldest(t, p, 0, false)
}

func TestLetGoDirty(t *testing.T) {
	tests := []struct{ flushed, lsn, need int }{
		{0, 1, 1}, {0, 7, 7}, {6, 7, 7}, {7, 7, 0}, {8, 7, 0}, {1, 1, 0}, {api.MaxLSN, 1, 0},
		{api.MaxLSN - 1, api.MaxLSN, api.MaxLSN}, {api.MaxLSN, api.MaxLSN, 0}, {0, api.MaxLSN, api.MaxLSN},
	}
	for _, x := range tests {
		p := some(t, 1, 1)
		wantErr(t, "Flushed", p.Flushed(x.flushed), api.OK)
		dirty(t, p, 1, x.lsn)
		unpin(t, p, 1)
		wantGet(t, p, 2, pool.Got{Out: 1, Write: true, Need: x.need}, api.OK)
		wantOldest(t, p, 0, false)
		wantPins(t, p, 1, 0)
		wantPages(t, p, 2)
	}
}

func TestThePageComesBackClean(t *testing.T) {
	p := some(t, 1, 1)
	wantGet(t, p, 1, pool.Got{Hit: true}, api.OK)
	dirty(t, p, 1, 7)
	unpin(t, p, 1, 1)
	wantGet(t, p, 2, pool.Got{Out: 1, Write: true, Need: 7}, api.OK)
	unpin(t, p, 2)
	wantGet(t, p, 1, pool.Got{Out: 2}, api.OK)
	wantPins(t, p, 1, 1)
	wantClean(t, p, 1, 0, api.ErrState)
	wantOldest(t, p, 0, false)
	dirty(t, p, 1, 8)
	wantOldest(t, p, 8, true)
	wantClean(t, p, 1, 8, api.OK)
}

// 11.2

func TestUnpin(t *testing.T) {
	p := some(t, 2, 1)
	for range 3 {
		wantGet(t, p, 1, pool.Got{Hit: true}, api.OK)
	}
	for pins := 4; pins > 0; pins-- {
		wantPins(t, p, 1, pins)
		unpin(t, p, 1)
	}
	for range 2 {
		wantErr(t, "Unpin without pins", p.Unpin(1), api.ErrState)
		wantPins(t, p, 1, 0)
	}
	wantPages(t, p, 1)
	for _, page := range append([]int{2, api.MaxPages}, noPages...) {
		wantErr(t, "Unpin of a page that is not held", p.Unpin(page), api.ErrNone)
	}
	wantPages(t, p, 1)
}

func TestUnpinOfAPageThatWasLetGo(t *testing.T) {
	p := some(t, 1, 1)
	unpin(t, p, 1)
	wantGet(t, p, 2, pool.Got{Out: 1}, api.OK)
	wantErr(t, "Unpin", p.Unpin(1), api.ErrNone)
	wantErr(t, "Dirty", p.Dirty(1, 1), api.ErrNone)
	wantClean(t, p, 1, 0, api.ErrNone)
}

// noLSNs are no LSNs of a change.
var noLSNs = []int{math.MinInt, -1, 0, api.MaxLSN + 1, math.MaxInt}

func TestDirtyErrors(t *testing.T) {
	p := some(t, 3, 1, 2)
	unpin(t, p, 2)
	for _, lsn := range noLSNs {
		for _, page := range append([]int{1, 2, 3}, noPages...) {
			wantErr(t, "Dirty by no LSN", p.Dirty(page, lsn), api.ErrArg)
		}
	}
	for _, lsn := range []int{1, 7, api.MaxLSN} {
		for _, page := range append([]int{3, api.MaxPages}, noPages...) {
			wantErr(t, "Dirty of a page that is not held", p.Dirty(page, lsn), api.ErrNone)
		}
		wantErr(t, "Dirty of a page without pins", p.Dirty(2, lsn), api.ErrState)
	}
	wantOldest(t, p, 0, false)
	wantClean(t, p, 1, 0, api.ErrState)
	wantClean(t, p, 2, 0, api.ErrState)
	wantPages(t, p, 1, 2)
}

func TestDirtyErrorsLeaveADirtyPageAsItWas(t *testing.T) {
	p := some(t, 1, 1)
	dirty(t, p, 1, 5)
	wantErr(t, "Dirty", p.Dirty(1, api.MaxLSN+1), api.ErrArg)
	wantErr(t, "Dirty", p.Dirty(1, 0), api.ErrArg)
	unpin(t, p, 1)
	wantErr(t, "Dirty", p.Dirty(1, 9), api.ErrState)
	wantOldest(t, p, 5, true)
	wantClean(t, p, 1, 5, api.OK)
}

func TestTheGreatestLSNStays(t *testing.T) {
	tests := []struct {
		lsns []int
		need int
	}{
		{[]int{1}, 1}, {[]int{api.MaxLSN}, api.MaxLSN}, {[]int{5, 5}, 5}, {[]int{5, 6}, 6}, {[]int{6, 5}, 6},
		{[]int{6, 5, 7}, 7}, {[]int{1, api.MaxLSN, 2}, api.MaxLSN}, {[]int{9, 1, 8}, 9},
	}
	for _, x := range tests {
		p := some(t, 1, 1)
		dirty(t, p, 1, x.lsns...)
		wantOldest(t, p, x.lsns[0], true)
		wantClean(t, p, 1, x.need, api.OK)
		p = some(t, 1, 1)
		dirty(t, p, 1, x.lsns...)
		unpin(t, p, 1)
		wantGet(t, p, 2, pool.Got{Out: 1, Write: true, Need: x.need}, api.OK)
	}
}

func TestClean(t *testing.T) {
	p := some(t, 3, 1, 2)
	for _, page := range append([]int{3, api.MaxPages}, noPages...) {
		wantClean(t, p, page, 0, api.ErrNone)
	}
	wantClean(t, p, 1, 0, api.ErrState)
	dirty(t, p, 1, 7)
	wantClean(t, p, 2, 0, api.ErrState)
	wantClean(t, p, 1, 7, api.OK)
	wantClean(t, p, 1, 0, api.ErrState)
	wantPins(t, p, 1, 1)
	wantPages(t, p, 1, 2)
	dirty(t, p, 1, 7)
	wantClean(t, p, 1, 0, api.OK) // the log was flushed so far when it was cleaned
	dirty(t, p, 1, 8)
	unpin(t, p, 1)
	wantClean(t, p, 1, 8, api.OK) // it needs no pin
	wantClean(t, p, 1, 0, api.ErrState)
}

func TestCleanTellsTheNeed(t *testing.T) {
	for _, x := range []struct{ flushed, lsn, need int }{{0, 1, 1}, {6, 7, 7}, {7, 7, 0}, {8, 7, 0}, {api.MaxLSN - 1, api.MaxLSN, api.MaxLSN}, {api.MaxLSN, api.MaxLSN, 0}} {
		p := some(t, 1, 1)
		wantErr(t, "Flushed", p.Flushed(x.flushed), api.OK)
		dirty(t, p, 1, x.lsn)
		wantClean(t, p, 1, x.need, api.OK)
	}
}

// 11.3

func TestFlushed(t *testing.T) {
	for _, lsn := range []int{math.MinInt, -1, api.MaxLSN + 1, math.MaxInt} {
		p := some(t, 1)
		wantErr(t, "Flushed", p.Flushed(lsn), api.ErrArg)
		wantFlushed(t, p, 0)
		p = some(t, 1)
		wantErr(t, "Flushed", p.Flushed(5), api.OK)
		wantErr(t, "Flushed", p.Flushed(lsn), api.ErrArg)
		wantFlushed(t, p, 5)
	}
	tests := []struct {
		lsns []int
		want int
	}{
		{nil, 0}, {[]int{0}, 0}, {[]int{1}, 1}, {[]int{7}, 7}, {[]int{7, 6}, 7}, {[]int{7, 0}, 7}, {[]int{7, 7}, 7}, {[]int{7, 8}, 8},
		{[]int{api.MaxLSN - 1}, api.MaxLSN - 1}, {[]int{api.MaxLSN}, api.MaxLSN}, {[]int{api.MaxLSN, 1}, api.MaxLSN},
	}
	for _, x := range tests {
		p := some(t, 2)
		for _, lsn := range x.lsns {
			wantErr(t, "Flushed", p.Flushed(lsn), api.OK)
		}
		wantFlushed(t, p, x.want)
	}
}

func TestFlushedBehindWhereItWas(t *testing.T) {
	p := some(t, 2, 1)
	dirty(t, p, 1, 9)
	wantClean(t, p, 1, 9, api.OK)
	wantErr(t, "Flushed", p.Flushed(3), api.OK)
	wantFlushed(t, p, 9)
}

func TestFlushedLeavesDirtyPagesDirty(t *testing.T) {
	p := some(t, 2, 1)
	dirty(t, p, 1, 9)
	wantErr(t, "Flushed", p.Flushed(20), api.OK)
	wantOldest(t, p, 9, true)
	wantClean(t, p, 1, 0, api.OK)
}

func TestPages(t *testing.T) {
	p := some(t, 5, 9, 3, 7, 1, 5)
	wantPages(t, p, 9, 3, 7, 1, 5)
	wantGet(t, p, 3, pool.Got{Hit: true}, api.OK)
	wantPages(t, p, 9, 7, 1, 5, 3)
	wantGet(t, p, 9, pool.Got{Hit: true}, api.OK)
	wantGet(t, p, 9, pool.Got{Hit: true}, api.OK)
	wantPages(t, p, 7, 1, 5, 3, 9)
	unpin(t, p, 5, 1)
	wantGet(t, p, 2, pool.Got{Out: 1}, api.OK)
	wantPages(t, p, 7, 5, 3, 9, 2)
	wantGet(t, p, 7, pool.Got{Hit: true}, api.OK)
	wantPages(t, p, 5, 3, 9, 2, 7)
}

func TestPinsOfPagesThatAreNotHeld(t *testing.T) {
	p := some(t, 2, 1)
	for _, page := range append([]int{2, api.MaxPages}, noPages...) {
		wantPins(t, p, page, 0)
	}
	wantPages(t, p, 1) // to ask for a page does not hold it
}

func TestOldest(t *testing.T) {
	p := some(t, 4, 1, 2, 3, 4)
	wantOldest(t, p, 0, false)
	dirty(t, p, 2, 9)
	wantOldest(t, p, 9, true)
	dirty(t, p, 2, 12, 3) // it was dirty: by these it became nothing
	wantOldest(t, p, 9, true)
	dirty(t, p, 4, 10)
	wantOldest(t, p, 9, true)
	dirty(t, p, 1, 8)
	wantOldest(t, p, 8, true)
	wantClean(t, p, 1, 8, api.OK)
	wantOldest(t, p, 9, true)
	wantClean(t, p, 2, 12, api.OK)
	wantOldest(t, p, 10, true)
	dirty(t, p, 2, 20)
	wantOldest(t, p, 10, true)
	wantClean(t, p, 4, 0, api.OK)
	wantOldest(t, p, 20, true)
	unpin(t, p, 2)
	wantOldest(t, p, 20, true) // it is dirty without pins, too
	wantClean(t, p, 2, 20, api.OK)
	wantOldest(t, p, 0, false)
}

func TestOldestOfAPageThatWasCleanedAndDirtiedAgain(t *testing.T) {
	p := some(t, 1, 1)
	dirty(t, p, 1, 7)
	wantClean(t, p, 1, 7, api.OK)
	dirty(t, p, 1, 5) // its LSN stays 7, but by 5 it became dirty
	wantOldest(t, p, 5, true)
	wantClean(t, p, 1, 0, api.OK)
	dirty(t, p, 1, api.MaxLSN)
	wantOldest(t, p, api.MaxLSN, true)
}

func TestOldestOfAPageThatIsLetGo(t *testing.T) {
	p := some(t, 2, 1, 2)
	dirty(t, p, 1, 3)
	dirty(t, p, 2, 8)
	unpin(t, p, 1)
	wantGet(t, p, 3, pool.Got{Out: 1, Write: true, Need: 3}, api.OK)
	wantOldest(t, p, 8, true)
}

// wantNoFrames tells whether a pool answers as one without frames does.
func wantNoFrames(t *testing.T, p *pool.Pool) {
	t.Helper()
	for range 2 {
		for _, page := range noPages {
			wantGet(t, p, page, pool.Got{}, api.ErrArg)
		}
		for _, page := range []int{1, 2, api.MaxPages} {
			wantGet(t, p, page, pool.Got{}, api.ErrFull)
		}
		for _, page := range append([]int{1, api.MaxPages}, noPages...) {
			wantErr(t, "Unpin", p.Unpin(page), api.ErrNone)
			for _, lsn := range noLSNs {
				wantErr(t, "Dirty", p.Dirty(page, lsn), api.ErrArg)
			}
			wantErr(t, "Dirty", p.Dirty(page, 1), api.ErrNone)
			wantErr(t, "Dirty", p.Dirty(page, api.MaxLSN), api.ErrNone)
			wantClean(t, p, page, 0, api.ErrNone)
			wantPins(t, p, page, 0)
		}
		wantErr(t, "Flushed", p.Flushed(-1), api.ErrArg)
		wantErr(t, "Flushed", p.Flushed(api.MaxLSN+1), api.ErrArg)
		wantErr(t, "Flushed", p.Flushed(0), api.OK)
		wantErr(t, "Flushed", p.Flushed(api.MaxLSN), api.OK)
		wantPages(t, p)
		wantOldest(t, p, 0, false)
	}
}

func TestANilPool(t *testing.T) {
	wantNoFrames(t, nil)
}

// P1: a pool that New did not make has no frames, either.
func TestAPoolWithoutFrames(t *testing.T) {
	wantNoFrames(t, &pool.Pool{})
}

// A plain model of the chapter's words: the pages, the one used the longest time ago first.

type modelPage struct {
	page, pins, lsn, since int
	dirty                  bool
}

type model struct {
	frames, flushed int
	pages           []modelPage
}

func (m *model) at(page int) int {
	return slices.IndexFunc(m.pages, func(x modelPage) bool { return x.page == page })
}

func (m *model) write(lsn int) int {
	if m.flushed >= lsn {
		return 0
	}
	m.flushed = lsn
	return lsn
}

func (m *model) get(page int) (pool.Got, api.Errno) {
	if page < 1 || page > 4096 {
		return pool.Got{}, api.ErrArg
	}
	if i := m.at(page); i >= 0 {
		x := m.pages[i]
		x.pins++
		m.pages = append(slices.Delete(m.pages, i, i+1), x)
		return pool.Got{Hit: true}, api.OK
	}
	var got pool.Got
	if len(m.pages) == m.frames {
		i := slices.IndexFunc(m.pages, func(x modelPage) bool { return x.pins == 0 })
		if i < 0 {
			return pool.Got{}, api.ErrFull
		}
		x := m.pages[i]
		got.Out, got.Write = x.page, x.dirty
		if x.dirty {
			got.Need = m.write(x.lsn)
		}
		m.pages = slices.Delete(m.pages, i, i+1)
	}
	m.pages = append(m.pages, modelPage{page: page, pins: 1})
	return got, api.OK
}

func (m *model) unpin(page int) api.Errno {
	i := m.at(page)
	if i < 0 {
		return api.ErrNone
	}
	if m.pages[i].pins == 0 {
		return api.ErrState
	}
	m.pages[i].pins--
	return api.OK
}

func (m *model) dirty(page, lsn int) api.Errno {
	if lsn < 1 || lsn > 1<<40 {
		return api.ErrArg
	}
	i := m.at(page)
	if i < 0 {
		return api.ErrNone
	}
	x := &m.pages[i]
	if x.pins == 0 {
		return api.ErrState
	}
	if !x.dirty {
		x.dirty, x.since = true, lsn
	}
	if lsn > x.lsn {
		x.lsn = lsn
	}
	return api.OK
}

func (m *model) clean(page int) (int, api.Errno) {
	i := m.at(page)
	if i < 0 {
		return 0, api.ErrNone
	}
	if !m.pages[i].dirty {
		return 0, api.ErrState
	}
	m.pages[i].dirty = false
	return m.write(m.pages[i].lsn), api.OK
}

func (m *model) flush(lsn int) api.Errno {
	if lsn < 0 || lsn > 1<<40 {
		return api.ErrArg
	}
	m.flushed = max(m.flushed, lsn)
	return api.OK
}

// Kinds of calls that change a pool.
const (
	callGet = iota
	callUnpin
	callDirty
	callClean
	callFlushed
)

type call struct{ kind, page, lsn int }

// wantCall makes a call of a pool and of its model, and holds what they tell against each other.
func wantCall(t *testing.T, p *pool.Pool, m *model, c call) {
	t.Helper()
	switch c.kind {
	case callGet:
		got, e := m.get(c.page)
		wantGet(t, p, c.page, got, e)
	case callUnpin:
		wantErr(t, "Unpin", p.Unpin(c.page), m.unpin(c.page))
	case callDirty:
		wantErr(t, "Dirty", p.Dirty(c.page, c.lsn), m.dirty(c.page, c.lsn))
	case callClean:
		need, e := m.clean(c.page)
		wantClean(t, p, c.page, need, e)
	case callFlushed:
		wantErr(t, "Flushed", p.Flushed(c.lsn), m.flush(c.lsn))
	}
}

// wantModel holds what a pool tells of itself against its model.
func wantModel(t *testing.T, p *pool.Pool, m *model) {
	t.Helper()
	var pages []int
	oldest, isDirty := 0, false
	for _, x := range m.pages {
		pages = append(pages, x.page)
		wantPins(t, p, x.page, x.pins)
		if x.dirty && (!isDirty || x.since < oldest) {
			oldest, isDirty = x.since, true
		}
	}
	wantPages(t, p, pages...)
	wantOldest(t, p, oldest, isDirty)
}

// wantCalls makes calls of a new pool, and tells whether all was as its model has it.
func wantCalls(t *testing.T, frames int, calls []call) bool {
	t.Helper()
	p, m := some(t, frames), &model{frames: frames}
	for _, c := range calls {
		wantCall(t, p, m, c)
		wantModel(t, p, m)
	}
	if t.Failed() {
		t.Errorf("%d frames, calls %v", frames, calls)
	}
	return !t.Failed()
}

func TestAllShortRows(t *testing.T) {
	var all []call
	for page := 1; page <= 3; page++ {
		all = append(all, call{kind: callGet, page: page}, call{kind: callUnpin, page: page}, call{kind: callClean, page: page},
			call{callDirty, page, 1}, call{callDirty, page, 3})
	}
	all = append(all, call{kind: callFlushed, lsn: 2})
	for frames := 1; frames <= 2; frames++ {
		for n := range len(all) * len(all) * len(all) {
			calls := []call{{kind: callGet, page: 1}, all[n%len(all)], all[n/len(all)%len(all)], all[n/len(all)/len(all)], {kind: callUnpin, page: 1}, {kind: callGet, page: 2}}
			if !wantCalls(t, frames, calls) {
				return
			}
		}
	}
}

// anyCall is a call of one of a few pages, now and then of one that is none.
func anyCall(g *rand.Rand, pages int) call {
	c := call{kind: g.Intn(5), page: 1 + g.Intn(pages), lsn: 1 + g.Intn(300)}
	if g.Intn(2) == 0 {
		c.kind = g.Intn(2)
	}
	switch g.Intn(40) {
	case 0:
		c.page = noPages[g.Intn(len(noPages))]
	case 1:
		c.lsn = noLSNs[g.Intn(len(noLSNs))]
	case 2:
		c.lsn = api.MaxLSN - 300 + g.Intn(301)
	}
	return c
}

func TestAnyCalls(t *testing.T) {
	g := rand.New(rand.NewSource(11))
	for range 400 {
		frames := 1 + g.Intn(6)
		if g.Intn(8) == 0 {
			frames = 64
		}
		pages := 1 + frames*2
		var calls []call
		for range 300 {
			calls = append(calls, anyCall(g, pages))
		}
		if !wantCalls(t, frames, calls) {
			return
		}
	}
}

// 11.4, 11.5: a witness that looks at what the pool tells alone, and knows only what it was told to do.

type witness struct {
	frames, flushed int
	lsn             map[int]int // of the pages that are dirty
	pins            map[int]int // of the pages that are held
}

// wrote has a page be written, for which the log is flushed up to need.
func (w *witness) wrote(t *testing.T, page, need int) {
	t.Helper()
	w.flushed = max(w.flushed, need)
	if w.lsn[page] > w.flushed {
		t.Errorf("page %d of LSN %d is written, but the log is flushed up to %d", page, w.lsn[page], w.flushed)
	}
	delete(w.lsn, page)
}

func (w *witness) got(t *testing.T, page int, g pool.Got) {
	t.Helper()
	if g.Out != 0 {
		if pins, held := w.pins[g.Out]; !held || pins != 0 {
			t.Errorf("page %d of %d pins is let go (held: %v)", g.Out, pins, held)
		}
		if _, dirty := w.lsn[g.Out]; dirty != g.Write {
			t.Errorf("page %d is let go: written %v, dirty %v", g.Out, g.Write, dirty)
		}
		w.wrote(t, g.Out, g.Need)
		delete(w.pins, g.Out)
	}
	w.pins[page]++
}

func (w *witness) see(t *testing.T, p *pool.Pool, c call) {
	t.Helper()
	switch c.kind {
	case callGet:
		if g, e := p.Get(c.page); e == api.OK {
			w.got(t, c.page, g)
		}
	case callUnpin:
		if p.Unpin(c.page) == api.OK {
			w.pins[c.page]--
		}
	case callDirty:
		if p.Dirty(c.page, c.lsn) == api.OK {
			w.lsn[c.page] = max(w.lsn[c.page], c.lsn)
		}
	case callClean:
		if need, e := p.Clean(c.page); e == api.OK {
			w.wrote(t, c.page, need)
		}
	case callFlushed:
		if p.Flushed(c.lsn) == api.OK {
			w.flushed = max(w.flushed, c.lsn)
		}
	}
	held := p.Pages()
	if len(held) > w.frames || len(held) != len(w.pins) {
		t.Errorf("%d pages are held in %d frames, not %d", len(held), w.frames, len(w.pins))
	}
	for page, pins := range w.pins {
		wantPins(t, p, page, pins)
		if !slices.Contains(held, page) {
			t.Errorf("page %d of %d pins is not held", page, pins)
		}
	}
}

func TestTheLogFirstAndPinnedPagesStay(t *testing.T) {
	g := rand.New(rand.NewSource(114))
	for range 300 {
		w := &witness{frames: 1 + g.Intn(5), lsn: map[int]int{}, pins: map[int]int{}}
		p := some(t, w.frames)
		for range 300 {
			w.see(t, p, anyCall(g, 9))
		}
		if t.Failed() {
			return
		}
	}
}

func TestTheLogIsFlushedBehindAWrite(t *testing.T) {
	p := some(t, 2, 1, 2)
	dirty(t, p, 1, 9)
	dirty(t, p, 2, 5)
	unpin(t, p, 1, 2)
	wantGet(t, p, 3, pool.Got{Out: 1, Write: true, Need: 9}, api.OK)
	wantGet(t, p, 4, pool.Got{Out: 2, Write: true}, api.OK) // 5 is flushed with 9
	dirty(t, p, 3, 8)
	dirty(t, p, 4, 10)
	wantClean(t, p, 3, 0, api.OK)
	wantClean(t, p, 4, 10, api.OK)
}

func TestNoMorePagesThanFrames(t *testing.T) {
	for _, frames := range []int{1, 2, 64} {
		p := some(t, frames)
		for page := 1; page <= api.MaxPages; page++ {
			got := pool.Got{}
			if page > frames {
				got.Out = page - frames
			}
			wantGet(t, p, page, got, api.OK)
			unpin(t, p, page)
			if n := len(p.Pages()); n != min(page, frames) {
				t.Fatalf("%d pages in %d frames", n, frames)
			}
		}
	}
}

// R3, R6

func TestAnswersAreNotKept(t *testing.T) {
	p := some(t, 3, 1, 2, 3)
	unpin(t, p, 1, 2, 3)
	l, other := p.Pages(), p.Pages()
	l = l[:cap(l)]
	for i := range l {
		l[i] = 77
	}
	if !slices.Equal(other, []int{1, 2, 3}) {
		t.Errorf("another answer: %v", other)
	}
	wantPages(t, p, 1, 2, 3)
	wantGet(t, p, 4, pool.Got{Out: 1}, api.OK)
	if !slices.Equal(other, []int{1, 2, 3}) {
		t.Errorf("an earlier answer: %v", other)
	}
}

func TestPoolsShareNothing(t *testing.T) {
	p, q := some(t, 2, 1), some(t, 2, 2)
	dirty(t, p, 1, 7)
	wantClean(t, p, 1, 7, api.OK)
	dirty(t, q, 2, 6)
	wantPages(t, p, 1)
	wantPages(t, q, 2)
	wantOldest(t, p, 0, false)
	wantClean(t, q, 2, 6, api.OK)
}

func TestErrorsChangeNothing(t *testing.T) {
	g := rand.New(rand.NewSource(6))
	for range 300 {
		frames := 1 + g.Intn(4)
		p, m := some(t, frames), &model{frames: frames}
		for range 200 {
			c := anyCall(g, 6)
			wantCall(t, p, m, c)
			for range 3 { // what is refused is refused again, and nothing comes of it
				wantErr(t, "Dirty", p.Dirty(1+g.Intn(6), 0), api.ErrArg)
				wantErr(t, "Flushed", p.Flushed(-1), api.ErrArg)
				wantGet(t, p, 0, pool.Got{}, api.ErrArg)
				wantErr(t, "Unpin", p.Unpin(0), api.ErrNone)
				wantClean(t, p, 7, 0, api.ErrNone)
			}
			wantModel(t, p, m)
		}
		if t.Failed() {
			return
		}
	}
}

// The chapter's own example.

func TestExample(t *testing.T) {
	p := some(t, 1, 1)
	dirty(t, p, 1, 7)
	unpin(t, p, 1)
	wantGet(t, p, 2, pool.Got{Out: 1, Write: true, Need: 7}, api.OK)
	wantGet(t, p, 3, pool.Got{}, api.ErrFull)
}
