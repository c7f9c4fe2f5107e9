package line_test

import (
	"fmt"
	"math"
	"math/rand"
	"slices"
	"testing"

	"lattice/api"
	"lattice/line"
	"lattice/wal"
)

const most = api.MaxLSN

// lineOf is a timeline of a last LSN and marks, in pairs of an Epoch and an LSN.
func lineOf(last int, marks ...int) line.Line {
	l := line.Line{Last: last}
	for i := 0; i < len(marks); i += 2 {
		l.Marks = append(l.Marks, api.Mark{Epoch: marks[i], LSN: marks[i+1]})
	}
	return l
}

func same(a, b line.Line) bool { return a.Last == b.Last && slices.Equal(a.Marks, b.Marks) }

// epochs are a timeline as a plain row: the epoch at each LSN, from 1 on.
type epochs []int

// line is the timeline that says the same.
func (x epochs) line() line.Line {
	l := line.Line{Last: len(x)}
	for i, epoch := range x {
		if i == 0 || x[i-1] != epoch {
			l.Marks = append(l.Marks, api.Mark{Epoch: epoch, LSN: i + 1})
		}
	}
	return l
}

// at is the epoch at an LSN from 0 on.
func (x epochs) at(lsn int) int {
	if lsn == 0 {
		return 0
	}
	return x[lsn-1]
}

// fork goes from LSN to LSN.
func (x epochs) fork(y epochs) int {
	n := 0
	for n < len(x) && n < len(y) && x[n] == y[n] {
		n++
	}
	return n
}

func (x epochs) newer(y epochs) bool {
	a, b := x.at(len(x)), y.at(len(y))
	if a != b {
		return a > b
	}
	return len(x) > len(y)
}

// grow is a row with n more of one epoch.
func (x epochs) grow(epoch, n int) epochs {
	return append(slices.Clone(x), slices.Repeat([]int{epoch}, n)...)
}

// rows are all rows of up to n epochs below a bound that do not fall.
func rows(n, below int) []epochs {
	all := []epochs{nil}
	longest := all
	for range n {
		var longer []epochs
		for _, x := range longest {
			for epoch := x.at(len(x)); epoch < below; epoch++ {
				longer = append(longer, x.grow(epoch, 1))
			}
		}
		all, longest = append(all, longer...), longer
	}
	return all
}

func wantCheck(t *testing.T, l line.Line, want api.Errno) {
	t.Helper()
	if e := line.Check(l); e != want {
		t.Errorf("Check(%v): %v, not %v", l, e, want)
	}
}

func wantAt(t *testing.T, l line.Line, lsn, want int, wantE api.Errno) {
	t.Helper()
	if n, e := line.At(l, lsn); n != want || e != wantE {
		t.Errorf("At(%v, %d): %d, %v, not %d, %v", l, lsn, n, e, want, wantE)
	}
}

// wantFork is the same both ways.
func wantFork(t *testing.T, a, b line.Line, want int) {
	t.Helper()
	if n, e := line.Fork(a, b); n != want || e != api.OK {
		t.Errorf("Fork(%v, %v): %d, %v, not %d", a, b, n, e, want)
	}
	if n, e := line.Fork(b, a); n != want || e != api.OK {
		t.Errorf("Fork(%v, %v): %d, %v, not %d", b, a, n, e, want)
	}
}

func wantNewer(t *testing.T, a, b line.Line, want bool) {
	t.Helper()
	if ok, e := line.Newer(a, b); ok != want || e != api.OK {
		t.Errorf("Newer(%v, %v): %v, %v, not %v", a, b, ok, e, want)
	}
}

func wantCut(t *testing.T, l line.Line, lsn int, want line.Line, wantE api.Errno) {
	t.Helper()
	if x, e := line.Cut(l, lsn); !same(x, want) || e != wantE {
		t.Errorf("Cut(%v, %d): %v, %v, not %v, %v", l, lsn, x, e, want, wantE)
	}
}

func wantGrow(t *testing.T, l line.Line, epoch, n int, want line.Line, wantE api.Errno) {
	t.Helper()
	if x, e := line.Grow(l, epoch, n); !same(x, want) || e != wantE {
		t.Errorf("Grow(%v, %d, %d): %v, %v, not %v, %v", l, epoch, n, x, e, want, wantE)
	}
}

// 19.1: Check.

// rightOnes are some timelines that are right, those at the bounds among them.
func rightOnes() []line.Line {
	return []line.Line{
		{}, {Marks: []api.Mark{}}, lineOf(1, 0, 1), lineOf(1, 1, 1), lineOf(9, 0, 1), lineOf(9, 7, 1), lineOf(1, most, 1), lineOf(most, 0, 1), lineOf(most, most, 1),
		lineOf(2, 0, 1, 1, 2), lineOf(6, 1, 1, 3, 4), lineOf(4, 1, 1, 3, 4), lineOf(4, 0, 1, 1, 2, 2, 3, 3, 4), lineOf(most, 0, 1, most, most), lineOf(most, most-1, 1, most, 2), lineOf(most, 3, 1, 4, most-1, 5, most), lineOf(9, 5, 1, 70, 3, 800, 4),
	}
}

// wrongOnes are some timelines of which one thing is wrong.
func wrongOnes() []line.Line {
	return []line.Line{
		// no marks, and a last LSN
		lineOf(1), lineOf(2), lineOf(most), lineOf(most + 1), lineOf(math.MaxInt), lineOf(-1), lineOf(math.MinInt), {Marks: []api.Mark{}, Last: 1},
		// marks, and none
		lineOf(0, 1, 1), lineOf(0, 0, 1), lineOf(0, 0, 0), lineOf(0, 1, 1, 2, 2),
		// a last LSN out of its bounds
		lineOf(-1, 1, 1), lineOf(math.MinInt, 1, 1), lineOf(most+1, 1, 1), lineOf(math.MaxInt, 1, 1), lineOf(most+2, 1, 1, 2, most+1),
		// a first mark elsewhere
		lineOf(3, 1, 2), lineOf(3, 1, 0), lineOf(3, 1, -1), lineOf(3, 1, 3), lineOf(3, 1, math.MinInt), lineOf(3, 1, 2, 2, 3), lineOf(3, 1, 0, 2, 1), lineOf(most, 1, most), lineOf(3, 1, math.MaxInt),
		// epochs that stand still or fall
		lineOf(9, 1, 1, 1, 2), lineOf(9, 0, 1, 0, 2), lineOf(9, 2, 1, 1, 2), lineOf(9, 1, 1, 2, 2, 2, 3), lineOf(9, 1, 1, 3, 2, 2, 3), lineOf(9, most, 1, most, 2), lineOf(9, 1, 1, 0, 2), lineOf(9, 1, 1, 2, 2, 1, 3),
		// LSNs that stand still or fall
		lineOf(9, 1, 1, 2, 1), lineOf(9, 1, 1, 2, 0), lineOf(9, 1, 1, 2, -1), lineOf(9, 1, 1, 2, 3, 3, 3), lineOf(9, 1, 1, 2, 3, 3, 2), lineOf(9, 1, 1, 2, 4, 3, 1), lineOf(most, 1, 1, 2, most, 3, most),
		// an LSN above the last one
		lineOf(3, 1, 1, 2, 4), lineOf(1, 1, 1, 2, 2), lineOf(3, 1, 1, 2, 3, 3, 4), lineOf(3, 1, 1, 2, math.MaxInt), lineOf(most, 1, 1, 2, most+1),
		// epochs out of their bounds
		lineOf(3, -1, 1), lineOf(3, math.MinInt, 1), lineOf(3, most+1, 1), lineOf(3, math.MaxInt, 1), lineOf(3, -1, 1, 0, 2), lineOf(3, -2, 1, -1, 2), lineOf(3, 1, 1, most+1, 2), lineOf(3, most, 1, most+1, 2), lineOf(3, 1, 1, math.MaxInt, 3), lineOf(3, 1, 1, -1, 2),
	}
}

func TestCheck(t *testing.T) {
	for _, l := range rightOnes() {
		wantCheck(t, l, api.OK)
	}
	for _, l := range wrongOnes() {
		wantCheck(t, l, api.ErrForm)
	}
}

// Of all small timelines those are right, and no others, that a row of epochs says.
func TestCheckOfAllSmallTimelines(t *testing.T) {
	const longest, below = 3, 3
	said := map[string]bool{}
	for _, x := range rows(longest, below) {
		said[fmt.Sprint(x.line())] = true
	}
	var marks []api.Mark
	for epoch := -1; epoch < below; epoch++ {
		for lsn := -1; lsn <= longest+1; lsn++ {
			marks = append(marks, api.Mark{Epoch: epoch, LSN: lsn})
		}
	}
	right := 0
	lists := [][]api.Mark{nil}
	for range 4 { // from no mark to three
		var longer [][]api.Mark
		for _, l := range lists {
			for last := -1; last <= longest; last++ {
				x := line.Line{Marks: l, Last: last}
				want := api.ErrForm
				if said[fmt.Sprint(x)] {
					want = api.OK
					right++
				}
				wantCheck(t, x, want)
			}
			for _, m := range marks {
				longer = append(longer, append(slices.Clone(l), m))
			}
		}
		lists = longer
	}
	if right != len(said) {
		t.Errorf("%d of %d were looked at", right, len(said))
	}
}

// ErrForm comes first of all, whatever else is wrong.
func TestWrongTimelinesFirst(t *testing.T) {
	numbers := []int{math.MinInt, -1, 0, 1, 2, 4, most - 1, most, most + 1, math.MaxInt}
	wantForm := func(what string, l line.Line, zero bool, e api.Errno) {
		t.Helper()
		if !zero || e != api.ErrForm {
			t.Errorf("%s of %v: %v, all else zero: %v", what, l, e, zero)
		}
	}
	for _, l := range wrongOnes() {
		for _, lsn := range numbers {
			n, e := line.At(l, lsn)
			wantForm("At", l, n == 0, e)
			x, e := line.Cut(l, lsn)
			wantForm("Cut", l, same(x, line.Line{}), e)
			for _, epoch := range numbers {
				x, e := line.Grow(l, epoch, lsn)
				wantForm("Grow", l, same(x, line.Line{}), e)
			}
		}
		for _, other := range append(rightOnes(), wrongOnes()...) {
			for _, both := range [][2]line.Line{{l, other}, {other, l}} {
				n, e := line.Fork(both[0], both[1])
				wantForm("Fork", l, n == 0, e)
				ok, e := line.Newer(both[0], both[1])
				wantForm("Newer", l, !ok, e)
			}
		}
	}
}

// 19.1: At.

func TestAt(t *testing.T) {
	for _, x := range rows(5, 4) {
		l := x.line()
		for lsn := range len(x) + 1 {
			wantAt(t, l, lsn, x.at(lsn), api.OK)
		}
		for _, lsn := range []int{math.MinInt, -2, -1, len(x) + 1, len(x) + 2, most, most + 1, math.MaxInt} {
			wantAt(t, l, lsn, 0, api.ErrNone)
		}
	}
}

func TestAtFarOff(t *testing.T) {
	l := lineOf(most, 0, 1, 7, 1000, 8, most-5, most, most)
	for _, c := range [][2]int{{0, 0}, {1, 0}, {2, 0}, {999, 0}, {1000, 7}, {1001, 7}, {most - 6, 7}, {most - 5, 8}, {most - 4, 8}, {most - 1, 8}, {most, most}} {
		wantAt(t, l, c[0], c[1], api.OK)
	}
	for _, lsn := range []int{math.MinInt, -1, most + 1, math.MaxInt} {
		wantAt(t, l, lsn, 0, api.ErrNone)
	}
	l = lineOf(most, 5, 1)
	for _, c := range [][2]int{{0, 0}, {1, 5}, {most - 1, 5}, {most, 5}} { // at 0 it is 0, also where the first epoch is another one
		wantAt(t, l, c[0], c[1], api.OK)
	}
}

// longRow is a row of random epochs, some of which stay for long.
func longRow(r *rand.Rand, n int) epochs {
	var x epochs
	epoch := r.Intn(3)
	for len(x) < n {
		x = x.grow(epoch, min(1+r.Intn(40), n-len(x)))
		epoch += 1 + r.Intn(5)
	}
	return x
}

func TestAtOfManyMarks(t *testing.T) {
	r := rand.New(rand.NewSource(191))
	for range 20 {
		x := longRow(r, r.Intn(800))
		l := x.line()
		for lsn := range len(x) + 1 {
			wantAt(t, l, lsn, x.at(lsn), api.OK)
		}
	}
}

// A log's marks and its last LSN are a timeline, which tells each record's Epoch.
func TestTimelineOfALog(t *testing.T) {
	for _, x := range rows(4, 4) {
		log := wal.New()
		for _, epoch := range x {
			log.Append(api.Record{Epoch: epoch, Kind: api.ReNoop})
		}
		last, epoch := log.Last()
		l := line.Line{Marks: log.Marks(), Last: last}
		wantCheck(t, l, api.OK)
		wantAt(t, l, last, epoch, api.OK)
		for lsn := 1; lsn <= last; lsn++ {
			r, _ := log.Get(lsn)
			wantAt(t, l, lsn, r.Epoch, api.OK)
		}
	}
}

// 19.1: Fork.

func TestFork(t *testing.T) {
	for _, c := range []struct {
		what string
		a, b line.Line
		want int
	}{
		{"of nothing", lineOf(0), lineOf(0), 0},
		{"of nothing and something", lineOf(0), lineOf(9, 0, 1), 0},
		{"other epochs from 1 on", lineOf(5, 1, 1), lineOf(5, 2, 1), 0},
		{"other epochs, and later the same", lineOf(9, 1, 1, 3, 4), lineOf(9, 2, 1, 3, 4), 0},
		{"the same", lineOf(6, 1, 1, 3, 4), lineOf(6, 1, 1, 3, 4), 6},
		{"the one goes on, in its epoch", lineOf(6, 1, 1, 3, 4), lineOf(8, 1, 1, 3, 4), 6},
		{"the one goes on, in another epoch", lineOf(6, 1, 1, 3, 4), lineOf(8, 1, 1, 3, 4, 4, 7), 6},
		{"the one goes on, in its epoch first", lineOf(6, 1, 1, 3, 4), lineOf(9, 1, 1, 3, 4, 4, 8), 6},
		{"within the first mark's epochs", lineOf(9, 1, 1, 2, 5), lineOf(9, 1, 1, 2, 3), 2},
		{"within them, by a mark of one alone", lineOf(9, 1, 1), lineOf(9, 1, 1, 2, 3), 2},
		{"within them, where the other one ends there", lineOf(2, 1, 1), lineOf(9, 1, 1, 2, 3), 2},
		{"within them, where the other one ends ahead", lineOf(1, 1, 1), lineOf(9, 1, 1, 2, 3), 1},
		{"at a mark of both", lineOf(9, 1, 1, 2, 4), lineOf(9, 1, 1, 3, 4), 3},
		{"at a mark of both, the last LSN", lineOf(4, 1, 1, 2, 4), lineOf(4, 1, 1, 3, 4), 3},
		{"behind a mark of both", lineOf(9, 1, 1, 2, 4, 5, 7), lineOf(9, 1, 1, 2, 4, 6, 6), 5},
		{"part, and have one epoch again", lineOf(9, 1, 1, 2, 3, 5, 6), lineOf(9, 1, 1, 5, 4), 2},
		{"part, and have one mark again", lineOf(9, 1, 1, 2, 3, 5, 6), lineOf(9, 1, 1, 3, 3, 5, 6), 2},
		{"part, and have two marks again", lineOf(9, 1, 1, 2, 3, 5, 6, 6, 7), lineOf(9, 1, 1, 3, 4, 5, 6, 6, 7), 2},
		{"part by a mark more, and have one again", lineOf(9, 1, 1, 5, 6), lineOf(9, 1, 1, 2, 3, 5, 6), 2},
		{"epoch 0 and nothing", lineOf(3, 0, 1), lineOf(0), 0},
		{"far off, the same", lineOf(most, 0, 1, 7, most), lineOf(most, 0, 1, 7, most), most},
		{"far off, at the end of one", lineOf(most, 0, 1), lineOf(most-1, 0, 1), most - 1},
		{"far off, at the last mark", lineOf(most, 0, 1, 7, most), lineOf(most, 0, 1, 8, most), most - 1},
		{"far off, within the last epoch", lineOf(most, 0, 1, 7, 9), lineOf(most, 0, 1, 7, 9, 8, most-3), most - 4},
	} {
		wantFork(t, c.a, c.b, c.want)
		if t.Failed() {
			t.Fatal(c.what)
		}
	}
}

func TestNewer(t *testing.T) {
	for _, c := range []struct {
		what string
		a, b line.Line
		ab   bool // a is newer than b
		ba   bool
	}{
		{"nothing", lineOf(0), lineOf(0), false, false},
		{"something of epoch 0 than nothing", lineOf(1, 0, 1), lineOf(0), true, false},
		{"something than nothing", lineOf(1, 5, 1), lineOf(0), true, false},
		{"the same", lineOf(6, 1, 1, 3, 4), lineOf(6, 1, 1, 3, 4), false, false},
		{"by the last LSN alone", lineOf(7, 1, 1, 3, 4), lineOf(6, 1, 1, 3, 4), true, false},
		{"by the last LSN alone, with another way there", lineOf(7, 3, 1), lineOf(6, 1, 1, 3, 4), true, false},
		{"by the epoch alone", lineOf(6, 1, 1, 4, 4), lineOf(6, 1, 1, 3, 4), true, false},
		{"by the epoch, with fewer LSNs", lineOf(1, 4, 1), lineOf(6, 1, 1, 3, 4), true, false},
		{"by the epoch, with more LSNs", lineOf(9, 4, 1), lineOf(6, 1, 1, 3, 4), true, false},
		{"by neither, with another way there", lineOf(6, 2, 1, 3, 2), lineOf(6, 1, 1, 3, 6), false, false},
		{"by the last epoch, not by more ahead of it", lineOf(6, 1, 1, 5, 6), lineOf(6, 4, 1), true, false},
		{"far off, by the last LSN", lineOf(most, most, 1), lineOf(most-1, most, 1), true, false},
		{"far off, by the epoch", lineOf(1, most, 1), lineOf(most, most-1, 1), true, false},
		{"far off, by the epoch of the last LSN alone", lineOf(most, 1, 1, 2, most), lineOf(most, 1, 1), true, false},
	} {
		wantNewer(t, c.a, c.b, c.ab)
		wantNewer(t, c.b, c.a, c.ba)
		if t.Failed() {
			t.Fatal(c.what)
		}
	}
}

// 19.1, 19.3 and 19.4, of all small timelines in pairs.
func TestPairs(t *testing.T) {
	all := rows(5, 4)
	for _, x := range all {
		a := x.line()
		for _, y := range all {
			b := y.line()
			n := x.fork(y)
			wantFork(t, a, b, n)
			wantNewer(t, a, b, x.newer(y))
			wantForkIsOne(t, a, b)
			wantOrder(t, a, b)
		}
		if t.Failed() {
			return
		}
	}
}

func TestPairsOfLongOnes(t *testing.T) {
	r := rand.New(rand.NewSource(193))
	parted := 0
	for range 400 {
		x := longRow(r, r.Intn(400))
		y := slices.Clone(x[:r.Intn(len(x)+1)])
		if r.Intn(4) > 0 { // it goes on in its own way
			y = y.grow(y.at(len(y))+r.Intn(4), r.Intn(50))
			y = y.grow(y.at(len(y))+r.Intn(4), r.Intn(50))
		}
		a, b := x.line(), y.line()
		n := x.fork(y)
		if n < min(len(x), len(y)) {
			parted++
		}
		wantFork(t, a, b, n)
		wantNewer(t, a, b, x.newer(y))
		wantNewer(t, b, a, y.newer(x))
		wantForkIsOne(t, a, b)
		wantOrder(t, a, b)
	}
	if parted < 100 {
		t.Errorf("only %d parted", parted)
	}
}

// wantForkIsOne holds a fork against what the package's other calls tell of the timelines (19.3).
func wantForkIsOne(t *testing.T, a, b line.Line) {
	t.Helper()
	n, e := line.Fork(a, b)
	back, eBack := line.Fork(b, a)
	if e != api.OK || eBack != api.OK || n != back {
		t.Errorf("Fork(%v, %v): %d, %v; the other way: %d, %v", a, b, n, e, back, eBack)
	}
	for lsn := range n + 1 {
		atA, eA := line.At(a, lsn)
		atB, eB := line.At(b, lsn)
		if atA != atB || eA != api.OK || eB != api.OK {
			t.Errorf("%v and %v fork at %d, but at %d: %d, %v and %d, %v", a, b, n, lsn, atA, eA, atB, eB)
		}
	}
	if n < a.Last && n < b.Last {
		atA, _ := line.At(a, n+1)
		if atB, _ := line.At(b, n+1); atA == atB {
			t.Errorf("%v and %v fork at %d, but behind it both have %d", a, b, n, atA)
		}
	}
	cutA, eA := line.Cut(a, n)
	cutB, eB := line.Cut(b, n)
	if !same(cutA, cutB) || eA != api.OK || eB != api.OK {
		t.Errorf("%v and %v, cut at %d: %v, %v and %v, %v", a, b, n, cutA, eA, cutB, eB)
	}
	if again, _ := line.Fork(cutA, b); again != n {
		t.Errorf("%v, cut at the fork %d with %v, forks at %d", a, n, b, again)
	}
}

// wantOrder holds what is newer against the last epochs and LSNs (19.4).
func wantOrder(t *testing.T, a, b line.Line) {
	t.Helper()
	ab, _ := line.Newer(a, b)
	ba, _ := line.Newer(b, a)
	if ab && ba {
		t.Errorf("%v and %v: each is newer", a, b)
	}
	atA, _ := line.At(a, a.Last)
	atB, _ := line.At(b, b.Last)
	if ends := atA == atB && a.Last == b.Last; ends == (ab || ba) {
		t.Errorf("%v and %v: the same end: %v, newer: %v, %v", a, b, ends, ab, ba)
	}
}

// 19.2: Cut.

func TestCut(t *testing.T) {
	for _, x := range rows(5, 4) {
		l := x.line()
		for lsn := range len(x) + 1 {
			wantCut(t, l, lsn, x[:lsn].line(), api.OK)
			cut, _ := line.Cut(l, lsn)
			wantCheck(t, cut, api.OK)
			wantFork(t, l, cut, lsn)
		}
		for _, lsn := range []int{math.MinInt, -1, len(x) + 1, most, math.MaxInt} {
			wantCut(t, l, lsn, line.Line{}, api.ErrNone)
		}
	}
}

func TestCutFarOff(t *testing.T) {
	l := lineOf(most, 0, 1, 7, 1000, 8, most)
	wantCut(t, l, 0, lineOf(0), api.OK)
	wantCut(t, l, 1, lineOf(1, 0, 1), api.OK)
	wantCut(t, l, 999, lineOf(999, 0, 1), api.OK)
	wantCut(t, l, 1000, lineOf(1000, 0, 1, 7, 1000), api.OK)
	wantCut(t, l, most-1, lineOf(most-1, 0, 1, 7, 1000), api.OK)
	wantCut(t, l, most, l, api.OK)
	wantCut(t, l, most+1, line.Line{}, api.ErrNone)
}

// 19.2: Grow.

func TestGrow(t *testing.T) {
	for _, x := range rows(4, 4) {
		l := x.line()
		for epoch := range 6 {
			for n := range 5 {
				if epoch < x.at(len(x)) { // also by nothing
					wantGrow(t, l, epoch, n, line.Line{}, api.ErrState)
					continue
				}
				wantGrow(t, l, epoch, n, x.grow(epoch, n).line(), api.OK)
				grown, _ := line.Grow(l, epoch, n)
				wantCheck(t, grown, api.OK)
				wantFork(t, l, grown, len(x))
				wantNewer(t, grown, l, n > 0)
				wantCut(t, grown, len(x), l, api.OK)
			}
		}
	}
}

func TestGrowFromNothing(t *testing.T) {
	for _, nothing := range []line.Line{{}, {Marks: []api.Mark{}}} {
		for _, epoch := range []int{0, 1, 7, most - 1, most} {
			wantGrow(t, nothing, epoch, 0, line.Line{}, api.OK)
			for _, n := range []int{1, 2, most - 1, most} {
				wantGrow(t, nothing, epoch, n, lineOf(n, epoch, 1), api.OK)
			}
			wantGrow(t, nothing, epoch, most+1, line.Line{}, api.ErrArg)
		}
	}
}

// What is wrong of n and of epoch is told ahead of an epoch that is below the last one.
func TestGrowLooksAtItsArguments(t *testing.T) {
	for _, l := range rightOnes() {
		last, _ := line.At(l, l.Last)
		room := most - l.Last
		for _, epoch := range []int{math.MinInt, -1, 0, last - 1, last, last + 1, most - 1, most, most + 1, math.MaxInt} {
			for _, n := range []int{math.MinInt, math.MinInt + 1, -most, -1, 0, 1, room - 1, room, room + 1, most, most + 1, math.MaxInt - most, math.MaxInt - 1, math.MaxInt} {
				switch {
				case n < 0 || n > room || epoch < 0 || epoch > most:
					wantGrow(t, l, epoch, n, line.Line{}, api.ErrArg)
				case epoch < last:
					wantGrow(t, l, epoch, n, line.Line{}, api.ErrState)
				default:
					want := line.Line{Marks: slices.Clone(l.Marks), Last: l.Last + n}
					if n > 0 && (epoch > last || len(l.Marks) == 0) {
						want.Marks = append(want.Marks, api.Mark{Epoch: epoch, LSN: l.Last + 1})
					}
					wantGrow(t, l, epoch, n, want, api.OK)
					wantCheck(t, want, api.OK)
				}
			}
		}
	}
}

// Any turns of growing and cutting, beside a plain row.
func TestAnyTurns(t *testing.T) {
	r := rand.New(rand.NewSource(192))
	for range 100 {
		var x epochs
		var l line.Line
		for range 60 {
			var e api.Errno
			if r.Intn(4) == 0 {
				n := r.Intn(len(x) + 1)
				x = x[:n]
				l, e = line.Cut(l, n)
			} else {
				epoch, n := x.at(len(x))+r.Intn(3), r.Intn(6)
				x = x.grow(epoch, n)
				l, e = line.Grow(l, epoch, n)
			}
			if !same(l, x.line()) || e != api.OK {
				t.Fatalf("%v: %v, %v", x, l, e)
			}
		}
	}
}

// R2, R3 and R6

// roomy is a timeline whose marks have spare room, in which something stands.
func roomy(l line.Line) line.Line {
	marks := append(make([]api.Mark, 0, len(l.Marks)+4), l.Marks...)
	room := marks[:cap(marks)]
	for i := len(marks); i < len(room); i++ {
		room[i] = api.Mark{Epoch: 90 + i, LSN: 90 + i}
	}
	return line.Line{Marks: marks, Last: l.Last}
}

// wide is a copy of marks, spare room too.
func wide(l line.Line) []api.Mark { return slices.Clone(l.Marks[:cap(l.Marks)]) }

// wipe writes over marks, spare room too.
func wipe(l line.Line) {
	room := l.Marks[:cap(l.Marks)]
	for i := range room {
		room[i] = api.Mark{Epoch: -7, LSN: -7}
	}
}

func TestNothingIsChangedOrKept(t *testing.T) {
	for _, of := range append(rightOnes(), wrongOnes()...) {
		l := roomy(of)
		was := wide(l)
		other := roomy(lineOf(6, 1, 1, 3, 4))
		wasOther := wide(other)
		right := line.Check(of) == api.OK
		last, _ := line.At(of, of.Last)
		for range 2 { // R6: the same again
			for _, lsn := range []int{-1, 0, 1, of.Last / 2, of.Last, most + 1} {
				at, e := line.At(of, lsn)
				wantAt(t, l, lsn, at, e)
				want, e := line.Cut(of, lsn)
				wantCut(t, l, lsn, want, e)
				cut, _ := line.Cut(l, lsn)
				wipe(cut)
			}
			for _, epoch := range []int{last, last + 1, -1} {
				for _, n := range []int{0, 1, most - of.Last, -1} {
					want, e := line.Grow(of, epoch, n)
					wantGrow(t, l, epoch, n, want, e)
					grown, _ := line.Grow(l, epoch, n)
					wipe(grown)
				}
			}
			if right {
				n, _ := line.Fork(of, lineOf(6, 1, 1, 3, 4))
				wantFork(t, l, other, n)
				newer, _ := line.Newer(of, lineOf(6, 1, 1, 3, 4))
				wantNewer(t, l, other, newer)
			}
			if !slices.Equal(wide(l), was) || !slices.Equal(wide(other), wasOther) {
				t.Fatalf("%v was changed: %v", of, wide(l))
			}
		}
	}
}

func TestAnswersAreNewMemory(t *testing.T) {
	l := roomy(lineOf(9, 0, 1, 2, 4, 3, 7))
	cut, _ := line.Cut(l, 5)
	all, _ := line.Cut(l, 9)
	still, _ := line.Grow(l, 3, 0)
	on, _ := line.Grow(l, 3, 1)
	higher, _ := line.Grow(l, 4, 1)
	answers := []line.Line{cut, all, still, on, higher}
	wants := []line.Line{lineOf(5, 0, 1, 2, 4), lineOf(9, 0, 1, 2, 4, 3, 7), lineOf(9, 0, 1, 2, 4, 3, 7), lineOf(10, 0, 1, 2, 4, 3, 7), lineOf(10, 0, 1, 2, 4, 3, 7, 4, 10)}
	wipe(l)
	for i, x := range answers {
		if !same(x, wants[i]) {
			t.Errorf("an answer hangs on what was handed in, or on another one: %v, not %v", x, wants[i])
		}
		wipe(x)
	}
}

// What stands behind the end of a list is not looked at.
func TestNothingBehindTheEndIsRead(t *testing.T) {
	marks := lineOf(9, 1, 1, 3, 4, 2, 2).Marks
	l := line.Line{Marks: marks[:2], Last: 6}
	wantCheck(t, l, api.OK)
	wantAt(t, l, 6, 3, api.OK)
	wantFork(t, l, lineOf(6, 1, 1, 3, 4), 6)
	l = line.Line{Marks: marks[:0]}
	wantCheck(t, l, api.OK)
	wantAt(t, l, 0, 0, api.OK)
	wantAt(t, l, 1, 0, api.ErrNone)
	wantFork(t, l, lineOf(6, 1, 1, 3, 4), 0)
}

// Nil and empty lists are the same.
func TestNilAndEmpty(t *testing.T) {
	for _, l := range []line.Line{{}, {Marks: []api.Mark{}}} {
		wantCheck(t, l, api.OK)
		wantAt(t, l, 0, 0, api.OK)
		wantAt(t, l, 1, 0, api.ErrNone)
		wantAt(t, l, -1, 0, api.ErrNone)
		wantCut(t, l, 0, line.Line{}, api.OK)
		wantCut(t, l, 1, line.Line{}, api.ErrNone)
		for _, other := range []line.Line{{}, {Marks: []api.Mark{}}} {
			wantFork(t, l, other, 0)
			wantNewer(t, l, other, false)
		}
	}
	for _, l := range []line.Line{{Last: 1}, {Marks: []api.Mark{}, Last: 1}} {
		wantCheck(t, l, api.ErrForm)
	}
}

// The chapter's own example.

func TestExample(t *testing.T) {
	a, b := lineOf(6, 1, 1, 3, 4), lineOf(5, 1, 1, 2, 3)
	wantAt(t, a, 4, 3, api.OK)
	wantFork(t, a, b, 2)
}
