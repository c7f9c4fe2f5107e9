package quorum_test

import (
	"math"
	"math/rand"
	"slices"
	"testing"

	"lattice/api"
	"lattice/quorum"
)

const most = 1 << 40

// numbers are those of which an argument may be one, the edges among them.
var numbers = []int{math.MinInt, math.MinInt + 1, -129, -128, -8, -2, -1, 0, 1, 2, 3, 4, 5, 6, 7, 8, 9, 15, 16, 31, 32, 63, 64, 127, 128, 129, 255, 1 << 32, most, most + 1, 1 << 62, math.MaxInt - 1, math.MaxInt}

// nodesOf are a set's nodes, told by halving it.
func nodesOf(set int) []int {
	var l []int
	for i := 0; set > 0; i, set = i+1, set/2 {
		if set%2 == 1 {
			l = append(l, i)
		}
	}
	return l
}

// isMajority tells whether so many of n are more than half.
func isMajority(count, n int) bool { return 2*count > n }

// wrong is what is wrong with n and with sets, by the chapter's words.
func wrong(n int, sets ...int) api.Errno {
	if n < 1 || n > 7 {
		return api.ErrArg
	}
	for _, set := range sets {
		if set < 0 || len(nodesOf(set)) > 0 && slices.Max(nodesOf(set)) >= n {
			return api.ErrForm
		}
	}
	return api.OK
}

// 21.1

func TestMajority(t *testing.T) {
	wants := map[int]int{1: 1, 2: 2, 3: 2, 4: 3, 5: 3, 6: 4, 7: 4}
	for _, n := range numbers {
		want, err := wants[n], api.OK
		if want == 0 {
			err = api.ErrArg
		}
		if got, e := quorum.Majority(n); got != want || e != err {
			t.Errorf("Majority(%d): %d, %v", n, got, e)
		}
	}
}

func wantCommit(t *testing.T, acks []int, want int, err api.Errno) {
	t.Helper()
	if n, e := quorum.Commit(acks); n != want || e != err {
		t.Errorf("Commit(%v): %d, %v, not %d, %v", acks, n, e, want, err)
	}
}

func TestCommit(t *testing.T) {
	for _, c := range []struct {
		acks []int
		want int
	}{
		{[]int{0}, 0}, {[]int{1}, 1}, {[]int{most - 1}, most - 1}, {[]int{most}, most},
		{[]int{5, 5}, 5}, {[]int{5, 3}, 3}, {[]int{3, 5}, 3}, {[]int{0, most}, 0}, {[]int{most, most}, most},
		{[]int{0, 0, 9}, 0}, {[]int{9, 0, 9}, 9}, {[]int{1, 2, 3}, 2}, {[]int{3, 2, 1}, 2}, {[]int{2, 3, 1}, 2}, {[]int{most, 0, most - 1}, most - 1},
		{[]int{1, 2, 3, 4}, 2}, {[]int{4, 4, 4, 1}, 4}, {[]int{4, 4, 1, 1}, 1},
		{[]int{1, 2, 3, 4, 5}, 3}, {[]int{5, 0, 5, 0, 5}, 5}, {[]int{5, 0, 5, 0, 0}, 0},
		{[]int{1, 2, 3, 4, 5, 6}, 3},
		{[]int{1, 2, 3, 4, 5, 6, 7}, 4}, {[]int{7, 7, 7, 7, 7, 7, 7}, 7}, {[]int{0, 0, 0, 0, 0, 0, 0}, 0}, {[]int{most, most, most, most, most, most, most}, most}, {[]int{most, most, most, 0, 0, 0, 0}, 0}, {[]int{most, 0, most, 0, most, 0, most}, most},
	} {
		wantCommit(t, c.acks, c.want, api.OK)
	}
}

func TestCommitOfNoneAndOfTooMany(t *testing.T) {
	for _, acks := range [][]int{nil, {}, make([]int, 0, 9), make([]int, 8), make([]int, 9), make([]int, 1000), {1, 2, 3, 4, 5, 6, 7, 8}} {
		wantCommit(t, acks, 0, api.ErrArg)
	}
}

func TestCommitOfAWrongOne(t *testing.T) {
	for _, ack := range numbers {
		for count := 1; count <= 7; count++ {
			for i := range count {
				acks := slices.Repeat([]int{6}, count)
				acks[i] = ack
				switch {
				case ack < 0 || ack > most:
					wantCommit(t, acks, 0, api.ErrArg)
				case count == 1:
					wantCommit(t, acks, ack, api.OK)
				case count == 2:
					wantCommit(t, acks, min(ack, 6), api.OK)
				default:
					wantCommit(t, acks, 6, api.OK)
				}
			}
		}
	}
}

// have is how many nodes have the log up to an LSN.
func have(acks []int, lsn int) int {
	count := 0
	for _, ack := range acks {
		if ack >= lsn {
			count++
		}
	}
	return count
}

// allAcks hands on all lists of such acks, of each length up to a greatest one.
func allAcks(of []int, longest int, do func([]int)) {
	var longer func([]int)
	longer = func(acks []int) {
		if len(acks) > 0 {
			do(acks)
		}
		if len(acks) < longest {
			for _, ack := range of {
				longer(append(slices.Clone(acks), ack))
			}
		}
	}
	longer(nil)
}

// The greatest LSN is found by asking each one, from the top on.
func TestCommitOfAllSmallAcks(t *testing.T) {
	allAcks([]int{0, 1, 2, 3}, 7, func(acks []int) {
		want := 4
		for !isMajority(have(acks, want), len(acks)) {
			want--
		}
		wantCommit(t, acks, want, api.OK)
	})
}

// 21.2

func TestHas(t *testing.T) {
	for n := 1; n <= 7; n++ {
		for set := range 1 << n {
			want := isMajority(len(nodesOf(set)), n)
			if got, e := quorum.Has(n, set); got != want || e != api.OK {
				t.Errorf("Has(%d, %b): %v, %v", n, set, got, e)
			}
		}
	}
}

func TestWith(t *testing.T) {
	for n := 1; n <= 7; n++ {
		for set := range 1 << n {
			for i := range n {
				want := nodesOf(set)
				if !slices.Contains(want, i) {
					want = append(want, i)
					slices.Sort(want)
				}
				got, e := quorum.With(n, set, i)
				if !slices.Equal(nodesOf(got), want) || e != api.OK {
					t.Errorf("With(%d, %b, %d): %b, %v", n, set, i, got, e)
				}
			}
		}
	}
}

func TestMembers(t *testing.T) {
	for n := 1; n <= 7; n++ {
		for set := range 1 << n {
			if got, e := quorum.Members(n, set); !slices.Equal(got, nodesOf(set)) || e != api.OK {
				t.Errorf("Members(%d, %b): %v, %v", n, set, got, e)
			}
		}
	}
}

func TestMeet(t *testing.T) {
	for n := 1; n <= 7; n++ {
		for a := range 1 << n {
			for b := range 1 << n {
				want, wantOK := 0, false
				for _, i := range nodesOf(a) {
					if !wantOK && slices.Contains(nodesOf(b), i) {
						want, wantOK = i, true
					}
				}
				if got, ok, e := quorum.Meet(n, a, b); got != want || ok != wantOK || e != api.OK {
					t.Errorf("Meet(%d, %b, %b): %d, %v, %v", n, a, b, got, ok, e)
				}
			}
		}
	}
}

// Errors of n, of sets and of a node, in their order, in all pairings of right and wrong ones.

func TestErrorsInTheirOrder(t *testing.T) {
	for _, n := range numbers {
		for _, set := range numbers {
			err := wrong(n, set)
			if got, e := quorum.Has(n, set); e != err || got && err != api.OK {
				t.Errorf("Has(%d, %d): %v, %v", n, set, got, e)
			}
			if l, e := quorum.Members(n, set); e != err || len(l) > 0 && err != api.OK {
				t.Errorf("Members(%d, %d): %v, %v", n, set, l, e)
			}
			for _, x := range numbers {
				withErr := err
				if withErr == api.OK && (x < 0 || x >= n) {
					withErr = api.ErrNone
				}
				if got, e := quorum.With(n, set, x); e != withErr || got != 0 && withErr != api.OK {
					t.Errorf("With(%d, %d, %d): %d, %v", n, set, x, got, e)
				}
				if i, ok, e := quorum.Meet(n, set, x); e != wrong(n, set, x) || e != api.OK && (i != 0 || ok) {
					t.Errorf("Meet(%d, %d, %d): %d, %v, %v", n, set, x, i, ok, e)
				}
			}
		}
	}
}

func TestSetsThatAreNone(t *testing.T) {
	for n := 1; n <= 7; n++ {
		all := 1<<n - 1
		for _, set := range []int{-1, -all, math.MinInt, 1 << n, 1<<n + 1, all | 1<<n, 1 << (n + 1), 1 << 8, 1<<62 | all, math.MaxInt, math.MinInt | all} {
			if got, e := quorum.Has(n, set); got || e != api.ErrForm {
				t.Errorf("Has(%d, %d): %v, %v", n, set, got, e)
			}
			if got, e := quorum.With(n, set, 0); got != 0 || e != api.ErrForm {
				t.Errorf("With(%d, %d, 0): %v, %v", n, set, got, e)
			}
			if got, e := quorum.With(n, set, -1); got != 0 || e != api.ErrForm {
				t.Errorf("With(%d, %d, -1): %v, %v", n, set, got, e)
			}
			if got, e := quorum.Members(n, set); len(got) != 0 || e != api.ErrForm {
				t.Errorf("Members(%d, %d): %v, %v", n, set, got, e)
			}
			for _, other := range []int{0, all, set} {
				if i, ok, e := quorum.Meet(n, set, other); i != 0 || ok || e != api.ErrForm {
					t.Errorf("Meet(%d, %d, %d): %d, %v, %v", n, set, other, i, ok, e)
				}
				if i, ok, e := quorum.Meet(n, other, set); i != 0 || ok || e != api.ErrForm {
					t.Errorf("Meet(%d, %d, %d): %d, %v, %v", n, other, set, i, ok, e)
				}
			}
		}
		for _, i := range []int{math.MinInt, -1, n, n + 1, 63, 64, 65, math.MaxInt} {
			if got, e := quorum.With(n, all, i); got != 0 || e != api.ErrNone {
				t.Errorf("With(%d, %d, %d): %v, %v", n, all, i, got, e)
			}
		}
	}
}

// 21.3

func TestMajoritiesMeet(t *testing.T) {
	for n := 1; n <= 7; n++ {
		majorities := 0
		for a := range 1 << n {
			for b := range 1 << n {
				hasA, _ := quorum.Has(n, a)
				hasB, _ := quorum.Has(n, b)
				if !hasA || !hasB {
					continue
				}
				majorities++
				i, ok, e := quorum.Meet(n, a, b)
				if !ok || e != api.OK || !slices.Contains(nodesOf(a), i) || !slices.Contains(nodesOf(b), i) {
					t.Errorf("%b and %b of %d: %d, %v, %v", a, b, n, i, ok, e)
				}
			}
		}
		if majorities == 0 {
			t.Errorf("no majority of %d", n)
		}
	}
}

// Majority tells the least one: no set of fewer nodes is one, and each of as many is.
func TestMajorityIsWhatHasAsks(t *testing.T) {
	for n := 1; n <= 7; n++ {
		least, _ := quorum.Majority(n)
		for set := range 1 << n {
			l, _ := quorum.Members(n, set)
			if got, _ := quorum.Has(n, set); got != (len(l) >= least) {
				t.Errorf("Has(%d, %b): %v, of at least %d", n, set, got, least)
			}
		}
	}
}

// 21.4

// setOf is the set of those nodes that have the log up to an LSN, made by With.
func setOf(t *testing.T, acks []int, lsn int) int {
	t.Helper()
	set := 0
	for i, ack := range acks {
		if ack >= lsn {
			with, e := quorum.With(len(acks), set, i)
			if e != api.OK {
				t.Fatalf("With(%d, %d, %d): %v", len(acks), set, i, e)
			}
			set = with
		}
	}
	return set
}

func TestWhatCommitTellsAMajorityHas(t *testing.T) {
	allAcks([]int{0, 1, 3, most - 1, most}, 5, func(acks []int) {
		lsn, e := quorum.Commit(acks)
		if e != api.OK {
			t.Fatalf("Commit(%v): %v", acks, e)
		}
		if ok, e := quorum.Has(len(acks), setOf(t, acks, lsn)); !ok || e != api.OK {
			t.Errorf("no majority of %v has %d: %v", acks, lsn, e)
		}
		for _, greater := range []int{lsn + 1, lsn + 2, most, most + 1} {
			if greater <= lsn {
				continue
			}
			if ok, e := quorum.Has(len(acks), setOf(t, acks, greater)); ok || e != api.OK {
				t.Errorf("a majority of %v has %d, above %d: %v", acks, greater, lsn, e)
			}
		}
	})
}

func TestMoreNeverMakesItLess(t *testing.T) {
	of := []int{0, 1, 2, most}
	allAcks(of, 5, func(acks []int) {
		lsn, _ := quorum.Commit(acks)
		for i := range acks {
			for _, ack := range of {
				more := slices.Clone(acks)
				more[i] = max(more[i], ack)
				if got, e := quorum.Commit(more); got < lsn || e != api.OK {
					t.Errorf("%v: %d; %v: %d, %v", acks, lsn, more, got, e)
				}
			}
		}
	})
	r := rand.New(rand.NewSource(214))
	for range 5000 {
		acks := make([]int, 1+r.Intn(7))
		ahead := 0
		for range 20 {
			acks[r.Intn(len(acks))] += r.Intn(4)
			lsn, e := quorum.Commit(acks)
			if lsn < ahead || e != api.OK || !isMajority(have(acks, lsn), len(acks)) || isMajority(have(acks, lsn+1), len(acks)) {
				t.Fatalf("Commit(%v) behind %d: %d, %v", acks, ahead, lsn, e)
			}
			ahead = lsn
		}
	}
}

func TestCommitInAnyOrder(t *testing.T) {
	r := rand.New(rand.NewSource(215))
	for range 3000 {
		acks := make([]int, 1+r.Intn(7))
		for i := range acks {
			acks[i] = []int{r.Intn(5), r.Intn(1000), most - r.Intn(3), 0}[r.Intn(4)]
		}
		want, e := quorum.Commit(acks)
		if e != api.OK {
			t.Fatalf("Commit(%v): %v", acks, e)
		}
		for range 5 {
			r.Shuffle(len(acks), func(i, j int) { acks[i], acks[j] = acks[j], acks[i] })
			wantCommit(t, acks, want, api.OK)
		}
	}
}

// R3 and R6

func TestAcksStayAsTheyWere(t *testing.T) {
	room := []int{9, 3, 7, 1, most, 0, 5, -1, 4, most + 1}
	was := slices.Clone(room)
	for n := range len(room) {
		one, eOne := quorum.Commit(room[:n]) // others stand behind its end
		two, eTwo := quorum.Commit(room[:n:n])
		if one != two || eOne != eTwo {
			t.Errorf("the same call tells %d, %v and %d, %v", one, eOne, two, eTwo)
		}
		if !slices.Equal(room, was) {
			t.Fatalf("what was handed in was changed: %v", room)
		}
	}
}

func TestMembersShareNothing(t *testing.T) {
	for n := 1; n <= 7; n++ {
		for set := range 1 << n {
			one, _ := quorum.Members(n, set)
			two, _ := quorum.Members(n, set)
			one = one[:cap(one)]
			for i := range one {
				one[i] = -9
			}
			three, _ := quorum.Members(n, set)
			if !slices.Equal(two, nodesOf(set)) || !slices.Equal(three, nodesOf(set)) {
				t.Errorf("Members(%d, %b): two answers share memory", n, set)
			}
		}
	}
}

// P1

func TestAnyAcks(t *testing.T) {
	r := rand.New(rand.NewSource(216))
	seen := map[api.Errno]int{}
	for range 20000 {
		acks := make([]int, r.Intn(10))
		err := api.OK
		if len(acks) < 1 || len(acks) > 7 {
			err = api.ErrArg
		}
		for i := range acks {
			acks[i] = r.Intn(100)
			if r.Intn(8) == 0 {
				acks[i] = numbers[r.Intn(len(numbers))]
			}
			if acks[i] < 0 || acks[i] > most {
				err = api.ErrArg
			}
		}
		n, e := quorum.Commit(acks)
		if e != err || e != api.OK && n != 0 {
			t.Fatalf("Commit(%v): %d, %v", acks, n, e)
		}
		seen[e]++
	}
	if seen[api.OK] < 1000 || seen[api.ErrArg] < 1000 {
		t.Errorf("seen: %v", seen)
	}
}

// The chapter's own examples.

func TestExamples(t *testing.T) {
	if n, e := quorum.Majority(4); n != 3 || e != api.OK {
		t.Errorf("Majority(4): %d, %v", n, e)
	}
	wantCommit(t, []int{5, 3, 9}, 5, api.OK)
	wantCommit(t, []int{5, 3, 9, 1}, 3, api.OK)
	if ok, e := quorum.Has(3, 5); !ok || e != api.OK {
		t.Errorf("Has(3, 5): %v, %v", ok, e)
	}
}
