package vote_test

import (
	"math/rand"
	"slices"
	"testing"

	"lattice/api"
	"lattice/vote"
)

// ballot is a voter's vote in an epoch.
type ballot struct{ voter, epoch int }

// campaign is a node that stood in an epoch, with the tally of its votes.
type campaign struct {
	me, epoch int
	tally     *vote.Tally
}

// election is some voters, what they have voted, and who has stood.
type election struct {
	t         *testing.T
	n         int
	voters    []*vote.Voter
	ends      []api.Mark     // of their logs
	given     map[ballot]int // for whom
	campaigns []campaign
	greatest  []int // the epoch of each voter's promise
}

func newElection(t *testing.T, n, epoch int, ends []api.Mark) *election {
	t.Helper()
	x := &election{t: t, n: n, ends: ends, given: map[ballot]int{}}
	for range n {
		x.voters = append(x.voters, voter(t, promise(epoch, -1)))
		x.greatest = append(x.greatest, epoch)
	}
	return x
}

// write writes down that a voter voted for a node: 22.4.
func (x *election) write(i, epoch, node int) {
	b := ballot{i, epoch}
	if ahead, ok := x.given[b]; ok && ahead != node {
		x.t.Fatalf("%d voted for %d and for %d in epoch %d", i, ahead, node, epoch)
	}
	x.given[b] = node
}

// stand has a node stand.
func (x *election) stand(i int) {
	epoch, e := x.voters[i].Stand(i)
	if e == api.ErrFull && x.voters[i].Promise().Epoch == most {
		return
	}
	if e != api.OK || x.voters[i].Promise() != promise(epoch, i) {
		x.t.Fatalf("Stand(%d): %d, %v", i, epoch, e)
	}
	if _, ok := x.given[ballot{i, epoch}]; ok {
		x.t.Fatalf("%d stands in epoch %d, in which it has voted", i, epoch)
	}
	x.write(i, epoch, i)
	x.campaigns = append(x.campaigns, campaign{i, epoch, tally(x.t, x.n, epoch, i)})
}

// ask has one that stood ask a voter. The vote may be lost on its way, or come twice.
func (x *election) ask(c campaign, to, comes int) {
	if !x.voters[to].Ask(c.me, c.epoch, x.ends[c.me], x.ends[to]) {
		return
	}
	if x.voters[to].Promise() != promise(c.epoch, c.me) {
		x.t.Fatalf("%d voted for %d in %d: %v", to, c.me, c.epoch, x.voters[to].Promise())
	}
	x.write(to, c.epoch, c.me)
	for range comes {
		if !c.tally.Vote(to, c.epoch) {
			x.t.Fatalf("the vote of %d does not count", to)
		}
	}
}

// comeBack has a voter come back with its promise as it was written.
func (x *election) comeBack(i int) {
	p := x.voters[i].Promise()
	b, e := vote.Encode(p)
	if e != api.OK {
		x.t.Fatalf("Encode(%v): %v", p, e)
	}
	read, e := vote.Decode(b)
	if e != api.OK || read != p {
		x.t.Fatalf("Decode of %v: %v, %v", p, read, e)
	}
	x.voters[i] = voter(x.t, read)
}

// look looks whether an epoch fell (22.6), and whether two have won one epoch (22.5).
func (x *election) look() {
	for i, v := range x.voters {
		p := v.Promise()
		if p.Epoch < x.greatest[i] || !isPromise(p) {
			x.t.Fatalf("the promise of %d: %v behind %d", i, p, x.greatest[i])
		}
		x.greatest[i] = p.Epoch
		if node, ok := x.given[ballot{i, p.Epoch}]; p.For != -1 && (!ok || node != p.For) || p.For == -1 && ok {
			x.t.Fatalf("the promise of %d: %v, and it voted %v", i, p, x.given)
		}
	}
	winner := map[int]int{}
	for _, c := range x.campaigns {
		if !c.tally.Won() {
			continue
		}
		votes := 0
		for i := range x.n {
			if node, ok := x.given[ballot{i, c.epoch}]; ok && node == c.me {
				votes++
			}
		}
		if 2*votes <= x.n {
			x.t.Fatalf("%d has won epoch %d of %d nodes with %d votes", c.me, c.epoch, x.n, votes)
		}
		if ahead, ok := winner[c.epoch]; ok && ahead != c.me {
			x.t.Fatalf("%d and %d have won epoch %d", ahead, c.me, c.epoch)
		}
		winner[c.epoch] = c.me
	}
}

// turn does one of the things that may happen, numbered from 0 on, and tells whether there was such a one.
func (x *election) turn(number int) bool {
	switch n := x.n; {
	case number < n:
		x.stand(number)
	case number < 2*n:
		x.comeBack(number - n)
	case number < 2*n+len(x.campaigns)*n:
		number -= 2 * n
		x.ask(x.campaigns[number/n], number%n, 1)
	default:
		return false
	}
	x.look()
	return true
}

// allTurns goes through all turns of so many, and counts them and the elections that were won in them.
func allTurns(t *testing.T, n, epoch, longest int, ends []api.Mark) (int, int) {
	t.Helper()
	count, won := 0, 0
	var longer func([]int)
	longer = func(turns []int) {
		for number := 0; ; number++ {
			x := newElection(t, n, epoch, ends)
			for _, ahead := range turns {
				x.turn(ahead)
			}
			if !x.turn(number) {
				return
			}
			count++
			if slices.ContainsFunc(x.campaigns, func(c campaign) bool { return c.tally.Won() }) {
				won++
			}
			if len(turns)+1 < longest {
				longer(append(slices.Clone(turns), number))
			}
		}
	}
	longer(nil)
	return count, won
}

// 22.4, 22.5 and 22.6 in all short turns of voters that stand, ask one another and come back.
func TestAllShortTurns(t *testing.T) {
	same, rising := mark(1, 1), []api.Mark{mark(1, 1), mark(1, 2), mark(2, 1)}
	for _, c := range []struct {
		n, epoch, longest int
		ends              []api.Mark
	}{
		{1, 0, 6, []api.Mark{same}},
		{2, 0, 5, []api.Mark{same, same}},
		{2, most - 2, 5, []api.Mark{same, same}},
		{2, 3, 5, rising[:2]},
		{3, 0, 5, []api.Mark{same, same, same}},
		{3, most - 1, 4, []api.Mark{same, same, same}},
		{3, 0, 4, rising},
	} {
		count, won := allTurns(t, c.n, c.epoch, c.longest, c.ends)
		if count < 100 || won == 0 {
			t.Errorf("%v: %d turns, %d won", c, count, won)
		}
	}
}

// The same at random, of up to 7 voters, with epochs that are seen, votes that are lost or come twice, and logs that grow.
func TestLongTurns(t *testing.T) {
	r := rand.New(rand.NewSource(225))
	won := 0
	for range 3000 {
		n := 1 + r.Intn(7)
		ends := make([]api.Mark, n)
		for i := range ends {
			ends[i] = mark(r.Intn(2), r.Intn(3))
		}
		x := newElection(t, n, []int{0, 5, most - 3}[r.Intn(3)], ends)
		for range 60 {
			i := r.Intn(n)
			switch what := r.Intn(12); {
			case what == 0 || len(x.campaigns) == 0:
				x.stand(i)
			case what == 1:
				x.comeBack(i)
			case what == 2:
				p := x.voters[i].Promise()
				epoch := p.Epoch + r.Intn(4) - 2
				if got := x.voters[i].See(epoch); got != (epoch > p.Epoch && epoch <= most) {
					t.Fatalf("%v: See(%d): %v", p, epoch, got)
				}
			case what == 3:
				x.ends[i].LSN++
			default:
				late := max(0, len(x.campaigns)-1-r.Intn(3))
				x.ask(x.campaigns[late], i, r.Intn(3))
			}
			x.look()
		}
		won += len(slices.DeleteFunc(x.campaigns, func(c campaign) bool { return !c.tally.Won() }))
	}
	if won < 3000 {
		t.Errorf("%d were won", won)
	}
}

// Asks of all kinds in all short rows, with a voter that comes back between them, against the chapter's words and 22.4.
func TestAllShortRowsOfAsks(t *testing.T) {
	type ask struct {
		from, epoch int
		end         api.Mark
	}
	var asks []ask
	for _, from := range []int{0, 1, 6, 7} {
		for _, epoch := range []int{2, 3, 4} {
			asks = append(asks, ask{from, epoch, mark(2, 8)}, ask{from, epoch, mark(2, 7)})
		}
	}
	var longer func([]ask)
	longer = func(row []ask) {
		for _, back := range []bool{false, true} {
			v := voter(t, promise(2, -1))
			given := map[int]int{}
			for _, a := range row {
				if back {
					v = voter(t, v.Promise())
				}
				if !wantAsk(t, v, a.from, a.epoch, a.end, mark(2, 8)) {
					continue
				}
				if ahead, ok := given[a.epoch]; ok && ahead != a.from {
					t.Fatalf("votes for %d and %d in %d: %v", ahead, a.from, a.epoch, row)
				}
				given[a.epoch] = a.from
			}
		}
		if len(row) < 3 {
			for _, a := range asks {
				longer(append(slices.Clone(row), a))
			}
		}
	}
	longer(nil)
}
