package session_test

import (
	"math"
	"math/rand"
	"slices"
	"testing"

	"lattice/api"
	"lattice/session"
)

// A request's states.
const (
	unknown = 0
	waiting = 1
	done    = 2
)

func wantWait(t *testing.T, x *session.Table, req, lsn int, want api.Errno) {
	t.Helper()
	if e := x.Wait(req, lsn); e != want {
		t.Errorf("Wait(%d, %d): %v, not %v", req, lsn, e, want)
	}
}

func wantState(t *testing.T, x *session.Table, req, want int) {
	t.Helper()
	if got := x.State(req); got != want {
		t.Errorf("State(%d): %d, not %d", req, got, want)
	}
}

func wantWaiting(t *testing.T, x *session.Table, want int) {
	t.Helper()
	if got := x.Waiting(); got != want {
		t.Errorf("Waiting: %d, not %d", got, want)
	}
}

func wantSettle(t *testing.T, x *session.Table, commit int, want ...int) {
	t.Helper()
	if got := x.Settle(commit); !slices.Equal(got, want) {
		t.Errorf("Settle(%d): %v, not %v", commit, got, want)
	}
}

func wantLeave(t *testing.T, x *session.Table, want ...int) {
	t.Helper()
	if got := x.Leave(); !slices.Equal(got, want) {
		t.Errorf("Leave: %v, not %v", got, want)
	}
}

// of is a table in which requests wait: numbers and LSNs, in turns.
func of(t *testing.T, l ...int) *session.Table {
	t.Helper()
	x := session.New()
	for i := 0; i < len(l); i += 2 {
		wantWait(t, x, l[i], l[i+1], api.OK)
	}
	return x
}

// 24.1

func TestNew(t *testing.T) {
	x := session.New()
	for _, req := range []int{math.MinInt, -1, 0, 1, 2, api.MaxReq, api.MaxReq + 1, math.MaxInt} {
		wantState(t, x, req, unknown)
	}
	wantWaiting(t, x, 0)
	wantSettle(t, x, api.MaxLSN)
	wantLeave(t, x)
	wantWait(t, x, 1, 1, api.OK)
	wantState(t, session.New(), 1, unknown)
}

func TestWaitTakesWhatIsInItsBounds(t *testing.T) {
	reqs := map[int]bool{math.MinInt: false, -1: false, 0: false, 1: true, 2: true, api.MaxReq - 1: true, api.MaxReq: true, api.MaxReq + 1: false, math.MaxInt: false}
	lsns := map[int]bool{math.MinInt: false, -1: false, 0: false, 1: true, 2: true, api.MaxLSN - 1: true, api.MaxLSN: true, api.MaxLSN + 1: false, math.MaxInt: false}
	for req, reqOK := range reqs {
		for lsn, lsnOK := range lsns {
			x := session.New()
			if !reqOK || !lsnOK {
				wantWait(t, x, req, lsn, api.ErrArg)
				wantState(t, x, req, unknown)
				wantWaiting(t, x, 0)
				continue
			}
			wantWait(t, x, req, lsn, api.OK)
			wantState(t, x, req, waiting)
			wantWaiting(t, x, 1)
			wantSettle(t, x, lsn-1)
			wantState(t, x, req, waiting)
			wantSettle(t, x, lsn, req)
			wantState(t, x, req, done)
			wantWaiting(t, x, 0)
		}
	}
}

func TestWaitOfARequestThatIsKnown(t *testing.T) {
	x := of(t, 7, 3, 5, 9)
	for _, lsn := range []int{1, 3, 4, api.MaxLSN} {
		wantWait(t, x, 7, lsn, api.ErrState)
	}
	wantWaiting(t, x, 2)
	wantSettle(t, x, 2)
	wantSettle(t, x, 3, 7) // it waited at 3 still
	for _, lsn := range []int{1, 3, 4, api.MaxLSN} {
		wantWait(t, x, 7, lsn, api.ErrState)
		wantState(t, x, 7, done)
	}
	wantLeave(t, x, 5)
	wantState(t, x, 7, done)
	wantState(t, x, 5, unknown)
	wantWait(t, x, 7, 1, api.ErrState)
	wantWait(t, x, 5, 1, api.OK) // another LSN than ahead
	wantState(t, x, 5, waiting)
	wantWait(t, x, 5, 1, api.ErrState)
	wantSettle(t, x, 1, 5)
	wantWait(t, x, 5, 2, api.ErrState)
	wantWaiting(t, x, 0)
}

func TestAsManyAsMayWait(t *testing.T) {
	if session.MaxWaiting != 1024 {
		t.Fatal(session.MaxWaiting)
	}
	x := session.New()
	for i := range 1024 {
		wantWaiting(t, x, i)
		wantWait(t, x, i+1, 1+i/2, api.OK)
	}
	for range 2 {
		wantWait(t, x, 1025, 1, api.ErrFull)
		wantState(t, x, 1025, unknown)
		wantWaiting(t, x, 1024)
	}
	wantSettle(t, x, 1, 1, 2)
	wantWait(t, x, 1025, 512, api.OK)
	wantWait(t, x, 1, 512, api.ErrState)
	wantWait(t, x, 1026, 513, api.OK)
	wantWait(t, x, 1027, 1, api.ErrFull)
	if l := x.Leave(); len(l) != 1024 || l[0] != 3 || l[1022] != 1025 || l[1023] != 1026 || !slices.IsSorted(l) {
		t.Errorf("Leave: %v", l)
	}
	wantWaiting(t, x, 0)
	wantWait(t, x, 1027, 1, api.OK)
	wantWait(t, x, 1, 1, api.ErrState)
	// Done ones take no room.
	x = session.New()
	for i := range 5000 {
		wantWait(t, x, i+1, i+1, api.OK)
		if i >= 1000 {
			wantSettle(t, x, i-999, i-999)
		}
	}
	wantWaiting(t, x, 1000)
}

// ErrArg, then ErrState, then ErrFull.
func TestErrorsOfWaitInTheirOrder(t *testing.T) {
	x := session.New()
	for i := range 1024 {
		wantWait(t, x, i+1, 2, api.OK)
	}
	wantSettle(t, x, 1)
	wantWait(t, x, 1, 0, api.ErrArg)
	wantWait(t, x, 0, 1, api.ErrArg)
	wantWait(t, x, api.MaxReq+1, 1, api.ErrArg)
	wantWait(t, x, 2000, api.MaxLSN+1, api.ErrArg)
	wantWait(t, x, 1, 1, api.ErrState)
	wantWait(t, x, 1024, api.MaxLSN, api.ErrState)
	wantWait(t, x, 1025, 1, api.ErrFull)
	y := of(t, 9, 1)
	wantSettle(t, y, 1, 9)
	for i := range 1024 {
		wantWait(t, y, i+100, 2, api.OK)
	}
	wantWait(t, y, 9, 0, api.ErrArg)
	wantWait(t, y, 9, 1, api.ErrState) // done, and full
	wantWait(t, y, 10, 1, api.ErrFull)
	wantWaiting(t, y, 1024)
}

func TestSettle(t *testing.T) {
	fill := func() *session.Table { return of(t, 7, 4, 9, 2, 3, 8, 5, 4, 8, 2, 1, 6, 2, api.MaxLSN) }
	for _, c := range []struct {
		commit int
		want   []int
	}{
		{math.MinInt, nil}, {-1, nil}, {0, nil}, {1, nil}, {2, []int{8, 9}}, {3, []int{8, 9}}, {4, []int{8, 9, 5, 7}}, {5, []int{8, 9, 5, 7}}, {6, []int{8, 9, 5, 7, 1}}, {8, []int{8, 9, 5, 7, 1, 3}},
		{9, []int{8, 9, 5, 7, 1, 3}}, {api.MaxLSN - 1, []int{8, 9, 5, 7, 1, 3}}, {api.MaxLSN, []int{8, 9, 5, 7, 1, 3, 2}}, {api.MaxLSN + 1, []int{8, 9, 5, 7, 1, 3, 2}}, {math.MaxInt, []int{8, 9, 5, 7, 1, 3, 2}},
	} {
		x := fill()
		wantSettle(t, x, c.commit, c.want...)
		wantWaiting(t, x, 7-len(c.want))
		for _, req := range []int{7, 9, 3, 5, 8, 1, 2} {
			want := waiting
			if slices.Contains(c.want, req) {
				want = done
			}
			wantState(t, x, req, want)
		}
		wantSettle(t, x, c.commit)
		rest := slices.DeleteFunc([]int{8, 9, 5, 7, 1, 3, 2}, func(req int) bool { return slices.Contains(c.want, req) })
		wantLeave(t, x, rest...)
		wantWaiting(t, x, 0)
		for _, req := range rest {
			wantState(t, x, req, unknown)
		}
		for _, req := range c.want {
			wantState(t, x, req, done)
		}
	}
	x := fill()
	wantLeave(t, x, 8, 9, 5, 7, 1, 3, 2)
	wantLeave(t, x)
	wantSettle(t, x, math.MaxInt)
}

// What waits at an LSN that was committed already is done with the next Settle, also of a lesser commit.
func TestSettleAgain(t *testing.T) {
	x := of(t, 1, 5)
	wantSettle(t, x, 9, 1)
	wantWait(t, x, 2, 3, api.OK)
	wantState(t, x, 2, waiting)
	wantSettle(t, x, 2)
	wantSettle(t, x, 3, 2)
	wantSettle(t, x, 9)
}

// The order hangs neither on when they came nor on how a map is gone through.
func TestTheOrder(t *testing.T) {
	r := rand.New(rand.NewSource(24))
	for range 200 {
		n := 1 + r.Intn(60)
		type wait struct{ lsn, req int }
		var all []wait
		for _, req := range r.Perm(3 * n)[:n] {
			all = append(all, wait{1 + r.Intn(9), req + 1})
		}
		commit := r.Intn(11)
		x, y := session.New(), session.New()
		for _, w := range all {
			wantWait(t, x, w.req, w.lsn, api.OK)
			wantWait(t, y, w.req, w.lsn, api.OK)
		}
		slices.SortFunc(all, func(a, b wait) int {
			if a.lsn != b.lsn {
				return a.lsn - b.lsn
			}
			return a.req - b.req
		})
		var settled, left, reqs []int
		for _, w := range all {
			reqs = append(reqs, w.req)
			if w.lsn <= commit {
				settled = append(settled, w.req)
			} else {
				left = append(left, w.req)
			}
		}
		wantSettle(t, x, commit, settled...)
		wantLeave(t, x, left...)
		wantLeave(t, y, reqs...)
	}
}

// 24.1 and 24.3 against plain rows.

// plain is a table by the chapter's words.
type plain struct {
	reqs, lsns []int // those that wait, as they came
	done       []int
}

func (p *plain) state(req int) int {
	switch {
	case slices.Contains(p.reqs, req):
		return waiting
	case slices.Contains(p.done, req):
		return done
	}
	return unknown
}

func (p *plain) wait(req, lsn int) api.Errno {
	switch {
	case req < 1 || req > 1<<40 || lsn < 1 || lsn > 1<<40:
		return api.ErrArg
	case p.state(req) != unknown:
		return api.ErrState
	case len(p.reqs) >= 1024:
		return api.ErrFull
	}
	p.reqs, p.lsns = append(p.reqs, req), append(p.lsns, lsn)
	return api.OK
}

// take takes the least that waits up to an LSN out, again and again.
func (p *plain) take(most int) []int {
	var out []int
	for {
		least := -1
		for i := range p.reqs {
			if p.lsns[i] <= most && (least < 0 || p.lsns[i] < p.lsns[least] || p.lsns[i] == p.lsns[least] && p.reqs[i] < p.reqs[least]) {
				least = i
			}
		}
		if least < 0 {
			return out
		}
		out = append(out, p.reqs[least])
		p.reqs, p.lsns = slices.Delete(p.reqs, least, least+1), slices.Delete(p.lsns, least, least+1)
	}
}

func (p *plain) settle(commit int) []int {
	l := p.take(commit)
	p.done = append(p.done, l...)
	return l
}

// pair is a table, and a plain one that is told the same.
type pair struct {
	t     *testing.T
	table *session.Table
	plain plain
	told  map[int]int // how often Settle told a request
}

func newPair(t *testing.T) *pair { return &pair{t: t, table: session.New(), told: map[int]int{}} }

func (x *pair) wait(req, lsn int) {
	x.t.Helper()
	was := x.table.State(req)
	e := x.table.Wait(req, lsn)
	if want := x.plain.wait(req, lsn); e != want {
		x.t.Fatalf("Wait(%d, %d): %v, not %v", req, lsn, e, want)
	}
	if e == api.OK && was != unknown || e != api.OK && x.table.State(req) != was {
		x.t.Fatalf("Wait(%d, %d): %v, and it was %d", req, lsn, e, was)
	}
}

func (x *pair) settle(commit int) {
	x.t.Helper()
	got := x.table.Settle(commit)
	if want := x.plain.settle(commit); !slices.Equal(got, want) {
		x.t.Fatalf("Settle(%d): %v, not %v", commit, got, want)
	}
	for _, req := range got {
		x.told[req]++
		if x.told[req] > 1 {
			x.t.Fatalf("Settle told %d twice", req)
		}
	}
}

func (x *pair) leave() {
	x.t.Helper()
	if got, want := x.table.Leave(), x.plain.take(math.MaxInt); !slices.Equal(got, want) {
		x.t.Fatalf("Leave: %v, not %v", got, want)
	}
}

// look looks whether both know the same.
func (x *pair) look(reqs int) {
	x.t.Helper()
	for req := range reqs + 2 {
		if got, want := x.table.State(req), x.plain.state(req); got != want {
			x.t.Fatalf("State(%d): %d, not %d", req, got, want)
		}
	}
	if got, want := x.table.Waiting(), len(x.plain.reqs); got != want {
		x.t.Fatalf("Waiting: %d, not %d", got, want)
	}
}

// All short turns of two requests at two LSNs, with numbers of none among them.
func TestAllShortTurns(t *testing.T) {
	var turns []func(*pair)
	for req := range 3 {
		for lsn := range 3 {
			turns = append(turns, func(x *pair) { x.wait(req, lsn) })
		}
	}
	for commit := range 3 {
		turns = append(turns, func(x *pair) { x.settle(commit) })
	}
	turns = append(turns, (*pair).leave)
	count := 0
	var longer func([]int)
	longer = func(row []int) {
		x := newPair(t)
		for _, i := range row {
			turns[i](x)
		}
		x.look(2)
		count++
		if len(row) < 4 {
			for i := range turns {
				longer(append(slices.Clone(row), i))
			}
		}
	}
	longer(nil)
	if count < 10000 {
		t.Errorf("%d turns", count)
	}
}

// Long turns, also of tables that are full at times.
func TestLongTurns(t *testing.T) {
	r := rand.New(rand.NewSource(243))
	full := 0
	for turn := range 60 {
		x := newPair(t)
		reqs, lsns, length, seldom := 12, 9, 300, 8
		if turn%20 == 0 {
			reqs, lsns, length, seldom = 3000, 400, 6000, 1500
		}
		for range length {
			switch what := r.Intn(seldom); {
			case what == 0:
				x.settle(r.Intn(lsns+3) - 1)
			case what == 1 && r.Intn(2) == 0:
				x.leave()
			default:
				x.wait(r.Intn(reqs+2), r.Intn(lsns+2))
			}
			if x.table.Waiting() == session.MaxWaiting {
				full++
			}
			if reqs < 100 {
				x.look(reqs)
			}
		}
		x.look(reqs)
	}
	if full < 100 {
		t.Errorf("full %d times", full)
	}
}

// 24.2

func wantRead(t *testing.T, s *session.Session, node, point int, want bool, wantE api.Errno) {
	t.Helper()
	if ok, e := s.Read(node, point); ok != want || e != wantE {
		t.Errorf("Read(%d, %d): %v, %v, not %v, %v", node, point, ok, e, want, wantE)
	}
}

func wantFloor(t *testing.T, s *session.Session, node, want int) {
	t.Helper()
	if got := s.Floor(node); got != want {
		t.Errorf("Floor(%d): %d, not %d", node, got, want)
	}
}

func wantAgain(t *testing.T, s *session.Session, node int, want api.Errno) {
	t.Helper()
	if e := s.Again(node); e != want {
		t.Errorf("Again(%d): %v, not %v", node, e, want)
	}
}

// noNodes are numbers of no node.
var noNodes = []int{math.MinInt, -2, -1, 7, 8, 4096, math.MaxInt}

func TestBegin(t *testing.T) {
	s := session.Begin()
	for node := range 7 {
		wantFloor(t, s, node, 0)
		wantRead(t, s, node, 0, true, api.OK)
		wantFloor(t, s, node, 0)
	}
	wantRead(t, s, 3, 9, true, api.OK)
	wantFloor(t, session.Begin(), 3, 0)
	for _, node := range noNodes {
		wantFloor(t, s, node, 0)
	}
}

func TestReadTakesWhatIsInItsBounds(t *testing.T) {
	for point, right := range map[int]bool{math.MinInt: false, -1: false, 0: true, 1: true, api.MaxLSN - 1: true, api.MaxLSN: true, api.MaxLSN + 1: false, math.MaxInt: false} {
		for _, node := range noNodes {
			wantRead(t, session.Begin(), node, point, false, api.ErrArg)
		}
		for node := range api.MaxNodes {
			s := session.Begin()
			if !right {
				wantRead(t, s, node, 5, true, api.OK)
				wantRead(t, s, node, point, false, api.ErrArg)
				wantFloor(t, s, node, 5)
				continue
			}
			wantRead(t, s, node, point, true, api.OK)
			for other := range api.MaxNodes {
				if other != node {
					wantFloor(t, s, other, 0)
				}
			}
			wantFloor(t, s, node, point)
		}
	}
}

func TestReadAboveItsFloor(t *testing.T) {
	s := session.Begin()
	for _, c := range []struct {
		point int
		ok    bool
		floor int
	}{
		{5, true, 5}, {4, false, 5}, {0, false, 5}, {5, true, 5}, {6, true, 6}, {5, false, 6}, {6, true, 6}, {api.MaxLSN - 1, true, api.MaxLSN - 1}, {api.MaxLSN - 2, false, api.MaxLSN - 1}, {api.MaxLSN, true, api.MaxLSN}, {api.MaxLSN - 1, false, api.MaxLSN}, {api.MaxLSN, true, api.MaxLSN}, {0, false, api.MaxLSN},
	} {
		wantRead(t, s, 2, c.point, c.ok, api.OK)
		wantFloor(t, s, 2, c.floor)
		wantFloor(t, s, 1, 0)
	}
}

func TestAgain(t *testing.T) {
	s := session.Begin()
	for node := range api.MaxNodes {
		wantAgain(t, s, node, api.OK) // ahead of a read
		wantFloor(t, s, node, 0)
		wantRead(t, s, node, node+3, true, api.OK)
		wantRead(t, s, node, 1, false, api.OK)
	}
	for _, node := range noNodes {
		wantAgain(t, s, node, api.ErrArg)
	}
	for node := range api.MaxNodes {
		for other := range api.MaxNodes {
			want := other + 3
			if other < node {
				want = 1
			}
			wantFloor(t, s, other, want)
		}
		wantAgain(t, s, node, api.OK) // behind one
		wantFloor(t, s, node, 0)
		wantAgain(t, s, node, api.OK)
		wantRead(t, s, node, 0, true, api.OK)
		wantRead(t, s, node, 1, true, api.OK)
		wantRead(t, s, node, 0, false, api.OK)
	}
}

// 24.2 and 24.4: all short turns of reads and Agains on two nodes, and long ones at random.

// reader is a session, its floors by the chapter's words, and what it has read of each node since its last Again.
type reader struct {
	t       *testing.T
	session *session.Session
	floors  [api.MaxNodes]int
	points  [api.MaxNodes][]int
}

func (x *reader) read(node, point int) {
	x.t.Helper()
	ok, e := x.session.Read(node, point)
	if want := point >= x.floors[node]; ok != want || e != api.OK {
		x.t.Fatalf("Read(%d, %d) at floor %d: %v, %v", node, point, x.floors[node], ok, e)
	}
	if ok {
		x.floors[node] = point
		x.points[node] = append(x.points[node], point)
	}
}

func (x *reader) again(node int) {
	x.t.Helper()
	if e := x.session.Again(node); e != api.OK {
		x.t.Fatalf("Again(%d): %v", node, e)
	}
	x.floors[node], x.points[node] = 0, nil
}

func (x *reader) look() {
	x.t.Helper()
	for node := range api.MaxNodes {
		if x.session.Floor(node) != x.floors[node] || !slices.IsSorted(x.points[node]) {
			x.t.Fatalf("node %d: floor %d, not %d; read %v", node, x.session.Floor(node), x.floors[node], x.points[node])
		}
	}
}

func TestAllShortTurnsOfReads(t *testing.T) {
	var turns []func(*reader)
	for _, node := range []int{0, 6} {
		for _, point := range []int{0, 1, 2, api.MaxLSN} {
			turns = append(turns, func(x *reader) { x.read(node, point) })
		}
		turns = append(turns, func(x *reader) { x.again(node) })
	}
	var longer func([]int)
	longer = func(row []int) {
		x := &reader{t: t, session: session.Begin()}
		for _, i := range row {
			turns[i](x)
		}
		x.look()
		if len(row) < 4 {
			for i := range turns {
				longer(append(slices.Clone(row), i))
			}
		}
	}
	longer(nil)
}

func TestLongTurnsOfReads(t *testing.T) {
	r := rand.New(rand.NewSource(244))
	for range 200 {
		x := &reader{t: t, session: session.Begin()}
		for range 200 {
			if node := r.Intn(api.MaxNodes); r.Intn(20) == 0 {
				x.again(node)
			} else {
				x.read(node, r.Intn(3)+r.Intn(2)*x.floors[node])
			}
			x.look()
		}
	}
}

// A nil table, a nil session, and ones that nobody made.

func TestANilTable(t *testing.T) {
	var x *session.Table
	for range 2 {
		for _, req := range []int{math.MinInt, -1, 0, api.MaxReq + 1} {
			wantWait(t, x, req, 1, api.ErrArg)
			wantState(t, x, req, unknown)
		}
		for _, lsn := range []int{math.MinInt, -1, 0, api.MaxLSN + 1} {
			wantWait(t, x, 1, lsn, api.ErrArg)
		}
		wantWait(t, x, 1, 1, api.ErrFull)
		wantWait(t, x, api.MaxReq, api.MaxLSN, api.ErrFull)
		wantState(t, x, 1, unknown)
		wantWaiting(t, x, 0)
		wantLeave(t, x)
		for _, commit := range []int{math.MinInt, 0, 1, math.MaxInt} {
			wantSettle(t, x, commit)
		}
	}
}

func TestANilSession(t *testing.T) {
	var s *session.Session
	for range 2 {
		for _, node := range noNodes {
			wantRead(t, s, node, 0, false, api.ErrArg)
			wantFloor(t, s, node, 0)
			wantAgain(t, s, node, api.ErrArg)
		}
		for node := range api.MaxNodes {
			wantRead(t, s, node, -1, false, api.ErrArg)
			wantRead(t, s, node, api.MaxLSN+1, false, api.ErrArg)
			wantRead(t, s, node, 0, false, api.OK)
			wantRead(t, s, node, api.MaxLSN, false, api.OK)
			wantFloor(t, s, node, 0)
			wantAgain(t, s, node, api.ErrState)
		}
	}
}

// No call panics, also of what New and Begin did not make.
func TestZeroValues(t *testing.T) {
	x := &session.Table{}
	wantLeave(t, x)
	wantSettle(t, x, 9)
	wantState(t, x, 1, unknown)
	wantWaiting(t, x, 0)
	wantWait(t, x, 1, 1, api.OK)
	wantSettle(t, x, 9, 1)
	s := &session.Session{}
	wantRead(t, s, 6, 4, true, api.OK)
	wantFloor(t, s, 6, 4)
}

// R3, R6

// wipe writes over a list, spare room too.
func wipe(l []int) {
	l = l[:cap(l)]
	for i := range l {
		l[i] = 77
	}
}

func TestAnswersAreNewMemory(t *testing.T) {
	x := of(t, 1, 1, 2, 1, 3, 1, 4, 5, 5, 5, 6, 5, 8, 6)
	one := x.Settle(1)
	two := x.Settle(5)
	three := x.Leave()
	wipe(one)
	if !slices.Equal(two, []int{4, 5, 6}) || !slices.Equal(three, []int{8}) {
		t.Errorf("two answers share memory: %v, %v", two, three)
	}
	wipe(two)
	wipe(three)
	for req, want := range []int{unknown, done, done, done, done, done, done, unknown, unknown} {
		wantState(t, x, req, want)
	}
	wantState(t, x, 77, unknown)
	wantWaiting(t, x, 0)
	wantWait(t, x, 9, 2, api.OK)
	wantLeave(t, x, 9)
}

// Two tables, or two sessions, know nothing of each other.
func TestEachByItself(t *testing.T) {
	a, b := of(t, 1, 1, 2, 2), of(t, 1, 2)
	wantSettle(t, a, 1, 1)
	wantState(t, b, 1, waiting)
	wantLeave(t, b, 1)
	wantState(t, a, 1, done)
	wantState(t, a, 2, waiting)
	s, u := session.Begin(), session.Begin()
	wantRead(t, s, 1, 8, true, api.OK)
	wantRead(t, u, 1, 2, true, api.OK)
	wantAgain(t, u, 1, api.OK)
	wantFloor(t, s, 1, 8)
}

// A call that answers an error, or asks alone, changes nothing.
func TestNothingIsChangedByAnError(t *testing.T) {
	x := of(t, 1, 1, 2, 2)
	wantSettle(t, x, 1, 1)
	for range 3 {
		wantWait(t, x, 0, 1, api.ErrArg)
		wantWait(t, x, 2, 0, api.ErrArg)
		wantWait(t, x, 2, 1, api.ErrState)
		wantWait(t, x, 1, 1, api.ErrState)
		wantState(t, x, 0, unknown)
		wantState(t, x, 1, done)
		wantState(t, x, 2, waiting)
		wantState(t, x, 3, unknown)
		wantWaiting(t, x, 1)
	}
	wantSettle(t, x, 1)
	wantSettle(t, x, 2, 2)
	s := session.Begin()
	wantRead(t, s, 1, 3, true, api.OK)
	for range 3 {
		wantRead(t, s, 1, -1, false, api.ErrArg)
		wantRead(t, s, 7, 9, false, api.ErrArg)
		wantRead(t, s, 1, 2, false, api.OK)
		wantAgain(t, s, -1, api.ErrArg)
		wantFloor(t, s, 1, 3)
	}
}

// The chapter's own example.

func TestExample(t *testing.T) {
	x := of(t, 7, 3, 5, 3, 9, 4)
	wantSettle(t, x, 3, 5, 7)
	wantWait(t, x, 7, 9, api.ErrState)
	wantLeave(t, x, 9)
}
