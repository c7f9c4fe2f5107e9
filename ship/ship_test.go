package ship_test

import (
	"fmt"
	"math"
	"math/rand"
	"slices"
	"strings"
	"testing"

	"lattice/api"
	"lattice/line"
	"lattice/page"
	"lattice/record"
	"lattice/ship"
	"lattice/wal"
)

const most = api.MaxLSN

// rec is a record of an LSN and an Epoch; req tells it from others of the same.
func rec(lsn, epoch, req int) api.Record {
	return api.Record{LSN: lsn, Epoch: epoch, Kind: api.ReCommit, Other: 1, Req: req, Key: "k", Value: "v"}
}

// kinds are right records of each kind, whose LSNs follow one another behind one, all of an epoch.
func kinds(behind, epoch int) []api.Record {
	b, e := page.Encode(api.Node{Keys: []string{"a"}, Vals: []string{"x"}})
	if e != api.OK {
		panic(e)
	}
	l := []api.Record{
		{Kind: api.ReNoop}, {Kind: api.RePut, Page: 1, Key: "a", Value: "x"}, {Kind: api.ReDel, Page: 1, Key: "a"}, {Kind: api.ReNew, Page: 2, Value: string(b)}, {Kind: api.ReCut, Page: 1, Other: 2, Key: "m"}, {Kind: api.RePost, Page: 3, Other: 2, Key: "m"},
		{Kind: api.ReCommit, Other: 1, Req: 9, Key: "a", Value: "x"}, {Kind: api.ReCommit, Other: 2, Req: api.MaxReq, Key: "b"},
	}
	for i := range l {
		l[i].LSN, l[i].Epoch = behind+1+i, epoch
	}
	return l
}

// wrongs are records of an LSN and an Epoch that are not right.
func wrongs(lsn, epoch int) []api.Record {
	l := []api.Record{
		{}, {Kind: -1}, {Kind: 8}, {Kind: api.ReNoop, Page: 1}, {Kind: api.ReNoop, Key: "a"}, {Kind: api.RePut, Key: "a"}, {Kind: api.RePut, Page: 1}, {Kind: api.RePut, Page: api.MaxPages + 1, Key: "a"}, {Kind: api.RePut, Page: 1, Key: strings.Repeat("k", 17)}, {Kind: api.RePut, Page: 1, Key: "a", Value: strings.Repeat("v", 33)},
		{Kind: api.ReDel, Page: 1, Key: "a", Value: "x"}, {Kind: api.ReNew, Page: 1, Value: "no page"}, {Kind: api.ReCut, Page: 1, Key: "a"}, {Kind: api.RePost, Page: 1, Other: -1, Key: "a"}, {Kind: api.ReCommit, Other: 3, Req: 1, Key: "a"}, {Kind: api.ReCommit, Other: 1, Key: "a"}, {Kind: api.ReCommit, Other: 1, Req: 1, Key: "a", Page: 1},
	}
	for i := range l {
		l[i].LSN, l[i].Epoch = lsn, epoch
	}
	for _, x := range []int{math.MinInt, -1, 0, most + 1, math.MaxInt} {
		l = append(l, rec(x, epoch, 1))
		if x != 0 {
			l = append(l, rec(lsn, x, 1))
		}
	}
	return l
}

// row are records from LSN 1 on, of such epochs, their Reqs from some number on.
func row(req int, epochs ...int) []api.Record {
	var l []api.Record
	for i, epoch := range epochs {
		l = append(l, rec(i+1, epoch, req+i))
	}
	return l
}

// logOf is a log of records, flushed up to its last one.
func logOf(t *testing.T, rs []api.Record) *wal.Log {
	t.Helper()
	l := wal.New()
	for _, r := range rs {
		if lsn, e := l.Append(r); lsn != r.LSN || e != api.OK {
			t.Fatalf("Append(%v): %d, %v", r, lsn, e)
		}
	}
	if e := l.Flush(len(rs)); e != api.OK {
		t.Fatal(e)
	}
	return l
}

// all are a log's records.
func all(l *wal.Log) []api.Record { return l.From(1, math.MaxInt) }

// wantLog holds a log against the records that it should have.
func wantLog(t *testing.T, l *wal.Log, want []api.Record) {
	t.Helper()
	if got := all(l); !slices.Equal(got, want) {
		t.Errorf("the log has %v, not %v", got, want)
	}
}

func mark(epoch, lsn int) api.Mark { return api.Mark{Epoch: epoch, LSN: lsn} }

func wantTake(t *testing.T, l *wal.Log, ahead api.Mark, rs []api.Record, want int, wantCut bool, wantE api.Errno) {
	t.Helper()
	if n, cut, e := ship.Take(l, ahead, rs); n != want || cut != wantCut || e != wantE {
		t.Errorf("Take(%v, %v): %d, %v, %v, not %d, %v, %v", ahead, rs, n, cut, e, want, wantCut, wantE)
	}
}

func wantAt(t *testing.T, s *ship.Sender, next, matched int) {
	t.Helper()
	if n, m := s.At(); n != next || m != matched {
		t.Errorf("At: %d, %d, not %d, %d", n, m, next, matched)
	}
}

func wantSend(t *testing.T, s *ship.Sender, l *wal.Log, count int, want api.Mark, wantRecords []api.Record) {
	t.Helper()
	if m, rs := s.Send(l, count); m != want || !slices.Equal(rs, wantRecords) {
		t.Errorf("Send of at most %d: %v, %v, not %v, %v", count, m, rs, want, wantRecords)
	}
}

// sender is a new one.
func sender(t *testing.T, next int) *ship.Sender {
	t.Helper()
	s, e := ship.New(next)
	if s == nil || e != api.OK {
		t.Fatalf("New(%d): %v, %v", next, s, e)
	}
	return s
}

// ackedUpTo is a sender of which all up to an LSN is matched.
func ackedUpTo(t *testing.T, matched int) *ship.Sender {
	t.Helper()
	s := sender(t, 1)
	if s.Acked(matched) != (matched > 0) {
		t.Fatalf("Acked(%d) of one that is new", matched)
	}
	wantAt(t, s, matched+1, matched)
	return s
}

// 20.1

func TestNew(t *testing.T) {
	for _, next := range []int{1, 2, 7, api.MaxRecords, most - 1, most} {
		wantAt(t, sender(t, next), next, 0)
	}
	for _, next := range []int{math.MinInt, -1, 0, most + 1, math.MaxInt} {
		if s, e := ship.New(next); s != nil || e != api.ErrArg {
			t.Errorf("New(%d): %v, %v", next, s, e)
		}
	}
}

func TestSend(t *testing.T) {
	rs := row(1, 0, 1, 1, 4, 4)
	edges := []int{math.MinInt, -1, 0, 1, 2, 3, 4, 5, 6, 7, most, math.MaxInt}
	for n := range len(rs) + 1 {
		l := logOf(t, rs[:n])
		for _, next := range []int{1, 2, 3, 4, 5, 6, 7, 8, api.MaxRecords + 1, most - 1, most} {
			s := sender(t, next)
			for _, count := range edges {
				var want api.Mark
				var wantRecords []api.Record
				for _, r := range rs[:n] {
					if r.LSN == next-1 {
						want = mark(r.Epoch, r.LSN)
					}
					if r.LSN >= next && len(wantRecords) < count {
						wantRecords = append(wantRecords, r)
					}
				}
				wantSend(t, s, l, count, want, wantRecords)
				wantSend(t, s, l, count, want, wantRecords) // next stays
			}
			wantAt(t, s, next, 0)
			wantLog(t, l, rs[:n])
		}
	}
}

func TestSendOfANilLog(t *testing.T) {
	for _, next := range []int{1, 2, most} {
		s := sender(t, next)
		for _, count := range []int{math.MinInt, -1, 0, 1, math.MaxInt} {
			wantSend(t, s, nil, count, api.Mark{}, nil)
		}
		wantAt(t, s, next, 0)
	}
}

// What is sent follows the log, whatever becomes of it.
func TestSendFollowsTheLog(t *testing.T) {
	l, s := wal.New(), sender(t, 2)
	wantSend(t, s, l, 9, api.Mark{}, nil)
	l.Append(rec(1, 3, 1))
	wantSend(t, s, l, 9, mark(3, 1), nil)
	l.Append(rec(2, 5, 2))
	wantSend(t, s, l, 9, mark(3, 1), []api.Record{rec(2, 5, 2)})
	l.Cut(1)
	wantSend(t, s, l, 9, mark(3, 1), nil)
	l.Cut(0)
	wantSend(t, s, l, 9, api.Mark{}, nil)
}

// 20.2

func TestAcked(t *testing.T) {
	for _, c := range []struct {
		matched, lsn int
		want         bool
	}{
		{0, math.MinInt, false}, {0, -1, false}, {0, 0, false}, {0, 1, true}, {0, 9, true}, {0, most - 2, true}, {0, most - 1, true}, {0, most, false}, {0, most + 1, false}, {0, math.MaxInt, false},
		{5, math.MinInt, false}, {5, 0, false}, {5, 4, false}, {5, 5, false}, {5, 6, true}, {5, 9, true}, {5, most - 1, true}, {5, most, false},
		{most - 2, most - 2, false}, {most - 2, most - 1, true}, {most - 2, most, false}, {most - 1, most - 2, false}, {most - 1, most - 1, false}, {most - 1, most, false}, {most - 1, most + 1, false},
	} {
		s := ackedUpTo(t, c.matched)
		if got := s.Acked(c.lsn); got != c.want {
			t.Errorf("Acked(%d) of %d: %v", c.lsn, c.matched, got)
		}
		if c.want {
			wantAt(t, s, c.lsn+1, c.lsn)
		} else {
			wantAt(t, s, c.matched+1, c.matched)
		}
	}
}

// An ack says where next is, also where that was further.
func TestAckedBelowNext(t *testing.T) {
	for _, lsn := range []int{1, 3, 8, 9, 10, 11, 50} {
		s := sender(t, 10)
		if !s.Acked(lsn) {
			t.Errorf("Acked(%d)", lsn)
		}
		wantAt(t, s, lsn+1, lsn)
	}
	for _, lsn := range []int{most - 2, most - 1} {
		s := sender(t, most)
		if !s.Acked(lsn) || s.Acked(lsn) {
			t.Errorf("Acked(%d)", lsn)
		}
		wantAt(t, s, lsn+1, lsn)
	}
	s := sender(t, most)
	if s.Acked(most) {
		t.Error("Acked(MaxLSN)")
	}
	wantAt(t, s, most, 0)
}

func TestRefused(t *testing.T) {
	far := []int{math.MinInt, -1, 0, 1, 2, 4, 5, 6, 8, 9, 10, 11, most - 1, most, most + 1, math.MaxInt - 1, math.MaxInt}
	for _, matched := range []int{0, 5, most - 1} { // next is one more
		for _, last := range append(far, matched-1, matched, matched+1) {
			s := ackedUpTo(t, matched)
			if s.Refused(last) {
				t.Errorf("Refused(%d) while next is matched and 1", last)
			}
			wantAt(t, s, matched+1, matched)
		}
	}
	for _, next := range []int{2, 3, 9, 10, most} {
		for _, last := range append(far, next-2, next-1, next, next+1) {
			s := sender(t, next)
			if !s.Refused(last) {
				t.Errorf("Refused(%d) while next is %d: false", last, next)
			}
			want := 1
			if last > 0 && last < next-1 {
				want = last + 1
			}
			wantAt(t, s, want, 0)
		}
	}
}

// A refusal that is true always has next fall; so there are never more of them than it has to fall.
func TestRefusalsEnd(t *testing.T) {
	r := rand.New(rand.NewSource(202))
	for range 500 {
		next := 1 + r.Intn(30)
		s := sender(t, next)
		for s.Refused(r.Intn(40) - 5) {
			n, m := s.At()
			if n >= next || n < 1 || m != 0 {
				t.Fatalf("refused at %d: %d, %d", next, n, m)
			}
			next = n
		}
		wantAt(t, s, 1, 0)
	}
}

// turn is one call of a sender.
type turn struct {
	isAck bool
	n     int
}

// model is a sender in the chapter's words.
type model struct{ next, matched int }

func (x *model) do(c turn) bool {
	if c.isAck {
		if c.n > x.matched && c.n <= most-1 {
			x.matched = c.n
			x.next = c.n + 1
			return true
		}
		return false
	}
	if !(x.next > x.matched+1) {
		return false
	}
	becomes := c.n + 1
	if c.n > x.matched && becomes < x.next {
		x.next = becomes
	} else {
		x.next = x.matched + 1
	}
	return true
}

func do(s *ship.Sender, c turn) bool {
	if c.isAck {
		return s.Acked(c.n)
	}
	return s.Refused(c.n)
}

// All rows of a few acks and refusals, from each next.
func TestAllTurns(t *testing.T) {
	var turns []turn
	for n := -1; n <= 5; n++ {
		turns = append(turns, turn{true, n}, turn{false, n})
	}
	var from func(next int, ahead []turn)
	from = func(next int, ahead []turn) {
		s, x := sender(t, next), model{next, 0}
		for i, c := range ahead {
			if got, want := do(s, c), x.do(c); got != want {
				t.Fatalf("%v of %d, at %d: %v, not %v", ahead, next, i, got, want)
			}
			wantAt(t, s, x.next, x.matched)
		}
		if n, m := s.At(); m < 0 || m >= n {
			t.Fatalf("%v: next %d, matched %d", ahead, n, m)
		}
		if len(ahead) < 3 {
			for _, c := range turns {
				from(next, append(slices.Clone(ahead), c))
			}
		}
	}
	for next := 1; next <= 6; next++ {
		from(next, nil)
	}
}

func TestNilSender(t *testing.T) {
	var s *ship.Sender
	l := logOf(t, row(1, 1, 1, 2))
	for range 2 {
		for _, n := range []int{math.MinInt, -1, 0, 1, 2, 9, most - 1, most, math.MaxInt} {
			wantSend(t, s, l, n, api.Mark{}, nil)
			wantSend(t, s, nil, n, api.Mark{}, nil)
			if s.Acked(n) || s.Refused(n) {
				t.Errorf("a nil sender is acked or refused: %d", n)
			}
		}
		wantAt(t, s, 0, 0)
	}
	wantLog(t, l, row(1, 1, 1, 2))
}

// 20.3: the errors.

func TestWrongRecordsFirst(t *testing.T) {
	had := row(1, 1, 1, 2)
	right := []api.Record{rec(3, 2, 11), rec(4, 2, 12), rec(5, 3, 13)} // they fit behind LSN 2
	for i := range right {
		for _, wrong := range wrongs(right[i].LSN, right[i].Epoch) {
			if record.Check(wrong) != api.ErrRecord {
				t.Fatalf("%v is right", wrong)
			}
			rs := slices.Clone(right)
			rs[i] = wrong
			for _, ahead := range []api.Mark{mark(1, 2), {}, mark(9, 2), mark(1, 4), mark(1, -1), mark(-1, math.MinInt), mark(0, math.MaxInt)} { // also where they would not fit
				l := logOf(t, had)
				wantTake(t, l, ahead, rs, 0, false, api.ErrRecord)
				wantTake(t, l, ahead, rs[:i+1], 0, false, api.ErrRecord)
				wantTake(t, nil, ahead, rs, 0, false, api.ErrRecord) // ahead of ErrNone
				wantLog(t, l, had)
				if l.Flushed() != 3 {
					t.Errorf("flushed up to %d", l.Flushed())
				}
			}
		}
	}
}

func TestWrongMarks(t *testing.T) {
	had := row(1, 1, 1, 2)
	for _, lsn := range []int{math.MinInt, -2, -1} {
		for _, epoch := range []int{math.MinInt, -1, 0, 1, most, math.MaxInt} {
			for _, rs := range [][]api.Record{nil, {}, {rec(1, 1, 9)}, {rec(3, 5, 9)}, {rec(1, 1, 9), rec(7, 0, 9)}} {
				l := logOf(t, had)
				wantTake(t, l, mark(epoch, lsn), rs, 0, false, api.ErrRecord)
				wantTake(t, wal.New(), mark(epoch, lsn), rs, 0, false, api.ErrRecord)
				wantTake(t, nil, mark(epoch, lsn), rs, 0, false, api.ErrRecord) // ahead of ErrNone
				wantLog(t, l, had)
			}
		}
	}
}

func TestNilLog(t *testing.T) {
	for range 2 {
		for _, ahead := range []api.Mark{{}, mark(1, 0), mark(-1, 0), mark(1, 1), mark(0, most), mark(0, math.MaxInt)} {
			for _, rs := range [][]api.Record{nil, {}, {rec(1, 1, 9)}, {rec(2, 1, 9)}, {rec(1, 1, 9), rec(2, 0, 9)}, kinds(0, 3), kinds(1, 1)} {
				wantTake(t, nil, ahead, rs, 0, false, api.ErrNone) // ahead of ErrGap
			}
		}
	}
}

// What does not fit is refused, and none of it is taken.
func TestGaps(t *testing.T) {
	had := row(1, 1, 1, 2, 2, 5)
	for _, c := range []struct {
		what  string
		ahead api.Mark
		rs    []api.Record
	}{
		{"a mark of another epoch", mark(2, 2), []api.Record{rec(3, 2, 9)}},
		{"a mark of a lesser epoch", mark(1, 3), []api.Record{rec(4, 2, 9)}},
		{"a mark of another epoch, and no records", mark(2, 2), nil},
		{"a mark of an epoch below 0", mark(-1, 2), nil},
		{"a mark of an epoch beyond", mark(math.MaxInt, 2), nil},
		{"a mark of epoch 0", mark(0, 1), nil},
		{"a mark behind the last", mark(5, 6), []api.Record{rec(7, 5, 9)}},
		{"a mark behind the last, and no records", mark(5, 6), nil},
		{"a mark far behind", mark(5, most), nil},
		{"a mark beyond", mark(5, math.MaxInt), []api.Record{rec(1, 5, 9)}},
		{"LSNs that begin behind 1", api.Mark{}, []api.Record{rec(2, 1, 9)}},
		{"LSNs that begin at the mark", mark(1, 2), []api.Record{rec(2, 1, 9), rec(3, 2, 9)}},
		{"LSNs that begin behind the next one", mark(1, 2), []api.Record{rec(4, 2, 9)}},
		{"LSNs that stand still", mark(1, 2), []api.Record{rec(3, 3, 9), rec(3, 3, 9)}},
		{"LSNs that fall", mark(1, 2), []api.Record{rec(3, 3, 9), rec(4, 3, 9), rec(3, 3, 9)}},
		{"LSNs that leave one out", mark(1, 2), []api.Record{rec(3, 3, 9), rec(5, 3, 9)}},
		{"LSNs that leave one out at the last", mark(1, 2), []api.Record{rec(3, 3, 9), rec(4, 3, 9), rec(6, 3, 9)}},
		{"an epoch below the mark's", mark(2, 3), []api.Record{rec(4, 1, 9)}},
		{"an epoch below the mark's, of LSN 0", mark(3, 0), []api.Record{rec(1, 2, 9)}},
		{"an epoch below the mark's, of LSN 0, that the log has", mark(2, 0), []api.Record{rec(1, 1, 9)}},
		{"an epoch below a mark's that none has", mark(math.MaxInt, 0), []api.Record{rec(1, most, 9)}},
		{"epochs that fall", mark(1, 2), []api.Record{rec(3, 3, 9), rec(4, 2, 9)}},
		{"epochs that fall at the last", mark(1, 2), []api.Record{rec(3, 3, 9), rec(4, 4, 9), rec(5, 3, 9)}},
		{"epochs that fall to 0", mark(1, 2), []api.Record{rec(3, 3, 9), rec(4, 0, 9)}},
		{"epochs that fall from record to record, not below the mark's", api.Mark{}, []api.Record{rec(1, 2, 9), rec(2, 1, 9)}},
		{"the log's own, and one that does not follow", mark(1, 1), append(slices.Clone(had[1:]), rec(9, 9, 9))},
	} {
		l := logOf(t, had)
		wantTake(t, l, c.ahead, c.rs, 0, false, api.ErrGap)
		wantTake(t, l, c.ahead, c.rs, 0, false, api.ErrGap)
		wantLog(t, l, had)
		if l.Flushed() != len(had) {
			t.Errorf("flushed up to %d", l.Flushed())
		}
		if t.Failed() {
			t.Fatal(c.what)
		}
	}
}

// 20.3: what is taken.

func TestTake(t *testing.T) {
	had := row(1, 1, 1, 2, 2, 5)
	for _, c := range []struct {
		what  string
		ahead api.Mark
		rs    []api.Record
		last  int
		cut   bool
		want  []api.Record
	}{
		{"nothing behind nothing", api.Mark{}, nil, 0, false, had},
		{"nothing behind a mark of LSN 0", mark(7, 0), []api.Record{}, 0, false, had},
		{"nothing behind a mark of LSN 0 and an epoch that is none", mark(-3, 0), nil, 0, false, had},
		{"nothing behind the first", mark(1, 1), nil, 1, false, had},
		{"nothing in the middle", mark(2, 3), nil, 3, false, had},
		{"nothing behind the last", mark(5, 5), nil, 5, false, had},
		{"all that it has", api.Mark{}, row(50, 1, 1, 2, 2, 5), 5, false, had},
		{"all that it has, of a mark of an epoch", mark(1, 0), row(50, 1, 1, 2, 2, 5), 5, false, had},
		{"all that it has, of a mark of an epoch that is none", mark(math.MinInt, 0), row(50, 1, 1, 2, 2, 5), 5, false, had},
		{"some that it has", mark(1, 2), []api.Record{rec(3, 2, 50), rec(4, 2, 51)}, 4, false, had}, // what is behind stays
		{"some that it has, and some more", mark(2, 4), []api.Record{rec(5, 5, 50), rec(6, 5, 51), rec(7, 8, 52)}, 7, false, append(slices.Clone(had), rec(6, 5, 51), rec(7, 8, 52))},
		{"some more", mark(5, 5), []api.Record{rec(6, 5, 50), rec(7, 6, 51)}, 7, false, append(slices.Clone(had), rec(6, 5, 50), rec(7, 6, 51))},
		{"another one at the first", api.Mark{}, []api.Record{rec(1, 0, 50)}, 1, true, []api.Record{rec(1, 0, 50)}},
		{"another one at the first, of a greater epoch, and more", api.Mark{}, row(50, 2, 2), 2, true, row(50, 2, 2)},
		{"another one in the middle", mark(1, 2), []api.Record{rec(3, 3, 50)}, 3, true, append(slices.Clone(had[:2]), rec(3, 3, 50))},
		{"another one in the middle, of a lesser epoch", mark(1, 2), []api.Record{rec(3, 1, 50)}, 3, true, append(slices.Clone(had[:2]), rec(3, 1, 50))},
		{"some that it has, and another one", mark(1, 1), []api.Record{rec(2, 1, 50), rec(3, 2, 51), rec(4, 3, 52)}, 4, true, append(slices.Clone(had[:3]), rec(4, 3, 52))},
		{"another one, and one that it had of that epoch", mark(2, 3), []api.Record{rec(4, 4, 50), rec(5, 5, 51)}, 5, true, append(slices.Clone(had[:3]), rec(4, 4, 50), rec(5, 5, 51))},
		{"another one at the last", mark(2, 4), []api.Record{rec(5, 2, 50)}, 5, true, append(slices.Clone(had[:4]), rec(5, 2, 50))},
		{"another one at the last, and more", mark(2, 4), []api.Record{rec(5, 6, 50), rec(6, 6, 51), rec(7, most, 52)}, 7, true, append(slices.Clone(had[:4]), rec(5, 6, 50), rec(6, 6, 51), rec(7, most, 52))},
	} {
		for flushed := range len(had) + 1 {
			l := wal.New()
			for _, r := range had {
				l.Append(r)
			}
			l.Flush(flushed)
			wantTake(t, l, c.ahead, c.rs, c.last, c.cut, api.OK)
			wantLog(t, l, c.want)
			stays := flushed
			if c.cut {
				stays = min(flushed, shared(had, c.want))
			}
			if l.Flushed() != stays {
				t.Errorf("flushed up to %d, not %d", l.Flushed(), stays)
			}
			wantTake(t, l, c.ahead, c.rs, c.last, false, api.OK) // again: now it has them all
			wantLog(t, l, c.want)
		}
		if t.Failed() {
			t.Fatal(c.what)
		}
	}
}

// shared is how many records two rows begin with both.
func shared(a, b []api.Record) int {
	n := 0
	for n < len(a) && n < len(b) && a[n] == b[n] {
		n++
	}
	return n
}

func TestTakeOfAllKinds(t *testing.T) {
	l := wal.New()
	wantTake(t, l, api.Mark{}, kinds(0, 1), 8, false, api.OK)
	wantTake(t, l, mark(1, 8), kinds(8, 1), 16, false, api.OK)
	wantTake(t, l, mark(1, 16), kinds(16, 4), 24, false, api.OK)
	wantLog(t, l, slices.Concat(kinds(0, 1), kinds(8, 1), kinds(16, 4)))
	wantTake(t, l, mark(1, 8), kinds(8, 3), 16, true, api.OK)
	wantLog(t, l, slices.Concat(kinds(0, 1), kinds(8, 3)))
}

// modelTake is what the chapter's words say of a log that is no nil one, records that are right, and a mark whose LSN is not below 0.
func modelTake(had []api.Record, ahead api.Mark, rs []api.Record) ([]api.Record, int, bool, api.Errno) {
	fit := ahead.LSN == 0 || slices.ContainsFunc(had, func(r api.Record) bool { return r.LSN == ahead.LSN && r.Epoch == ahead.Epoch })
	last, epoch := ahead.LSN, ahead.Epoch
	for _, r := range rs {
		fit = fit && r.LSN == last+1 && r.Epoch >= epoch
		last, epoch = r.LSN, r.Epoch
	}
	if !fit {
		return had, 0, false, api.ErrGap
	}
	has := slices.Clone(had)
	cut := false
	for _, r := range rs {
		switch {
		case r.LSN > len(has):
			has = append(has, r)
		case has[r.LSN-1].Epoch != r.Epoch:
			has, cut = append(has[:r.LSN-1], r), true
		}
	}
	return has, last, cut, api.OK
}

// rising are all rows of up to n epochs below a bound that do not fall.
func rising(n, below int) [][]int {
	l := [][]int{nil}
	longest := l
	for range n {
		var longer [][]int
		for _, x := range longest {
			for epoch := range below {
				if len(x) == 0 || epoch >= x[len(x)-1] {
					longer = append(longer, append(slices.Clone(x), epoch))
				}
			}
		}
		l, longest = append(l, longer...), longer
	}
	return l
}

// lists are all lists of up to two records of small LSNs and Epochs, and those of three whose LSNs follow one another.
func lists() [][]api.Record {
	var of []api.Record
	for lsn := 1; lsn <= 5; lsn++ {
		for epoch := range 3 {
			of = append(of, rec(lsn, epoch, 100+10*lsn+epoch))
		}
	}
	l := [][]api.Record{nil}
	for _, a := range of {
		l = append(l, []api.Record{a})
		for _, b := range of {
			l = append(l, []api.Record{a, b})
			for _, c := range of {
				if b.LSN == a.LSN+1 && c.LSN == b.LSN+1 {
					l = append(l, []api.Record{a, b, c})
				}
			}
		}
	}
	return l
}

// All small logs, marks and lists of records.
func TestTakeOfAllSmallOnes(t *testing.T) {
	taken, cuts := 0, 0
	small := lists()
	for _, epochs := range rising(4, 3) {
		had := row(1, epochs...)
		for lsn := range 6 {
			for epoch := -1; epoch <= 3; epoch++ {
				ahead := mark(epoch, lsn)
				for _, rs := range small {
					l := logOf(t, had)
					want, last, cut, e := modelTake(had, ahead, rs)
					wantTake(t, l, ahead, rs, last, cut, e)
					wantLog(t, l, want)
					if e == api.OK {
						taken++
					}
					if cut {
						cuts++
						wantOtherEpoch(t, had, want)
					}
				}
			}
			if t.Failed() {
				return
			}
		}
	}
	if taken < 1000 || cuts < 1000 {
		t.Errorf("%d were taken, %d cut", taken, cuts)
	}
}

// wantOtherEpoch tells whether, where a log was cut, another epoch stands now (20.5).
func wantOtherEpoch(t *testing.T, was, is []api.Record) {
	t.Helper()
	n := shared(was, is)
	if n == len(was) || n == len(is) || was[n].Epoch == is[n].Epoch {
		t.Errorf("%v was cut behind %d; now %v", was, n, is)
	}
}

// full is a log of so many records, of epoch 3.
func full(t *testing.T, n int) *wal.Log {
	t.Helper()
	l := wal.New()
	for i := range n {
		if lsn, e := l.Append(rec(i+1, 3, i+1)); lsn != i+1 || e != api.OK {
			t.Fatalf("Append: %d, %v", lsn, e)
		}
	}
	return l
}

func TestFullLog(t *testing.T) {
	const n = api.MaxRecords
	l := full(t, n)
	wantEnd := func(last, epoch, req int) {
		t.Helper()
		r, _ := l.Get(last)
		if gotLast, gotEpoch := l.Last(); gotLast != last || gotEpoch != epoch || r.Req != req {
			t.Errorf("the log ends at %d, %d with %v, not at %d, %d with %d", gotLast, gotEpoch, r, last, epoch, req)
		}
	}
	wantTake(t, l, mark(3, n), nil, n, false, api.OK)
	wantTake(t, l, mark(3, n-1), []api.Record{rec(n, 3, 7)}, n, false, api.OK) // it has it
	wantEnd(n, 3, n)
	for range 2 {
		wantTake(t, l, mark(3, n), []api.Record{rec(n+1, 3, 7)}, 0, false, api.ErrFull)
		wantTake(t, l, mark(3, n-1), []api.Record{rec(n, 3, 7), rec(n+1, 4, 7), rec(n+2, 4, 7)}, 0, false, api.ErrFull)
		wantTake(t, l, mark(3, n), []api.Record{rec(n+2, 3, 7)}, 0, false, api.ErrGap) // ahead of ErrFull
		wantTake(t, l, mark(3, n), []api.Record{rec(n+1, 3, 7), rec(n+2, 2, 7)}, 0, false, api.ErrGap)
		wantTake(t, l, mark(3, n), []api.Record{rec(n+1, 3, 0)}, 0, false, api.ErrRecord)
		wantEnd(n, 3, n)
	}
	wantTake(t, l, mark(3, n-1), []api.Record{rec(n, 4, 7)}, n, true, api.OK) // another one in its place
	wantEnd(n, 4, 7)
	wantTake(t, l, mark(3, n-2), []api.Record{rec(n-1, 5, 8), rec(n, 5, 9), rec(n+1, 5, 10), rec(n+2, 6, 11)}, 0, false, api.ErrFull) // those ahead are taken
	wantEnd(n, 5, 9)
	if r, _ := l.Get(n - 1); r != rec(n-1, 5, 8) {
		t.Errorf("%v was taken", r)
	}
	l.Cut(n - 1)
	wantTake(t, l, mark(5, n-1), []api.Record{rec(n, 5, 20), rec(n+1, 5, 21)}, 0, false, api.ErrFull)
	wantEnd(n, 5, 20)
	l.Cut(n - 2)
	wantTake(t, l, mark(3, n-2), []api.Record{rec(n-1, 6, 30), rec(n, 6, 31)}, n, false, api.OK)
	wantEnd(n, 6, 31)
}

// A log that takes all of another one that is full becomes it.
func TestALongLogIsSentWhole(t *testing.T) {
	from, to := full(t, api.MaxRecords), wal.New()
	m, rs := sender(t, 1).Send(from, math.MaxInt)
	wantTake(t, to, m, rs, api.MaxRecords, false, api.OK)
	if !slices.Equal(all(from), all(to)) {
		t.Error("another log")
	}
}

// 20.4

// sending is what was sent once.
type sending struct {
	ahead api.Mark
	rs    []api.Record
}

// anyRow is a row of n records whose epochs rise now and then.
func anyRow(r *rand.Rand, n int) []api.Record {
	var l []api.Record
	epoch := r.Intn(3)
	for i := range n {
		if r.Intn(4) == 0 {
			epoch += 1 + r.Intn(2)
		}
		l = append(l, rec(i+1, epoch, 1+r.Intn(1000)))
	}
	return l
}

// sendings are some of what a log sends: from any next on, and as many as you like.
func sendings(t *testing.T, r *rand.Rand, l *wal.Log, n int) []sending {
	t.Helper()
	last, _ := l.Last()
	var out []sending
	for range n {
		m, rs := sender(t, 1+r.Intn(last+3)).Send(l, r.Intn(8))
		out = append(out, sending{m, rs})
	}
	return out
}

func isBeginning(a, of []api.Record) bool { return len(a) <= len(of) && slices.Equal(a, of[:len(a)]) }

func TestALogThatTakesFromOneIsABeginningOfIt(t *testing.T) {
	r := rand.New(rand.NewSource(204))
	whole := 0
	for range 300 {
		rs := anyRow(r, r.Intn(25))
		from := logOf(t, rs)
		sent := sendings(t, r, from, 1+r.Intn(40)) // some twice, some left out
		if more := r.Intn(3); more > 0 {           // it goes on, and sends again
			_, epoch := from.Last()
			for range 1 + r.Intn(6) {
				lsn, _ := from.Append(rec(1, epoch+more-1, 1+r.Intn(1000)))
				x, _ := from.Get(lsn)
				rs = append(rs, x)
			}
			sent = append(sent, sendings(t, r, from, r.Intn(40))...)
		}
		to := logOf(t, rs[:r.Intn(len(rs)+1)])
		for range 3 * len(sent) {
			x := sent[r.Intn(len(sent))]
			was, _ := to.Last()
			n, cut, e := ship.Take(to, x.ahead, x.rs)
			last, _ := to.Last()
			if cut || e != api.OK && (e != api.ErrGap || n != 0 || last != was) || last < was || !isBeginning(all(to), rs) {
				t.Fatalf("Take(%v, %v): %d, %v, %v; %v is no beginning of %v", x.ahead, x.rs, n, cut, e, all(to), rs)
			}
			if e == api.OK && (n > last || n != x.ahead.LSN+len(x.rs)) {
				t.Fatalf("Take(%v, %v): %d of %d", x.ahead, x.rs, n, last)
			}
		}
		if last, _ := to.Last(); last == len(rs) {
			whole++
		}
	}
	if whole < 50 {
		t.Errorf("only %d came to the whole log", whole)
	}
}

// All orders of a few sendings, each of them there up to two times.
func TestSendingsInAllOrders(t *testing.T) {
	rs := row(1, 0, 1, 1, 3)
	from := logOf(t, rs)
	var sent []sending
	for _, c := range [][2]int{{1, 2}, {2, 1}, {3, 2}, {4, 9}, {5, 9}, {9, 9}} {
		m, x := sender(t, c[0]).Send(from, c[1])
		sent = append(sent, sending{m, x})
	}
	for begin := range len(rs) + 1 {
		for order := range 6 * 6 * 6 * 6 {
			to := logOf(t, rs[:begin])
			for i := order; i > 0; i /= 6 {
				ship.Take(to, sent[i%6].ahead, sent[i%6].rs)
				if !isBeginning(all(to), rs) {
					t.Fatalf("order %d: %v is no beginning of %v", order, all(to), rs)
				}
			}
		}
	}
}

// 20.5, and logs of several primaries: what stands where something was cut is of another epoch; and all come to one log (P4).

// world are logs of which each epoch is written by one alone, as the document has it of primaries.
type world struct {
	logs  []*wal.Log
	epoch int
}

// write has one of the logs, as primary of a new epoch, append some records.
func (w *world) write(r *rand.Rand) {
	w.epoch++
	l := w.logs[r.Intn(len(w.logs))]
	for range 1 + r.Intn(5) {
		l.Append(rec(1, w.epoch, 1+r.Intn(1000)))
	}
}

// send has one of the logs take something of another one, and tells what it had, and whether it was cut.
func (w *world) send(t *testing.T, r *rand.Rand) (was []api.Record, to *wal.Log, cut bool) {
	t.Helper()
	from, to := w.logs[r.Intn(len(w.logs))], w.logs[r.Intn(len(w.logs))]
	last, _ := from.Last()
	m, rs := sender(t, 1+r.Intn(last+2)).Send(from, r.Intn(6))
	was = all(to)
	_, cut, _ = ship.Take(to, m, rs)
	return was, to, cut
}

func TestWhatIsCutIsOfAnotherEpoch(t *testing.T) {
	r := rand.New(rand.NewSource(205))
	cuts := 0
	for range 300 {
		w := world{logs: []*wal.Log{wal.New(), wal.New(), wal.New()}}
		for range 80 {
			if r.Intn(8) == 0 {
				w.write(r)
				continue
			}
			was, to, cut := w.send(t, r)
			is := all(to)
			if !cut {
				if !isBeginning(was, is) {
					t.Fatalf("%v was not cut, but is %v", was, is)
				}
				continue
			}
			cuts++
			wantOtherEpoch(t, was, is)
			for i := shared(was, is); i < min(len(was), len(is)); i++ { // where epochs have one writer each, of all that was cut
				if was[i].Epoch == is[i].Epoch {
					t.Errorf("%v was cut; now %v stands there", was[i], is[i])
				}
			}
		}
		wantOneWay(t, w.logs)
	}
	if cuts < 300 {
		t.Errorf("only %d were cut", cuts)
	}
}

// timeline is that of a log.
func timeline(l *wal.Log) line.Line {
	last, _ := l.Last()
	return line.Line{Marks: l.Marks(), Last: last}
}

// wantOneWay tells whether logs are the same up to their forks.
func wantOneWay(t *testing.T, logs []*wal.Log) {
	t.Helper()
	for _, a := range logs {
		for _, b := range logs {
			n, e := line.Fork(timeline(a), timeline(b))
			if e != api.OK || !slices.Equal(a.From(1, n), b.From(1, n)) {
				t.Fatalf("%v and %v fork at %d, %v", all(a), all(b), n, e)
			}
		}
	}
}

// A sender whose receiver acks what it takes, and refuses the rest with its last LSN, brings it to one log, over a way that loses, copies and reorders.
func TestSendersBringLogsToOne(t *testing.T) {
	r := rand.New(rand.NewSource(206))
	for range 300 {
		w := world{logs: []*wal.Log{wal.New(), wal.New()}}
		for range r.Intn(40) {
			if r.Intn(4) == 0 {
				w.write(r)
			} else {
				w.send(t, r)
			}
		}
		from, to := w.logs[0], w.logs[1]
		w.epoch++
		from.Append(rec(1, w.epoch, 1)) // its epoch is the greatest
		last, _ := from.Last()
		s := sender(t, 1+r.Intn(last+1))
		var sent []sending
		rounds := 0
		for _, m := s.At(); m < last; _, m = s.At() {
			if rounds++; rounds > 5000 {
				t.Fatalf("%v never comes to %v", all(to), all(from))
			}
			m, rs := s.Send(from, 1+r.Intn(4))
			if next, matched := s.At(); len(rs) > 0 && (rs[0].LSN != next || next <= matched) {
				t.Fatalf("sent from %d on: %v", next, rs)
			}
			sent = append(sent, sending{m, rs})
			i := len(sent) - 1
			if r.Intn(3) == 0 {
				i = r.Intn(len(sent)) // an older one comes
			}
			n, _, e := ship.Take(to, sent[i].ahead, sent[i].rs)
			if r.Intn(5) == 0 {
				continue // the answer is lost
			}
			if e == api.OK {
				s.Acked(n)
			} else {
				end, _ := to.Last()
				s.Refused(end)
			}
		}
		if !slices.Equal(all(to), all(from)) {
			t.Fatalf("%v, not %v", all(to), all(from))
		}
	}
}

// 20.6

func TestWhatIsAckedIsNotSentAgain(t *testing.T) {
	r := rand.New(rand.NewSource(207))
	l := logOf(t, anyRow(r, 30))
	for range 500 {
		s := sender(t, 1+r.Intn(33))
		acked := 0
		for range 30 {
			switch n := r.Intn(40) - 4; r.Intn(3) {
			case 0:
				if s.Acked(n) != (n > acked) {
					t.Fatalf("Acked(%d) behind %d", n, acked)
				}
				acked = max(acked, n)
			case 1:
				s.Refused(n)
			}
			next, matched := s.At()
			if matched != acked || next <= acked {
				t.Fatalf("next %d, matched %d, acked up to %d", next, matched, acked)
			}
			_, rs := s.Send(l, r.Intn(9))
			for i, x := range rs {
				if x.LSN <= acked || x.LSN != next+i {
					t.Fatalf("%v is sent, from %d on; acked up to %d", x, next, acked)
				}
			}
		}
	}
}

// R3 and R6

func TestNothingHandedInIsChangedOrKept(t *testing.T) {
	room := append(make([]api.Record, 0, 9), rec(2, 1, 51), rec(3, 4, 52), rec(4, 4, 53), rec(5, 9, 54), rec(77, 9, 55))
	was := slices.Clone(room[:cap(room)])
	for _, n := range []int{0, 1, 2, 3, 4} {
		rs := room[:n] // something stands behind its end
		for _, ahead := range []api.Mark{mark(1, 1), mark(2, 1), {}, mark(1, -1)} {
			one, two := logOf(t, row(1, 1, 1, 2)), logOf(t, row(1, 1, 1, 2))
			lastOne, cutOne, eOne := ship.Take(one, ahead, rs)
			lastTwo, cutTwo, eTwo := ship.Take(two, ahead, slices.Clone(rs))
			if lastOne != lastTwo || cutOne != cutTwo || eOne != eTwo || !slices.Equal(all(one), all(two)) {
				t.Errorf("the same call tells %d, %v, %v and %d, %v, %v", lastOne, cutOne, eOne, lastTwo, cutTwo, eTwo)
			}
			if !slices.Equal(room[:cap(room)], was) {
				t.Fatalf("what was handed in was changed: %v", room[:cap(room)])
			}
		}
	}
	l := logOf(t, row(1, 1, 1, 2))
	wantTake(t, l, mark(1, 1), room[:4], 5, true, api.OK)
	clear(room[:cap(room)])
	wantLog(t, l, append(row(1, 1, 1), was[1:4]...))
}

func TestAnswersShareNothing(t *testing.T) {
	rs := row(1, 1, 1, 2, 2, 5)
	l := logOf(t, rs)
	for _, next := range []int{1, 2, 4, 6} {
		s := sender(t, next)
		for _, count := range []int{0, 1, 3, 9} {
			_, one := s.Send(l, count)
			_, two := s.Send(l, count)
			was := slices.Clone(two)
			clear(one[:cap(one)])
			if !slices.Equal(two, was) {
				t.Error("two answers share memory")
			}
			wantLog(t, l, rs)
			_, three := s.Send(l, count)
			l.Cut(1)
			l.Append(rec(2, 9, 9))
			if !slices.Equal(three, was) {
				t.Error("an answer has changed with the log")
			}
			l = logOf(t, rs)
		}
	}
}

// What one log sends may be taken by itself.
func TestALogTakesFromItself(t *testing.T) {
	rs := row(1, 1, 1, 2, 2, 5)
	l := logOf(t, rs)
	for next := 1; next <= 7; next++ {
		m, sent := sender(t, next).Send(l, 3)
		want := m.LSN + len(sent)
		wantTake(t, l, m, sent, want, false, api.OK)
		wantLog(t, l, rs)
	}
}

// Senders have nothing in common.
func TestSendersAreTheirOwn(t *testing.T) {
	a, b := sender(t, 4), sender(t, 4)
	a.Acked(7)
	wantAt(t, b, 4, 0)
	b.Refused(2)
	wantAt(t, a, 8, 7)
	wantAt(t, b, 3, 0)
}

// Nil and empty lists are the same.
func TestNilAndEmpty(t *testing.T) {
	for _, rs := range [][]api.Record{nil, {}} {
		for _, l := range []*wal.Log{wal.New(), logOf(t, row(1, 1, 2))} {
			wantTake(t, l, api.Mark{}, rs, 0, false, api.OK)
			wantTake(t, l, mark(4, 0), rs, 0, false, api.OK)
			wantTake(t, l, mark(1, 3), rs, 0, false, api.ErrGap)
		}
		wantTake(t, wal.New(), mark(0, 1), rs, 0, false, api.ErrGap)
	}
}

// P1: any calls.

func TestAnyTakes(t *testing.T) {
	r := rand.New(rand.NewSource(208))
	number := func() int {
		return []int{math.MinInt, -1, 0, 1, 2, 3, 4, 5, 6, most, most + 1, math.MaxInt}[r.Intn(12)]
	}
	seen := map[api.Errno]int{}
	for range 20000 {
		had := anyRow(r, r.Intn(6))
		l := logOf(t, had)
		ahead := mark(number(), number())
		var rs []api.Record
		right := true
		for range r.Intn(4) {
			x := rec(number(), number(), 1+r.Intn(9))
			if r.Intn(10) > 0 {
				x.LSN, x.Epoch = 1+r.Intn(7), r.Intn(5)
			}
			right = right && record.Check(x) == api.OK
			rs = append(rs, x)
		}
		want, last, cut, e := had, 0, false, api.ErrRecord
		if right && ahead.LSN >= 0 {
			want, last, cut, e = modelTake(had, ahead, rs)
		}
		seen[e]++
		wantTake(t, l, ahead, rs, last, cut, e)
		wantLog(t, l, want)
		if t.Failed() {
			t.Fatal(fmt.Sprint(had, ahead, rs))
		}
	}
	for _, e := range []api.Errno{api.OK, api.ErrRecord, api.ErrGap} {
		if seen[e] < 200 {
			t.Errorf("%v was seen %d times", e, seen[e])
		}
	}
}

// The chapter's own example.

func TestExample(t *testing.T) {
	l := logOf(t, row(1, 1, 1, 2))
	wantTake(t, l, mark(1, 2), []api.Record{rec(3, 3, 9)}, 3, true, api.OK)
	wantLog(t, l, append(row(1, 1, 1), rec(3, 3, 9)))
	wantTake(t, l, mark(2, 2), nil, 0, false, api.ErrGap)
}
