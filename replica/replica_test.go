package replica_test

import (
	"fmt"
	"math"
	"math/rand"
	"slices"
	"strings"
	"testing"

	"lattice/api"
	"lattice/fold"
	"lattice/replica"
	"lattice/session"
	"lattice/steps"
)

// fresh is a node as New makes it.
func fresh(t *testing.T, id, n int) *replica.Node {
	t.Helper()
	x, e := replica.New(id, n)
	if e != api.OK {
		t.Fatal(e)
	}
	return x
}

func putOp(k, v string) api.Op { return api.Op{Kind: api.OpPut, Key: k, Value: v} }

func delOp(k string) api.Op { return api.Op{Kind: api.OpDel, Key: k} }

func getOp(k string) api.Op { return api.Op{Kind: api.OpGet, Key: k} }

func scanOp(from, below string) api.Op { return api.Op{Kind: api.OpScan, Key: from, Value: below} }

// bytesOf are a message's bytes.
func bytesOf(t *testing.T, m replica.Message) []byte {
	t.Helper()
	b, e := replica.Encode(m)
	if e != api.OK {
		t.Fatalf("%+v, %v", m, e)
	}
	return b
}

// letter is a message that is sent, and to whom.
type letter struct {
	to int
	m  replica.Message
}

// letters are the messages that a node sent.
func letters(t *testing.T, d replica.Done) []letter {
	t.Helper()
	var l []letter
	for _, o := range d.Outs {
		m, e := replica.Decode(o.Bytes)
		if e != api.OK {
			t.Fatalf("%v is no message", o.Bytes)
		}
		l = append(l, letter{o.To, m})
	}
	return l
}

func sameLetters(a, b []letter) bool {
	return slices.EqualFunc(a, b, func(x, y letter) bool { return x.to == y.to && sameMessage(x.m, y.m) })
}

func wantLetters(t *testing.T, d replica.Done, want ...letter) {
	t.Helper()
	if l := letters(t, d); !sameLetters(l, want) || len(d.Answers) != 0 {
		t.Errorf("%+v, %v, not %+v", l, d.Answers, want)
	}
}

func sameAnswer(a, b api.Answer) bool {
	return a.Req == b.Req && a.Node == b.Node && a.Code == b.Code && a.Result.Found == b.Result.Found && a.Result.Value == b.Result.Value && slices.Equal(a.Result.Entries, b.Result.Entries)
}

func wantAnswers(t *testing.T, d replica.Done, want ...api.Answer) {
	t.Helper()
	if !slices.EqualFunc(d.Answers, want, sameAnswer) {
		t.Errorf("%v, not %v", d.Answers, want)
	}
}

func wantNothing(t *testing.T, d replica.Done) {
	t.Helper()
	if len(d.Outs) != 0 || len(d.Answers) != 0 {
		t.Errorf("%+v", d)
	}
}

func wantView(t *testing.T, x *replica.Node, want replica.View) {
	t.Helper()
	want.Up = true
	if v := x.View(); v != want {
		t.Errorf("%+v, not %+v", v, want)
	}
}

func wantLog(t *testing.T, x *replica.Node, want ...api.Record) {
	t.Helper()
	if l := x.Log(); !slices.Equal(l, want) {
		t.Errorf("%+v, not %+v", l, want)
	}
}

// hear has a node hear a message of another one.
func hear(t *testing.T, x *replica.Node, from int, m replica.Message) replica.Done {
	t.Helper()
	return x.Message(from, bytesOf(t, m))
}

// patience is at how many ticks a node stands.
func patience(id int) int { return 10 + 3*id }

// standby is one, of an epoch, with a log, all of it synced.
func standby(t *testing.T, id, n, epoch int, log ...api.Record) *replica.Node {
	t.Helper()
	x := fresh(t, id, n)
	give(t, x, id, n, epoch, log)
	x.Sync()
	return x
}

// give has a node take a log of another one.
func give(t *testing.T, x *replica.Node, id, n, epoch int, log []api.Record) {
	t.Helper()
	mark := api.Mark{}
	for l := range slices.Chunk(append(slices.Clone(log), api.Record{}), replica.MaxSend) {
		l = slices.DeleteFunc(l, func(r api.Record) bool { return r.LSN == 0 })
		hear(t, x, (id+1)%n, replica.Message{Kind: replica.Append, Epoch: epoch, Mark: mark, Records: l})
		if len(l) > 0 {
			mark = api.Mark{Epoch: l[len(l)-1].Epoch, LSN: l[len(l)-1].LSN}
		}
	}
}

// candidate is one of the epoch behind, all of it synced and asked for.
func candidate(t *testing.T, id, n, epoch int, log ...api.Record) *replica.Node {
	t.Helper()
	x := standby(t, id, n, epoch, log...)
	for range patience(id) {
		x.Tick()
	}
	x.Sync()
	return x
}

// others are the numbers of all other nodes.
func others(id, n int) []int {
	var l []int
	for i := range n {
		if i != id {
			l = append(l, i)
		}
	}
	return l
}

// primary is one of the epoch behind; what it has appended waits.
func primary(t *testing.T, id, n, epoch int, log ...api.Record) *replica.Node {
	t.Helper()
	x := candidate(t, id, n, epoch, log...)
	for _, i := range others(id, n)[:n/2] {
		hear(t, x, i, replica.Message{Kind: replica.Given, Epoch: epoch + 1, OK: true})
	}
	if v := x.View(); v.Role != replica.Primary || v.Epoch != epoch+1 {
		t.Fatalf("%+v", v)
	}
	return x
}

// alone is a node that is primary alone, of epoch 1, all of it synced.
func alone(t *testing.T) *replica.Node {
	t.Helper()
	x := fresh(t, 0, 1)
	for range 10 {
		x.Tick()
	}
	x.Sync()
	return x
}

// whole does an operation on a node that is alone: the answers.
func whole(x *replica.Node, req int, op api.Op) []api.Answer {
	l := x.Call(api.Call{Req: req, Op: op}).Answers
	for i := 0; len(l) == 0 && i < 20; i++ {
		l = append(x.Work(0).Answers, x.Sync().Answers...)
	}
	for range 20 {
		x.Work(0) // what it has to post
	}
	x.Sync()
	return l
}

// 25.2: New, and nodes that are not up.

func TestNew(t *testing.T) {
	for _, n := range []int{math.MinInt, -1, 0, 1, 2, 3, 6, api.MaxNodes, api.MaxNodes + 1, math.MaxInt} {
		for _, id := range []int{math.MinInt, -1, 0, 1, n - 1, n, n + 1, api.MaxNodes, math.MaxInt} {
			x, e := replica.New(id, n)
			if n < 1 || n > api.MaxNodes || id < 0 || id >= n {
				if e != api.ErrArg || x != nil {
					t.Errorf("New(%d, %d): %v, %v", id, n, x, e)
				}
				continue
			}
			if e != api.OK {
				t.Fatalf("New(%d, %d): %v", id, n, e)
			}
			wantView(t, x, replica.View{Role: replica.Standby})
			wantLog(t, x)
			if x.Waits() != 0 {
				t.Errorf("New(%d, %d): %d writes wait", id, n, x.Waits())
			}
		}
	}
}

// doNothing: all calls of a node that is not up.
func doNothing(t *testing.T, x *replica.Node) {
	t.Helper()
	for _, op := range []api.Op{putOp("a", "x"), getOp("a"), {}, getOp("12345678901234567")} {
		wantNothing(t, x.Call(api.Call{Req: 1, Op: op}))
	}
	for kind := replica.Append; kind <= replica.Given; kind++ {
		for _, from := range []int{-1, 0, 1} {
			wantNothing(t, hear(t, x, from, replica.Message{Kind: kind, Epoch: 9}))
		}
	}
	wantNothing(t, x.Message(1, nil))
	for range 30 {
		wantNothing(t, x.Tick())
	}
	for _, i := range []int{-1, 0, 1, 7} {
		wantNothing(t, x.Work(i))
	}
	wantNothing(t, x.Sync())
	for _, n := range []int{-1, 0, 1, 999} {
		if e := x.Crash(n, n); e != api.ErrState {
			t.Errorf("Crash(%d, %d): %v", n, n, e)
		}
	}
	if v := x.View(); v != (replica.View{}) {
		t.Errorf("%+v", v)
	}
	if x.Waits() != 0 {
		t.Errorf("%d writes wait", x.Waits())
	}
}

func TestNodesThatAreNotUp(t *testing.T) {
	doNothing(t, nil)
	wantNothing(t, (*replica.Node)(nil).Start())
	doNothing(t, nil)
	wantLog(t, nil)
	zero := &replica.Node{}
	doNothing(t, zero)
	wantNothing(t, zero.Start())
	doNothing(t, zero)
	wantLog(t, zero)
	for _, x := range []*replica.Node{fresh(t, 0, 3), standby(t, 1, 3, 4, noop(1, 4)), candidate(t, 0, 3, 2), primary(t, 2, 3, 2), alone(t)} {
		x.Sync()
		was, log := x.View(), x.Log()
		if e := x.Crash(0, 0); e != api.OK {
			t.Fatal(e)
		}
		doNothing(t, x)
		wantNothing(t, x.Start())
		wantView(t, x, replica.View{Role: replica.Standby, Epoch: was.Epoch, Last: len(log), Synced: len(log)})
		wantLog(t, x, log...)
	}
}

func TestStartOfOneThatIsUp(t *testing.T) {
	for _, make := range []func() *replica.Node{
		func() *replica.Node { return fresh(t, 0, 3) },
		func() *replica.Node { return candidate(t, 1, 3, 2, noop(1, 2)) },
		func() *replica.Node { return primary(t, 1, 3, 2, noop(1, 2)) },
	} {
		x, y := make(), make()
		wantNothing(t, x.Start())
		if x.View() != y.View() || x.Waits() != y.Waits() || !slices.Equal(x.Log(), y.Log()) {
			t.Errorf("Start: %+v, not %+v", x.View(), y.View())
		}
		if !sameLetters(letters(t, x.Tick()), letters(t, y.Tick())) || !sameLetters(letters(t, x.Sync()), letters(t, y.Sync())) {
			t.Error("Start: it says something else")
		}
	}
}

func TestCrashRefuses(t *testing.T) {
	x := primary(t, 0, 3, 1)
	waits := x.Waits()
	if waits == 0 {
		t.Fatal("nothing waits")
	}
	view := x.View()
	for _, keep := range []int{math.MinInt, -1, 0, 1, waits, waits + 1, math.MaxInt} {
		for _, torn := range []int{math.MinInt, -1, 0, 1, api.PageSize, api.PageSize + 1, math.MaxInt} {
			if keep >= 0 && keep <= waits && torn >= 0 && torn <= api.PageSize {
				y := primary(t, 0, 3, 1)
				if e := y.Crash(keep, torn); e != api.OK || y.View().Up || y.Waits() != 0 {
					t.Errorf("Crash(%d, %d): %v", keep, torn, e)
				}
				continue
			}
			if e := x.Crash(keep, torn); e != api.ErrArg || x.View() != view || x.Waits() != waits {
				t.Errorf("Crash(%d, %d): %v, %+v", keep, torn, e, x.View())
			}
		}
	}
}

// What was said and not synced is lost by a crash, and nothing is answered behind it.
func TestCrashForgetsWhatWaits(t *testing.T) {
	x := candidate(t, 0, 3, 1)
	for range 10 {
		x.Tick()
	}
	x.Crash(0, 0)
	x.Start()
	wantView(t, x, replica.View{Role: replica.Standby, Epoch: 2})
	wantNothing(t, x.Sync())
	y := alone(t)
	y.Call(api.Call{Req: 1, Op: putOp("a", "x")})
	y.Call(api.Call{Req: 2, Op: getOp("a")})
	y.Work(0)
	y.Crash(y.Waits(), 0)
	y.Start()
	wantLog(t, y, noop(1, 1), rePut(2, 1, 1, "a", "x"), committed(3, 1, 1, "a", "x"))
	for range 10 {
		wantNothing(t, y.Tick())
	}
	for range 9 {
		wantNothing(t, y.Work(0))
	}
	wantNothing(t, y.Sync())
}

// 25.2: Tick.

func TestStanding(t *testing.T) {
	for n := 1; n <= api.MaxNodes; n++ {
		for id := range n {
			x := fresh(t, id, n)
			for epoch := 1; epoch <= 3; epoch++ {
				for range patience(id) - 1 {
					wantNothing(t, x.Tick())
				}
				if v := x.View(); v.Role == replica.Candidate && epoch == 1 || v.Epoch != epoch-1 {
					t.Fatalf("node %d of %d: %+v", id, n, v)
				}
				wantNothing(t, x.Tick())
				if n == 1 {
					wantView(t, x, replica.View{Role: replica.Primary, Epoch: 1, Last: 1})
					break
				}
				wantView(t, x, replica.View{Role: replica.Candidate, Epoch: epoch})
				if x.Waits() == 0 {
					t.Error("its promise is not in the journal")
				}
				var want []letter
				for _, i := range others(id, n) {
					want = append(want, letter{i, replica.Message{Kind: replica.Ask, Epoch: epoch}})
				}
				wantLetters(t, x.Sync(), want...)
				wantNothing(t, x.Sync())
			}
		}
	}
}

// An Ask tells the end of the candidate's log.
func TestAsksTellTheEnd(t *testing.T) {
	x := standby(t, 1, 3, 5, noop(1, 2), noop(2, 4), noop(3, 4))
	for range patience(1) {
		x.Tick()
	}
	ask := replica.Message{Kind: replica.Ask, Epoch: 6, Mark: api.Mark{Epoch: 4, LSN: 3}}
	wantLetters(t, x.Sync(), letter{0, ask}, letter{2, ask})
}

// Where no epoch is greater, nobody stands.
func TestStandingInTheLastEpoch(t *testing.T) {
	x := standby(t, 0, 3, api.MaxLSN)
	for range 35 {
		wantNothing(t, x.Tick())
	}
	wantNothing(t, x.Sync())
	wantView(t, x, replica.View{Role: replica.Standby, Epoch: api.MaxLSN})
}

// ticksTo is how many ticks more it takes until a node stands.
func ticksTo(x *replica.Node) int {
	epoch := x.View().Epoch
	for i := 1; ; i++ {
		x.Tick()
		if x.View().Epoch != epoch || i == 99 {
			return i
		}
	}
}

func TestTicksAreCountedSince(t *testing.T) {
	for why, c := range map[string]struct {
		m     replica.Message
		again bool
	}{
		"nothing":                         {replica.Message{Kind: replica.Given, Epoch: 2}, false},
		"a primary":                       {replica.Message{Kind: replica.Append, Epoch: 2}, true},
		"a primary of a greater epoch":    {replica.Message{Kind: replica.Append, Epoch: 3}, true},
		"a primary whose records part":    {replica.Message{Kind: replica.Append, Epoch: 2, Mark: api.Mark{Epoch: 1, LSN: 9}}, true},
		"a primary of a lesser epoch":     {replica.Message{Kind: replica.Append, Epoch: 1}, false},
		"a vote":                          {replica.Message{Kind: replica.Ask, Epoch: 2, Mark: api.Mark{Epoch: 2, LSN: 1}}, true},
		"a vote in a greater epoch":       {replica.Message{Kind: replica.Ask, Epoch: 3, Mark: api.Mark{Epoch: 2, LSN: 1}}, true},
		"an ask in vain":                  {replica.Message{Kind: replica.Ask, Epoch: 2, Mark: api.Mark{Epoch: 1, LSN: 9}}, false},
		"an ask in vain, a greater epoch": {replica.Message{Kind: replica.Ask, Epoch: 3, Mark: api.Mark{Epoch: 2}}, false},
		"an ask of a lesser epoch":        {replica.Message{Kind: replica.Ask, Epoch: 1, Mark: api.Mark{Epoch: 9, LSN: 9}}, false},
		"a greater epoch alone":           {replica.Message{Kind: replica.Acked, Epoch: 3}, false},
	} {
		for ahead := range patience(1) {
			x := standby(t, 1, 3, 2, noop(1, 2))
			for range ahead {
				x.Tick()
			}
			hear(t, x, 0, c.m)
			want := patience(1)
			if !c.again {
				want -= ahead
			}
			if n := ticksTo(x); n != want {
				t.Errorf("%s, behind %d ticks: it stands %d later, not %d", why, ahead, n, want)
			}
		}
	}
}

// A primary counts no ticks: one that is primary no longer goes on from when it stood.
func TestTicksOfOneThatWasPrimary(t *testing.T) {
	for _, ahead := range []int{0, 5} {
		x := candidate(t, 1, 3, 1)
		for range ahead {
			x.Tick()
		}
		hear(t, x, 0, replica.Message{Kind: replica.Given, Epoch: 2, OK: true})
		for range 99 {
			x.Tick()
		}
		wantView(t, x, replica.View{Role: replica.Primary, Epoch: 2, Last: 1})
		hear(t, x, 0, replica.Message{Kind: replica.Acked, Epoch: 9})
		if n := ticksTo(x); n != patience(1)-ahead {
			t.Errorf("it stands %d ticks later", n)
		}
	}
}

// 25.2: elections.

func TestVotesMakeAPrimary(t *testing.T) {
	for n := 2; n <= api.MaxNodes; n++ {
		for id := range n {
			x := candidate(t, id, n, 4, noop(1, 3))
			given := replica.Message{Kind: replica.Given, Epoch: 5, OK: true}
			for k, i := range others(id, n) {
				if k+2 > n/2+1 { // more than a majority
					break
				}
				wantView(t, x, replica.View{Role: replica.Candidate, Epoch: 5, Last: 1, Synced: 1})
				wantNothing(t, hear(t, x, i, replica.Message{Kind: replica.Given, Epoch: 5}))           // no vote
				wantNothing(t, hear(t, x, i, replica.Message{Kind: replica.Given, Epoch: 4, OK: true})) // of an election ahead
				for _, j := range others(id, n)[:k] {
					wantNothing(t, hear(t, x, j, given)) // once more
				}
				wantView(t, x, replica.View{Role: replica.Candidate, Epoch: 5, Last: 1, Synced: 1})
				wantNothing(t, hear(t, x, i, given))
			}
			wantView(t, x, replica.View{Role: replica.Primary, Epoch: 5, Last: 2, Synced: 1})
			wantLog(t, x, noop(1, 3), noop(2, 5))
			for _, i := range others(id, n) {
				wantNothing(t, hear(t, x, i, given)) // votes that come late
			}
			wantLog(t, x, noop(1, 3), noop(2, 5))
		}
	}
}

func TestVotes(t *testing.T) {
	for _, c := range []struct {
		end api.Mark
		ok  bool
	}{{api.Mark{Epoch: 3, LSN: 2}, true}, {api.Mark{Epoch: 3, LSN: 3}, true}, {api.Mark{Epoch: 4}, true}, {api.Mark{Epoch: 3, LSN: 1}, false}, {api.Mark{Epoch: 2, LSN: 9}, false}, {api.Mark{}, false}} {
		x := standby(t, 0, 3, 3, noop(1, 2), noop(2, 3))
		wantNothing(t, hear(t, x, 1, replica.Message{Kind: replica.Ask, Epoch: 7, Mark: c.end}))
		wantView(t, x, replica.View{Role: replica.Standby, Epoch: 7, Last: 2, Synced: 2})
		wantLetters(t, x.Sync(), letter{1, replica.Message{Kind: replica.Given, Epoch: 7, OK: c.ok}})
		d := hear(t, x, 2, replica.Message{Kind: replica.Ask, Epoch: 7, Mark: api.Mark{Epoch: 9}})
		if c.ok { // it has voted, so that no promise is made, and nothing need be synced
			wantLetters(t, d, letter{2, replica.Message{Kind: replica.Given, Epoch: 7}})
		} else {
			wantNothing(t, d)
			wantLetters(t, x.Sync(), letter{2, replica.Message{Kind: replica.Given, Epoch: 7, OK: true}})
		}
	}
}

// Whoever stands, or is primary, has voted for itself.
func TestCandidatesAndPrimariesVoteForNobodyElse(t *testing.T) {
	for _, x := range []*replica.Node{candidate(t, 0, 3, 1), primary(t, 0, 3, 1)} {
		x.Sync()
		was := x.View()
		wantLetters(t, hear(t, x, 1, replica.Message{Kind: replica.Ask, Epoch: 2, Mark: api.Mark{Epoch: 9, LSN: 9}}), letter{1, replica.Message{Kind: replica.Given, Epoch: 2}})
		if x.View() != was {
			t.Errorf("%+v", x.View())
		}
	}
}

// 25.2: messages of lesser and of greater epochs, each kind in each role.

func TestMessagesOfALesserEpoch(t *testing.T) {
	for role, make := range map[int]func() *replica.Node{
		replica.Standby:   func() *replica.Node { return standby(t, 0, 3, 6, noop(1, 3)) },
		replica.Candidate: func() *replica.Node { return candidate(t, 0, 3, 5, noop(1, 3)) },
		replica.Primary:   func() *replica.Node { return primary(t, 0, 3, 5, noop(1, 3)) },
	} {
		for epoch := range 6 {
			for kind, answer := range map[int]int{replica.Append: replica.Acked, replica.Ask: replica.Given, replica.Acked: 0, replica.Given: 0} {
				x := make()
				x.Sync()
				view, log := x.View(), x.Log()
				if view.Role != role || view.Epoch != 6 {
					t.Fatalf("%+v", view)
				}
				d := hear(t, x, 2, replica.Message{Kind: kind, Epoch: epoch, OK: true, Mark: api.Mark{Epoch: 9, LSN: 1}, Commit: 1, Records: []api.Record{noop(1, 9)}})
				if answer == 0 {
					wantNothing(t, d)
				} else {
					wantLetters(t, d, letter{2, replica.Message{Kind: answer, Epoch: 6}})
				}
				if x.View() != view || x.Waits() != 0 {
					t.Errorf("%d in role %d: %+v, not %+v", kind, role, x.View(), view)
				}
				wantLog(t, x, log...)
			}
		}
	}
}

func TestMessagesOfAGreaterEpoch(t *testing.T) {
	for role, make := range map[int]func() *replica.Node{
		replica.Standby:   func() *replica.Node { return standby(t, 0, 3, 3, noop(1, 3)) },
		replica.Candidate: func() *replica.Node { return candidate(t, 0, 3, 2, noop(1, 2)) },
		replica.Primary:   func() *replica.Node { return primary(t, 0, 3, 2) },
	} {
		for _, epoch := range []int{4, 5, api.MaxLSN} {
			for kind := replica.Append; kind <= replica.Given; kind++ {
				for _, ok := range []bool{false, true} {
					x := make()
					x.Sync()
					log, end := x.Log(), api.Mark{LSN: 1, Epoch: x.Log()[0].Epoch}
					wantNothing(t, hear(t, x, 1, replica.Message{Kind: kind, Epoch: epoch, OK: ok, Mark: end}))
					wantView(t, x, replica.View{Role: replica.Standby, Epoch: epoch, Last: 1, Synced: 1})
					wantLog(t, x, log...)
					if x.Waits() == 0 {
						t.Errorf("%d in role %d: the journal does not say it", kind, role)
					}
					switch kind {
					case replica.Append:
						wantLetters(t, x.Sync(), letter{1, replica.Message{Kind: replica.Acked, Epoch: epoch, OK: true, Mark: api.Mark{LSN: 1}}})
					case replica.Ask:
						wantLetters(t, x.Sync(), letter{1, replica.Message{Kind: replica.Given, Epoch: epoch, OK: true}})
					default:
						wantNothing(t, x.Sync())
					}
					x.Crash(0, 0)
					x.Start()
					wantView(t, x, replica.View{Role: replica.Standby, Epoch: epoch, Last: 1, Synced: 1})
				}
			}
		}
	}
}

// Of the same epoch, what is not for its role does nothing.
func TestMessagesOfAnotherRole(t *testing.T) {
	for _, kind := range []int{replica.Acked, replica.Given} {
		for _, ok := range []bool{false, true} {
			x := standby(t, 0, 3, 3, noop(1, 3))
			wantNothing(t, hear(t, x, 1, replica.Message{Kind: kind, Epoch: 3, OK: ok, Mark: api.Mark{Epoch: 3, LSN: 1}}))
			wantView(t, x, replica.View{Role: replica.Standby, Epoch: 3, Last: 1, Synced: 1})
		}
	}
	x := candidate(t, 0, 3, 2, noop(1, 2))
	wantNothing(t, hear(t, x, 1, replica.Message{Kind: replica.Acked, Epoch: 3, OK: true, Mark: api.Mark{Epoch: 2, LSN: 1}}))
	wantView(t, x, replica.View{Role: replica.Candidate, Epoch: 3, Last: 1, Synced: 1})
	y := primary(t, 0, 3, 2, noop(1, 2))
	y.Sync()
	was := y.View()
	wantNothing(t, hear(t, y, 1, replica.Message{Kind: replica.Append, Epoch: 3, Mark: api.Mark{Epoch: 2, LSN: 1}, Commit: 2, Records: []api.Record{noop(2, 2)}}))
	wantNothing(t, hear(t, y, 1, replica.Message{Kind: replica.Given, Epoch: 3, OK: true}))
	if y.View() != was || y.Waits() != 0 {
		t.Errorf("%+v, not %+v", y.View(), was)
	}
	wantLog(t, y, noop(1, 2), noop(2, 3))
}

// A candidate that hears of its epoch's primary is its standby.
func TestCandidatesFollowTheOneThatWon(t *testing.T) {
	x := candidate(t, 0, 3, 2, noop(1, 2))
	wantNothing(t, hear(t, x, 2, replica.Message{Kind: replica.Append, Epoch: 3, Mark: api.Mark{Epoch: 2, LSN: 1}, Records: []api.Record{noop(2, 3)}}))
	wantView(t, x, replica.View{Role: replica.Standby, Epoch: 3, Last: 2, Synced: 1})
	wantLetters(t, x.Sync(), letter{2, replica.Message{Kind: replica.Acked, Epoch: 3, OK: true, Mark: api.Mark{LSN: 2}}})
	wantNothing(t, hear(t, x, 1, replica.Message{Kind: replica.Given, Epoch: 3, OK: true}))
	wantView(t, x, replica.View{Role: replica.Standby, Epoch: 3, Last: 2, Synced: 2})
}

// 25.3 and 25.4: strangers.

func TestStrangers(t *testing.T) {
	r := rand.New(rand.NewSource(254))
	for n := 1; n <= 3; n++ {
		for id := range n {
			makes := []func() *replica.Node{func() *replica.Node { return fresh(t, id, n) }}
			if n > 1 {
				makes = append(makes, func() *replica.Node { return standby(t, id, n, 2, noop(1, 2)) }, func() *replica.Node { return candidate(t, id, n, 1) }, func() *replica.Node { return primary(t, id, n, 1) })
			}
			for _, make := range makes {
				strange(t, r, make(), make(), id, n)
			}
		}
	}
}

// strange: nothing that is no message, and nothing of no node, changes a node: behind it, it does what its twin does.
func strange(t *testing.T, r *rand.Rand, x, twin *replica.Node, id, n int) {
	t.Helper()
	for kind := replica.Append; kind <= replica.Given; kind++ {
		for _, epoch := range []int{0, x.View().Epoch, x.View().Epoch + 1, api.MaxLSN} {
			b := bytesOf(t, replica.Message{Kind: kind, Epoch: epoch, OK: true, Mark: api.Mark{Epoch: 9, LSN: 9}, Commit: 1, Records: []api.Record{noop(1, 1)}})
			for _, from := range []int{math.MinInt, -1, id, n, n + 1, api.MaxNodes, math.MaxInt} {
				wantNothing(t, x.Message(from, b))
			}
			for range 20 {
				turned := slices.Clone(b)
				turned[r.Intn(len(b))] ^= 1 << r.Intn(8)
				wantNothing(t, x.Message((id+1)%n, turned))
			}
		}
	}
	for range 50 {
		b := make([]byte, r.Intn(100))
		r.Read(b)
		wantNothing(t, x.Message(r.Intn(9)-1, b))
		wantNothing(t, x.Message(r.Intn(9)-1, sealed(b)))
	}
	wantNothing(t, x.Message((id+1)%n, nil))
	for range 60 {
		if x.View() != twin.View() || x.Waits() != twin.Waits() || !slices.Equal(x.Log(), twin.Log()) {
			t.Fatalf("%+v, not %+v", x.View(), twin.View())
		}
		a, b := x.Tick(), twin.Tick()
		c, d := x.Sync(), twin.Sync()
		if !sameLetters(letters(t, a), letters(t, b)) || !sameLetters(letters(t, c), letters(t, d)) {
			t.Fatal("it says something else")
		}
	}
}

// 25.2: Append.

func TestRecordsAreTaken(t *testing.T) {
	long := []api.Record{noop(1, 2), noop(2, 2), noop(3, 4)}
	for why, c := range map[string]struct {
		mark api.Mark
		rs   []api.Record
		want []api.Record
		last int // -1: they do not fit
	}{
		"none":                                {api.Mark{}, nil, long, 0},
		"none, behind a mark":                 {api.Mark{Epoch: 2, LSN: 2}, nil, long, 2},
		"none, behind the last":               {api.Mark{Epoch: 4, LSN: 3}, nil, long, 3},
		"the next":                            {api.Mark{Epoch: 4, LSN: 3}, []api.Record{noop(4, 4)}, append(slices.Clone(long), noop(4, 4)), 4},
		"the next ones":                       {api.Mark{Epoch: 4, LSN: 3}, []api.Record{noop(4, 4), noop(5, 5)}, append(slices.Clone(long), noop(4, 4), noop(5, 5)), 5},
		"some that are there":                 {api.Mark{Epoch: 2, LSN: 1}, []api.Record{noop(2, 2)}, long, 2},
		"all that are there":                  {api.Mark{}, long, long, 3},
		"some that are there, and one more":   {api.Mark{Epoch: 2, LSN: 2}, []api.Record{noop(3, 4), noop(4, 9)}, append(slices.Clone(long), noop(4, 9)), 4},
		"one that parts":                      {api.Mark{Epoch: 2, LSN: 2}, []api.Record{noop(3, 5)}, []api.Record{noop(1, 2), noop(2, 2), noop(3, 5)}, 3},
		"some that part":                      {api.Mark{Epoch: 2, LSN: 1}, []api.Record{noop(2, 2), noop(3, 5), noop(4, 5)}, []api.Record{noop(1, 2), noop(2, 2), noop(3, 5), noop(4, 5)}, 4},
		"all part":                            {api.Mark{}, []api.Record{noop(1, 9)}, []api.Record{noop(1, 9)}, 1},
		"a mark of another epoch":             {api.Mark{Epoch: 3, LSN: 2}, []api.Record{noop(3, 4)}, long, -1},
		"a mark behind the last":              {api.Mark{Epoch: 4, LSN: 4}, []api.Record{noop(5, 4)}, long, -1},
		"a mark behind the last, without any": {api.Mark{Epoch: 4, LSN: 4}, nil, long, -1},
		"a gap behind the mark":               {api.Mark{Epoch: 4, LSN: 3}, []api.Record{noop(5, 4)}, long, -1},
		"a gap among them":                    {api.Mark{Epoch: 4, LSN: 3}, []api.Record{noop(4, 4), noop(6, 4)}, long, -1},
		"epochs that fall":                    {api.Mark{Epoch: 4, LSN: 3}, []api.Record{noop(4, 5), noop(5, 4)}, long, -1},
		"an epoch below the mark's":           {api.Mark{Epoch: 4, LSN: 3}, []api.Record{noop(4, 3)}, long, -1},
	} {
		x := standby(t, 0, 3, 9, long...)
		m := replica.Message{Kind: replica.Append, Epoch: 9, Mark: c.mark, Records: c.rs, Commit: 0}
		want := letter{1, replica.Message{Kind: replica.Acked, Epoch: 9, OK: true, Mark: api.Mark{LSN: c.last}}}
		if c.last < 0 {
			want.m = replica.Message{Kind: replica.Acked, Epoch: 9, Mark: api.Mark{Epoch: 4, LSN: 3}}
		}
		d := hear(t, x, 1, m)
		if slices.Equal(c.want, long) { // nothing is to be synced
			wantLetters(t, d, want)
			if x.Waits() != 0 {
				t.Errorf("%s: %d writes wait", why, x.Waits())
			}
		} else {
			wantNothing(t, d)
			synced := 0
			for synced < len(long) && synced < len(c.want) && long[synced] == c.want[synced] {
				synced++
			}
			wantView(t, x, replica.View{Role: replica.Standby, Epoch: 9, Last: len(c.want), Synced: synced})
			wantLetters(t, x.Sync(), want)
		}
		wantLog(t, x, c.want...)
		wantView(t, x, replica.View{Role: replica.Standby, Epoch: 9, Last: len(c.want), Synced: len(c.want)})
		wantLetters(t, hear(t, x, 1, m), want) // once more: nothing is taken twice
		wantLog(t, x, c.want...)
		x.Crash(0, 0)
		x.Start()
		wantLog(t, x, c.want...)
		if t.Failed() {
			t.Fatal(why)
		}
	}
}

func TestCommitOfAStandby(t *testing.T) {
	x := standby(t, 1, 3, 2, noop(1, 2), noop(2, 2), noop(3, 2), noop(4, 2))
	for _, c := range []struct{ mark, records, commit, want int }{
		{0, 0, 4, 0}, {1, 0, 4, 1}, {1, 1, 1, 1}, {1, 1, 2, 2}, {2, 0, 1, 2}, {0, 1, 4, 2}, {0, 3, 2, 2}, {4, 0, 3, 3}, {3, 0, api.MaxLSN, 3}, {1, 2, api.MaxLSN, 3}, {3, 1, api.MaxLSN, 4}, {4, 0, 0, 4}, {0, 0, 0, 4},
	} {
		m := replica.Message{Kind: replica.Append, Epoch: 2, Commit: c.commit}
		if c.mark > 0 {
			m.Mark = api.Mark{Epoch: 2, LSN: c.mark}
		}
		for i := range c.records {
			m.Records = append(m.Records, noop(c.mark+1+i, 2))
		}
		hear(t, x, 0, m)
		if v := x.View(); v.Commit != c.want {
			t.Errorf("%+v: commit %d", c, v.Commit)
		}
	}
	hear(t, x, 0, replica.Message{Kind: replica.Append, Epoch: 2, Mark: api.Mark{Epoch: 2, LSN: 9}, Commit: 9}) // it does not fit
	hear(t, x, 0, replica.Message{Kind: replica.Append, Epoch: 1, Mark: api.Mark{Epoch: 2, LSN: 4}, Commit: 9, Records: []api.Record{noop(5, 2)}})
	wantView(t, x, replica.View{Role: replica.Standby, Epoch: 2, Last: 4, Synced: 4, Commit: 4, Point: 4})
	hear(t, x, 0, replica.Message{Kind: replica.Append, Epoch: 2, Mark: api.Mark{Epoch: 2, LSN: 4}, Commit: 5, Records: []api.Record{noop(5, 2)}})
	wantView(t, x, replica.View{Role: replica.Standby, Epoch: 2, Last: 5, Synced: 4, Commit: 5, Point: 5})
	hear(t, x, 0, replica.Message{Kind: replica.Acked, Epoch: 9})
	wantView(t, x, replica.View{Role: replica.Standby, Epoch: 9, Last: 5, Synced: 4, Commit: 5, Point: 5})
	x.Crash(0, 0)
	x.Start()
	wantView(t, x, replica.View{Role: replica.Standby, Epoch: 2, Last: 4, Synced: 4})
}

// 25.2: what a primary sends, and what is acked.

func TestWhatAPrimarySends(t *testing.T) {
	var log []api.Record
	for i := range 40 {
		log = append(log, noop(i+1, 2))
	}
	x := primary(t, 0, 3, 2, log...)
	log = append(log, noop(41, 3))
	send := func(mark, count, commit int) replica.Message {
		m := replica.Message{Kind: replica.Append, Epoch: 3, Commit: commit, Records: log[mark : mark+count]}
		if mark > 0 {
			m.Mark = api.Mark{Epoch: log[mark-1].Epoch, LSN: mark}
		}
		return m
	}
	acked := func(ok bool, lsn int) replica.Message {
		return replica.Message{Kind: replica.Acked, Epoch: 3, OK: ok, Mark: api.Mark{LSN: lsn}}
	}
	wantNothing(t, x.Tick()) // its ReNoop is not synced yet
	wantLetters(t, x.Sync(), letter{1, send(40, 1, 0)}, letter{2, send(40, 1, 0)}, letter{1, send(40, 1, 0)}, letter{2, send(40, 1, 0)})
	for range 3 {
		wantLetters(t, x.Tick(), letter{1, send(40, 1, 0)}, letter{2, send(40, 1, 0)})
	}
	wantNothing(t, hear(t, x, 2, acked(false, 7)))
	wantLetters(t, x.Tick(), letter{1, send(40, 1, 0)}, letter{2, send(7, replica.MaxSend, 0)})
	wantNothing(t, hear(t, x, 2, acked(false, 7))) // its last one is where it goes on already: so it goes back to what is matched
	wantLetters(t, x.Tick(), letter{1, send(40, 1, 0)}, letter{2, send(0, replica.MaxSend, 0)})
	wantNothing(t, hear(t, x, 2, acked(true, 16)))
	wantLetters(t, x.Tick(), letter{1, send(40, 1, 0)}, letter{2, send(16, replica.MaxSend, 0)})
	wantNothing(t, hear(t, x, 2, acked(true, 3))) // an old one
	wantNothing(t, hear(t, x, 2, acked(true, 42)))
	wantNothing(t, hear(t, x, 2, acked(true, api.MaxLSN))) // what was never sent
	wantLetters(t, x.Tick(), letter{1, send(40, 1, 0)}, letter{2, send(16, replica.MaxSend, 0)})
	wantNothing(t, hear(t, x, 2, acked(true, 32)))
	wantLetters(t, x.Tick(), letter{1, send(40, 1, 0)}, letter{2, send(32, 9, 0)})
	wantView(t, x, replica.View{Role: replica.Primary, Epoch: 3, Last: 41, Synced: 41}) // a majority has 32, which is of epoch 2
	wantNothing(t, hear(t, x, 2, acked(true, 41)))
	wantView(t, x, replica.View{Role: replica.Primary, Epoch: 3, Last: 41, Synced: 41, Commit: 41})
	wantLetters(t, x.Tick(), letter{1, send(40, 1, 41)}, letter{2, send(41, 0, 41)})
	wantNothing(t, hear(t, x, 1, acked(true, 41)))
	wantLetters(t, x.Tick(), letter{1, send(41, 0, 41)}, letter{2, send(41, 0, 41)})
}

// A new primary sends at once, not only at its next tick: also what it mended its tree by.
func TestANewPrimarySendsAtOnce(t *testing.T) {
	for n := 1; n <= api.MaxNodes; n++ {
		for id := range n {
			if n == 1 {
				wantLetters(t, alone(t).Sync())
				continue
			}
			x := primary(t, id, n, 2, noop(1, 2), rePut(2, 2, 1, "a", "x"))
			mended := api.Record{LSN: 3, Epoch: 3, Kind: api.ReDel, Page: 1, Key: "a"} // whose commit is not there
			m := replica.Message{Kind: replica.Append, Epoch: 3, Mark: api.Mark{Epoch: 2, LSN: 2}, Records: []api.Record{mended, noop(4, 3)}}
			var want []letter
			for _, i := range others(id, n) {
				want = append(want, letter{i, m})
			}
			wantLetters(t, x.Sync(), want...)
			wantNothing(t, x.Sync())
			wantLetters(t, x.Tick(), want...)
		}
	}
}

func TestCommitOfAPrimary(t *testing.T) {
	acked := func(lsn int) replica.Message {
		return replica.Message{Kind: replica.Acked, Epoch: 3, OK: true, Mark: api.Mark{LSN: lsn}}
	}
	for n := 1; n <= api.MaxNodes; n++ {
		for id := range n {
			var x *replica.Node
			if n == 1 {
				x = fresh(t, 0, 1)
				for range 10 {
					x.Tick()
				}
			} else {
				x = primary(t, id, n, 2)
				for k, i := range others(id, n) { // all but one of a majority, without its own
					if k == n/2 {
						break
					}
					hear(t, x, i, acked(1))
				}
			}
			if v := x.View(); v.Commit != 0 || v.Last != 1 || v.Synced != 0 {
				t.Fatalf("%d of %d: %+v", id, n, v)
			}
			x.Sync()
			if v := x.View(); v.Commit != 1 || v.Synced != 1 {
				t.Fatalf("%d of %d: %+v", id, n, v)
			}
		}
	}
	x := primary(t, 0, 5, 2) // acked by a majority without its own
	for i := 1; i <= 3; i++ {
		if x.View().Commit != 0 {
			t.Error("two of five")
		}
		hear(t, x, i, acked(1))
	}
	wantView(t, x, replica.View{Role: replica.Primary, Epoch: 3, Last: 1, Commit: 1})
	y := primary(t, 0, 5, 2) // one fewer than a majority, its own among them
	y.Sync()
	hear(t, y, 1, acked(1))
	hear(t, y, 1, acked(1))
	hear(t, y, 2, acked(0))
	hear(t, y, 2, replica.Message{Kind: replica.Acked, Epoch: 3, Mark: api.Mark{LSN: 1}})
	wantView(t, y, replica.View{Role: replica.Primary, Epoch: 3, Last: 1, Synced: 1})
}

// 25.2: who becomes primary mends its tree.

func TestTreesAreMended(t *testing.T) {
	ab := []api.Record{noop(1, 1), rePut(2, 1, 1, "a", "x"), committed(3, 1, 7, "a", "x"), rePut(4, 1, 1, "b", "y"), committed(5, 1, 8, "b", "y")}
	for why, c := range map[string]struct{ more, want []api.Record }{
		"nothing is to be mended":  {nil, []api.Record{noop(6, 4)}},
		"a delete of none":         {[]api.Record{deleted(6, 1, 9, "c")}, []api.Record{noop(7, 4)}},
		"a page, and no more":      {[]api.Record{rePage(6, 2, 2)}, []api.Record{noop(7, 4)}},
		"a put of a new key":       {[]api.Record{rePut(6, 1, 1, "c", "z")}, []api.Record{reDel(7, 4, 1, "c"), noop(8, 4)}},
		"a put of a key":           {[]api.Record{rePut(6, 1, 1, "a", "z")}, []api.Record{rePut(7, 4, 1, "a", "x"), noop(8, 4)}},
		"a put of what is there":   {[]api.Record{rePut(6, 1, 1, "a", "x")}, []api.Record{noop(7, 4)}},
		"a delete":                 {[]api.Record{reDel(6, 1, 1, "b")}, []api.Record{rePut(7, 4, 1, "b", "y"), noop(8, 4)}},
		"several":                  {[]api.Record{rePut(6, 1, 1, "c", "z"), reDel(7, 1, 1, "b"), rePut(8, 2, 1, "a", "")}, []api.Record{reDel(9, 4, 1, "c"), rePut(10, 4, 1, "a", "x"), rePut(11, 4, 1, "b", "y"), noop(12, 4)}},
		"a commit without its put": {[]api.Record{committed(6, 3, 9, "c", "z")}, []api.Record{rePut(7, 4, 1, "c", "z"), noop(8, 4)}},
	} {
		log := append(slices.Clone(ab), c.more...)
		x := primary(t, 1, 3, 3, log...)
		wantLog(t, x, append(log, c.want...)...)
		x.Sync()
		hear(t, x, 2, replica.Message{Kind: replica.Acked, Epoch: 4, OK: true, Mark: api.Mark{LSN: len(x.Log())}})
		h := fold.History(x.Log())
		m, _ := fold.Behind(h, len(h))
		wantAnswers(t, x.Call(api.Call{Req: 1, Node: 1, Op: scanOp("", "")}), api.Answer{Req: 1, Node: 1, Code: api.AnOK, Result: api.Result{Entries: m}})
		if t.Failed() {
			t.Fatal(why)
		}
	}
}

// Where a log is no tree, or ends in a greater epoch than it may, nothing can be done on its primary.
func TestPrimariesOfNoTree(t *testing.T) {
	for why, log := range map[string][]api.Record{
		"a page that is not there":      {noop(1, 1), rePut(2, 1, 9, "a", "x")},
		"a root that is none":           {rePut(1, 1, 1, "a", "x"), {LSN: 2, Epoch: 1, Kind: api.ReCut, Page: 1, Other: 7, Key: "a"}},
		"an epoch that is yet to begin": {noop(1, 1), noop(2, 9)},
	} {
		x := primary(t, 0, 3, 3, log...)
		wantLog(t, x, log...)
		for i, op := range []api.Op{putOp("a", "x"), delOp("a"), getOp("a"), scanOp("", "")} {
			wantAnswers(t, x.Call(api.Call{Req: 1 + i, Op: op}), api.Answer{Req: 1 + i, Code: api.AnDiskFull})
		}
		for i := range 4 {
			wantNothing(t, x.Work(i))
		}
		hear(t, x, 1, replica.Message{Kind: replica.Acked, Epoch: 4, OK: true, Mark: api.Mark{LSN: 2}})
		x.Sync()
		wantView(t, x, replica.View{Role: replica.Primary, Epoch: 4, Last: 2, Synced: 2})
		wantLetters(t, x.Tick(), letter{1, replica.Message{Kind: replica.Append, Epoch: 4, Mark: api.Mark{Epoch: log[1].Epoch, LSN: 2}}}, letter{2, replica.Message{Kind: replica.Append, Epoch: 4, Mark: api.Mark{Epoch: log[1].Epoch, LSN: 2}}})
		if t.Failed() {
			t.Fatal(why)
		}
	}
}

// 25.6 and 25.2: calls.

func TestCallsThatAreWrong(t *testing.T) {
	long, longer := strings.Repeat("k", 16), strings.Repeat("k", 17)
	cases := []struct {
		req  int
		op   api.Op
		code int
	}{
		{0, getOp("a"), api.AnMalformed}, {-1, getOp("a"), api.AnMalformed}, {api.MaxReq + 1, putOp("a", "x"), api.AnMalformed}, {math.MinInt, scanOp("", ""), api.AnMalformed}, {math.MaxInt, delOp("a"), api.AnMalformed},
		{0, getOp(longer), api.AnMalformed}, {0, api.Op{}, api.AnMalformed},
		{1, api.Op{}, api.AnMalformed}, {1, api.Op{Kind: 5, Key: "a"}, api.AnMalformed}, {1, api.Op{Kind: -1, Key: longer}, api.AnMalformed},
		{1, getOp(""), api.AnMalformed}, {1, putOp("", "x"), api.AnMalformed}, {1, delOp(""), api.AnMalformed},
		{1, api.Op{Kind: api.OpGet, Key: "a", Value: "x"}, api.AnMalformed}, {1, api.Op{Kind: api.OpDel, Key: "a", Value: "x"}, api.AnMalformed}, {1, api.Op{Kind: api.OpDel, Key: longer, Value: "x"}, api.AnMalformed}, {1, api.Op{Kind: api.OpGet, Key: longer, Value: longer}, api.AnMalformed},
		{1, putOp("a", strings.Repeat("v", 33)), api.AnMalformed}, {1, putOp(longer, strings.Repeat("v", 33)), api.AnMalformed},
		{1, getOp(longer), api.AnKeyTooLong}, {api.MaxReq, putOp(longer, strings.Repeat("v", 32)), api.AnKeyTooLong}, {1, delOp(strings.Repeat("k", 100000)), api.AnKeyTooLong},
		{1, scanOp(longer, ""), api.AnKeyTooLong}, {1, scanOp("", longer), api.AnKeyTooLong}, {1, scanOp(longer, longer), api.AnKeyTooLong}, {1, scanOp(long, longer), api.AnKeyTooLong}, {1, scanOp(longer, "b"), api.AnKeyTooLong},
	}
	for i, make := range []func() *replica.Node{
		func() *replica.Node { return fresh(t, 0, 3) },
		func() *replica.Node { return standby(t, 1, 3, 2, noop(1, 1)) },
		func() *replica.Node { return candidate(t, 0, 3, 2) },
		func() *replica.Node { return primary(t, 0, 3, 2) },
		func() *replica.Node { return alone(t) },
	} {
		x := make()
		x.Sync()
		view, log := x.View(), x.Log()
		for _, c := range cases {
			d := x.Call(api.Call{Req: c.req, Node: 3, Op: c.op})
			wantAnswers(t, d, api.Answer{Req: c.req, Node: 3, Code: c.code})
			if len(d.Outs) != 0 {
				t.Errorf("%+v", d)
			}
		}
		for range 9 {
			wantNothing(t, x.Work(0))
		}
		wantNothing(t, x.Sync())
		if x.View() != view || !slices.Equal(x.Log(), log) {
			t.Errorf("%d: %+v, not %+v", i, x.View(), view)
		}
	}
}

func TestCallsOnOneThatIsNoPrimary(t *testing.T) {
	for _, x := range []*replica.Node{fresh(t, 0, 3), standby(t, 1, 3, 2, noop(1, 1)), candidate(t, 0, 3, 2)} {
		for i, op := range []api.Op{putOp("a", "x"), putOp(strings.Repeat("k", 16), strings.Repeat("v", 32)), delOp("a")} {
			wantAnswers(t, x.Call(api.Call{Req: 1 + i, Node: 2, Op: op}), api.Answer{Req: 1 + i, Node: 2, Code: api.AnNotPrimary})
		}
		for i, op := range []api.Op{getOp("a"), scanOp("", ""), scanOp("a", "b")} {
			wantAnswers(t, x.Call(api.Call{Req: 1 + i, Node: 2, Op: op}), api.Answer{Req: 1 + i, Node: 2, Code: api.AnNotReady})
		}
	}
}

// 25.7: a node alone.

func TestAlone(t *testing.T) {
	x := fresh(t, 0, 1)
	for i := range 10 {
		if v := x.View(); v.Role != replica.Standby {
			t.Fatalf("behind %d ticks: %+v", i, v)
		}
		wantNothing(t, x.Tick())
	}
	wantView(t, x, replica.View{Role: replica.Primary, Epoch: 1, Last: 1})
	wantNothing(t, x.Sync())
	wantView(t, x, replica.View{Role: replica.Primary, Epoch: 1, Last: 1, Synced: 1, Commit: 1})
	put := api.Call{Req: 5, Op: putOp("a", "x")}
	wantNothing(t, x.Call(put))
	wantNothing(t, x.Work(0))
	wantLog(t, x, noop(1, 1), rePut(2, 1, 1, "a", "x"), committed(3, 1, 5, "a", "x"))
	wantView(t, x, replica.View{Role: replica.Primary, Epoch: 1, Last: 3, Synced: 1, Commit: 1})
	d := x.Sync()
	wantAnswers(t, d, api.Answer{Req: 5, Code: api.AnOK})
	wantView(t, x, replica.View{Role: replica.Primary, Epoch: 1, Last: 3, Synced: 3, Commit: 3})
	wantNothing(t, x.Sync())
	for i := range 3 {
		wantNothing(t, x.Work(i))
		wantNothing(t, x.Tick())
	}
	found := api.Answer{Req: 6, Code: api.AnOK, Result: api.Result{Found: true, Value: "x"}}
	for crash := range 3 {
		wantNothing(t, x.Call(api.Call{Req: 6, Op: getOp("a")}))
		wantAnswers(t, x.Work(0), found)
		wantAnswers(t, x.Call(api.Call{Req: 7, Op: scanOp("", "")}), api.Answer{Req: 7, Code: api.AnOK, Result: api.Result{Entries: []api.Entry{{Key: "a", Value: "x"}}}})
		x.Crash(0, crash)
		x.Start()
		wantAnswers(t, x.Call(api.Call{Req: 8, Op: getOp("a")}), api.Answer{Req: 8, Code: api.AnNotReady})
		for range 10 {
			x.Tick()
		}
		wantView(t, x, replica.View{Role: replica.Primary, Epoch: 2 + crash, Last: 4 + crash, Synced: 3 + crash})
		x.Sync()
	}
	if l := whole(x, 9, delOp("a")); len(l) != 1 || !sameAnswer(l[0], api.Answer{Req: 9, Code: api.AnOK, Result: api.Result{Found: true}}) {
		t.Errorf("%v", l)
	}
	if l := whole(x, 10, delOp("a")); len(l) != 1 || !sameAnswer(l[0], api.Answer{Req: 10, Code: api.AnOK}) {
		t.Errorf("%v", l)
	}
	if l := whole(x, 11, putOp("a", "z")); len(l) != 1 || !sameAnswer(l[0], api.Answer{Req: 11, Code: api.AnOK}) {
		t.Errorf("%v", l)
	}
	if l := whole(x, 12, putOp("a", "")); len(l) != 1 || !sameAnswer(l[0], api.Answer{Req: 12, Code: api.AnOK, Result: api.Result{Found: true}}) {
		t.Errorf("%v", l)
	}
	wantLog(t, x, append(x.Log()[:6], reDel(7, 4, 1, "a"), deleted(8, 4, 9, "a"), deleted(9, 4, 10, "a"), rePut(10, 4, 1, "a", "z"), committed(11, 4, 11, "a", "z"), rePut(12, 4, 1, "a", ""), committed(13, 4, 12, "a", ""))...)
}

// Operations of a node alone, in any turn, beside a plain map: each is answered once, and behind a crash all that was answered is found.
func TestAloneAtRandom(t *testing.T) {
	r := rand.New(rand.NewSource(257))
	for range 15 {
		x := alone(t)
		answered, calls := map[int]int{}, map[int]api.Op{}
		acked := 0
		take := func(l []api.Answer) {
			for _, a := range l {
				answered[a.Req]++
				op := calls[a.Req]
				if answered[a.Req] > 1 || op == (api.Op{}) {
					t.Fatalf("%+v is answered again, or was not called", a)
				}
				if a.Code == api.AnOK && (op.Kind == api.OpPut || op.Kind == api.OpDel) {
					acked++
					if _, ok := fold.Place(x.Log()[:x.View().Commit], a.Req); !ok {
						t.Fatalf("%+v is not committed", a)
					}
				}
				if _, ok := fold.Agrees(x.Log()[:x.View().Commit], op, a.Result, 0); a.Code == api.AnOK && !ok {
					t.Fatalf("%+v of %+v is no beginning's", a, op)
				}
				if a.Code != api.AnOK && a.Code != api.AnDiskFull && a.Code != api.AnNotPrimary && a.Code != api.AnNotReady {
					t.Fatalf("%+v", a)
				}
			}
		}
		req := 0
		for range 2000 {
			switch r.Intn(20) {
			case 0, 1, 2, 3, 4:
				req++
				calls[req] = anyOp(r, 150)
				take(x.Call(api.Call{Req: req, Op: calls[req]}).Answers)
			case 5, 6:
				take(x.Sync().Answers)
			case 7:
				take(x.Tick().Answers)
			case 8:
				if r.Intn(20) == 0 {
					x.Crash(r.Intn(x.Waits()+1), r.Intn(api.PageSize+1))
					x.Start()
					for range 10 {
						x.Tick()
					}
				}
			default:
				take(x.Work(r.Intn(16)).Answers)
			}
		}
		x.Sync()
		h := fold.History(x.Log())
		m, _ := fold.Behind(h, len(h))
		l := x.Call(api.Call{Req: req + 1, Op: scanOp("", "")}).Answers
		if len(l) != 1 || !slices.Equal(l[0].Result.Entries, m) || !fold.Once(h) || acked < 50 || len(m) < 20 {
			t.Errorf("%d acked, %d entries, %v", acked, len(m), l)
		}
	}
}

// 25.2: when calls are answered.

// three is a primary of three, of epoch 3, whose ReNoop is committed.
func three(t *testing.T) *replica.Node {
	t.Helper()
	x := primary(t, 0, 3, 2)
	x.Sync()
	ack(t, x, 1, 1)
	wantView(t, x, replica.View{Role: replica.Primary, Epoch: 3, Last: 1, Synced: 1, Commit: 1})
	return x
}

// ack has another node say that it has all up to an LSN.
func ack(t *testing.T, x *replica.Node, from, lsn int) replica.Done {
	t.Helper()
	return hear(t, x, from, replica.Message{Kind: replica.Acked, Epoch: 3, OK: true, Mark: api.Mark{LSN: lsn}})
}

func TestAnswersWaitForTheCommit(t *testing.T) {
	x := three(t)
	x.Call(api.Call{Req: 1, Op: putOp("a", "x")})
	x.Call(api.Call{Req: 2, Op: getOp("a")})
	x.Call(api.Call{Req: 3, Op: getOp("a")})
	wantAnswers(t, x.Work(1), api.Answer{Req: 2, Code: api.AnOK}) // read ahead of the put, when all was committed
	wantNothing(t, x.Work(0))                                     // LSNs 2 and 3
	wantNothing(t, x.Work(1))
	wantNothing(t, x.Call(api.Call{Req: 4, Op: scanOp("", "")}))
	wantNothing(t, x.Call(api.Call{Req: 5, Op: putOp("b", "y")}))
	wantNothing(t, x.Work(1)) // LSNs 4 and 5
	wantNothing(t, x.Call(api.Call{Req: 6, Op: scanOp("", "")}))
	wantNothing(t, x.Sync())
	wantNothing(t, ack(t, x, 2, 2))
	wantView(t, x, replica.View{Role: replica.Primary, Epoch: 3, Last: 5, Synced: 5, Commit: 2})
	a, b := api.Entry{Key: "a", Value: "x"}, api.Entry{Key: "b", Value: "y"}
	wantAnswers(t, ack(t, x, 1, 4), api.Answer{Req: 1, Code: api.AnOK}, api.Answer{Req: 3, Code: api.AnOK, Result: api.Result{Found: true, Value: "x"}}, api.Answer{Req: 4, Code: api.AnOK, Result: api.Result{Entries: []api.Entry{a}}})
	wantNothing(t, ack(t, x, 1, 4))
	wantAnswers(t, ack(t, x, 2, 5), api.Answer{Req: 5, Code: api.AnOK}, api.Answer{Req: 6, Code: api.AnOK, Result: api.Result{Entries: []api.Entry{a, b}}})
	wantNothing(t, ack(t, x, 1, 5))
	wantAnswers(t, x.Call(api.Call{Req: 7, Op: scanOp("b", "")}), api.Answer{Req: 7, Code: api.AnOK, Result: api.Result{Entries: []api.Entry{b}}})
	wantAnswers(t, x.Call(api.Call{Req: 8, Op: scanOp("", "b")}), api.Answer{Req: 8, Code: api.AnOK, Result: api.Result{Entries: []api.Entry{a}}})
}

// What waits or runs when it is primary no longer is stale, and is answered no more.
func TestAnswersOfOneThatIsPrimaryNoLonger(t *testing.T) {
	for kind := replica.Append; kind <= replica.Given; kind++ {
		x := three(t)
		x.Call(api.Call{Req: 1, Op: putOp("a", "x")})
		x.Work(0) // waits, and posts still
		x.Call(api.Call{Req: 2, Op: getOp("a")})
		x.Call(api.Call{Req: 3, Op: getOp("b")})
		x.Work(1) // waits
		x.Call(api.Call{Req: 4, Op: scanOp("", "")})
		x.Call(api.Call{Req: 5, Op: delOp("a")})
		d := hear(t, x, 1, replica.Message{Kind: kind, Epoch: 4})
		var reqs []int
		for _, a := range d.Answers {
			reqs = append(reqs, a.Req)
			if !sameAnswer(a, api.Answer{Req: a.Req, Code: api.AnStale}) {
				t.Errorf("%+v", a)
			}
		}
		slices.Sort(reqs)
		if !slices.Equal(reqs, []int{1, 2, 3, 4, 5}) {
			t.Errorf("stale are %v", reqs)
		}
		wantView(t, x, replica.View{Role: replica.Standby, Epoch: 4, Last: 3, Synced: 1, Commit: 1, Point: 1})
		for i := range 9 {
			wantNothing(t, x.Work(i))
		}
		wantAnswers(t, x.Sync())
		wantAnswers(t, hear(t, x, 1, replica.Message{Kind: replica.Append, Epoch: 4, Mark: api.Mark{Epoch: 3, LSN: 3}, Commit: 3}))
		wantAnswers(t, x.Call(api.Call{Req: 6, Op: putOp("a", "y")}), api.Answer{Req: 6, Code: api.AnNotPrimary})
	}
}

// 25.2: no room.

func TestNoRoomForMachines(t *testing.T) {
	x := alone(t)
	for i := range steps.MaxRunning {
		wantNothing(t, x.Call(api.Call{Req: 1 + i, Op: []api.Op{getOp("a"), putOp("a", "x"), delOp("b")}[i%3]}))
	}
	for i, op := range []api.Op{getOp("a"), putOp("a", "x"), delOp("b")} {
		wantAnswers(t, x.Call(api.Call{Req: 20 + i, Op: op}), api.Answer{Req: 20 + i, Code: api.AnDiskFull})
	}
	wantAnswers(t, x.Call(api.Call{Req: 30, Op: scanOp("", "")}), api.Answer{Req: 30, Code: api.AnOK})
	wantAnswers(t, x.Work(3*steps.MaxRunning), api.Answer{Req: 1, Code: api.AnOK}) // the first, by the rest
	wantNothing(t, x.Call(api.Call{Req: 40, Op: getOp("a")}))
	wantAnswers(t, x.Call(api.Call{Req: 41, Op: getOp("a")}), api.Answer{Req: 41, Code: api.AnDiskFull})
	if l := fold.History(x.Log()); len(l) != 0 {
		t.Errorf("%v", l)
	}
}

// Which machine a piece of work is of: the i'th that runs, of as many the rest of i.
func TestWorkOfAPrimary(t *testing.T) {
	begin := func() *replica.Node {
		x := alone(t)
		for i := range 3 {
			x.Call(api.Call{Req: 1 + i, Op: getOp("a")})
		}
		return x
	}
	for i := range 12 {
		wantAnswers(t, begin().Work(i), api.Answer{Req: 1 + i%3, Code: api.AnOK})
	}
	wantAnswers(t, begin().Work(math.MaxInt), api.Answer{Req: 1 + math.MaxInt%3, Code: api.AnOK})
	wantNothing(t, begin().Work(-1))
	wantNothing(t, begin().Work(math.MinInt))
	x := begin()
	wantAnswers(t, x.Work(1), api.Answer{Req: 2, Code: api.AnOK})
	wantAnswers(t, x.Work(1), api.Answer{Req: 3, Code: api.AnOK})
	wantAnswers(t, x.Work(1), api.Answer{Req: 1, Code: api.AnOK})
	wantNothing(t, x.Work(1))
}

func TestNoRoomForCallsThatWait(t *testing.T) {
	x := three(t)
	x.Call(api.Call{Req: 1, Op: putOp("a", "x")})
	wantNothing(t, x.Work(0))
	x.Call(api.Call{Req: 2, Op: putOp("b", "y")})
	x.Call(api.Call{Req: 3, Op: getOp("a")})
	for i := range session.MaxWaiting - 1 {
		wantNothing(t, x.Call(api.Call{Req: 100 + i, Op: scanOp("", "")}))
	}
	for i, op := range []api.Op{getOp("a"), putOp("a", "x"), delOp("b"), scanOp("", "")} {
		wantAnswers(t, x.Call(api.Call{Req: 20 + i, Op: op}), api.Answer{Req: 20 + i, Code: api.AnDiskFull})
	}
	wantNothing(t, x.Work(0)) // the first one's machine has its result: it goes on
	var l []api.Answer
	for range 9 {
		l = append(l, x.Work(0).Answers...)
	}
	if len(l) != 2 || !sameAnswer(l[0], api.Answer{Req: 2, Code: api.AnDiskFull}) || !sameAnswer(l[1], api.Answer{Req: 3, Code: api.AnDiskFull}) {
		t.Errorf("%v", l)
	}
	wantLog(t, x, noop(1, 3), rePut(2, 3, 1, "a", "x"), committed(3, 3, 1, "a", "x"))
	x.Sync()
	if d := ack(t, x, 2, 3); len(d.Answers) != session.MaxWaiting {
		t.Errorf("%d answers", len(d.Answers))
	}
	wantAnswers(t, x.Call(api.Call{Req: 9, Op: scanOp("b", "")}), api.Answer{Req: 9, Code: api.AnOK})
}

// The disk is full: what is refused is never done; all else is there, also behind a crash.
func TestNoRoomOnTheDisk(t *testing.T) {
	x := alone(t)
	acked, full := 0, 0
	for req := 1; full < 20; req++ {
		l := whole(x, req, putOp(fmt.Sprintf("key%05d", req%700), fmt.Sprintf("%032d", req)))
		if len(l) != 1 {
			t.Fatalf("%v", l)
		}
		switch l[0].Code {
		case api.AnOK:
			acked++
		case api.AnDiskFull:
			full++
			if _, there := fold.Place(x.Log(), req); there {
				t.Fatal("what was refused is done")
			}
		}
		if acked > 5000 {
			t.Fatal("it is never full")
		}
	}
	size := 0
	for _, r := range x.Log() {
		size += len(recordEntry(t, r))
	}
	if room := replica.Sectors * api.PageSize; size > room || size < room*9/10 {
		t.Errorf("%d bytes of %d", size, room)
	}
	log := x.Log()
	h := fold.History(log)
	m, _ := fold.Behind(h, len(h))
	if len(h) != acked {
		t.Errorf("%d acked, and %d done", acked, len(h))
	}
	for epoch := 2; epoch < 9; epoch++ {
		if l := whole(x, 1, delOp("key00001")); len(l) != 1 || l[0].Code != api.AnDiskFull {
			t.Errorf("%v", l)
		}
		if l := whole(x, 1, getOp(m[9].Key)); len(l) != 1 || l[0].Result.Value != m[9].Value {
			t.Errorf("%v", l)
		}
		if l := whole(x, 2, scanOp("", "")); len(l) != 1 || !slices.Equal(l[0].Result.Entries, m) {
			t.Errorf("%v", l)
		}
		x.Crash(0, 0)
		x.Start()
		wantLog(t, x, log...)
		for range 10 {
			x.Tick()
		}
		x.Sync()
		log = append(log, noop(len(log)+1, epoch))
		wantLog(t, x, log...)
	}
}

// A machine that runs when the disk gets full: its call is refused, if it has no result, and never done.
func TestNoRoomForWhatRuns(t *testing.T) {
	x := alone(t)
	atOnce, later := 0, 0
	for req := 1; ; req++ {
		was := x.Log()
		l := x.Call(api.Call{Req: 2 * req, Op: putOp(fmt.Sprintf("a%015d", req), strings.Repeat("v", 32))}).Answers
		l = append(l, x.Call(api.Call{Req: 2*req + 1, Op: putOp(fmt.Sprintf("b%015d", req), strings.Repeat("v", 32))}).Answers...)
		atOnce += len(l)
		for i := range 99 {
			l = append(l, x.Work(i).Answers...)
		}
		l = append(l, x.Sync().Answers...)
		if len(l) != 2 {
			t.Fatalf("%v", l)
		}
		refused := 0
		for _, a := range l {
			_, there := fold.Place(x.Log(), a.Req)
			if there != (a.Code == api.AnOK) {
				t.Fatalf("%+v, and it is done: %v", a, there)
			}
			if a.Code == api.AnDiskFull {
				refused++
			}
		}
		later += refused
		if refused == 2 && len(x.Log()) == len(was) {
			break
		}
	}
	if later <= atOnce {
		t.Error("none was refused that ran already")
	}
}

// Standbys whose journals are full take what is there, and no more.
func TestNoRoomOnAStandby(t *testing.T) {
	for first := range replica.MaxSend {
		noRoomOnAStandby(t, 1+first)
	}
}

// noRoomOnAStandby fills a journal by messages of as many records as may be, but the first.
func noRoomOnAStandby(t *testing.T, first int) {
	t.Helper()
	x := fresh(t, 1, 3)
	last, mark := 0, api.Mark{}
	for i := 0; ; i++ {
		m := replica.Message{Kind: replica.Append, Epoch: 1, Mark: mark, Commit: last}
		count := replica.MaxSend
		if i == 0 {
			count = first
		}
		for k := range count {
			m.Records = append(m.Records, rePage(last+1+k, 1, 2))
		}
		d := hear(t, x, 0, m)
		l := append(letters(t, d), letters(t, x.Sync())...)
		if len(l) != 1 || !l[0].m.OK || l[0].m.Mark.LSN != len(x.Log()) {
			t.Fatalf("%+v", l)
		}
		if len(x.Log()) == last {
			break
		}
		last = len(x.Log())
		mark = api.Mark{Epoch: 1, LSN: last}
		if i > 99 {
			t.Fatal("it is never full")
		}
	}
	wantView(t, x, replica.View{Role: replica.Standby, Epoch: 1, Last: last, Synced: last, Commit: last})
	log := x.Log()
	for epoch := 2; epoch < 2000; epoch++ { // promises fill the rest
		hear(t, x, 2, replica.Message{Kind: replica.Ask, Epoch: epoch, Mark: api.Mark{Epoch: 9, LSN: 9999}})
		x.Sync()
	}
	v := x.View()
	if v.Epoch == 1 || v.Epoch == 1999 {
		t.Errorf("%+v", v)
	}
	for range 99 {
		wantNothing(t, x.Tick()) // it can't stand
	}
	wantNothing(t, hear(t, x, 2, replica.Message{Kind: replica.Append, Epoch: 1999}))
	wantNothing(t, hear(t, x, 2, replica.Message{Kind: replica.Ask, Epoch: v.Epoch, Mark: api.Mark{Epoch: 9, LSN: 9999}}))
	if x.View() != v || x.Waits() != 0 {
		t.Errorf("%+v, not %+v", x.View(), v)
	}
	x.Crash(0, 0)
	x.Start()
	wantLog(t, x, log...)
	if x.View().Epoch != v.Epoch {
		t.Errorf("%+v", x.View())
	}
}

// filled is a standby of epoch 1 with some records, and a journal that has room for so many bytes more, but less than a ReNoop's above them.
func filled(t *testing.T, least int, log ...api.Record) *replica.Node {
	t.Helper()
	x := fresh(t, 0, 3)
	left := replica.Sectors*api.PageSize - len(promiseEntry(nobody))
	take := func(r api.Record) {
		m := replica.Message{Kind: replica.Append, Epoch: 1, Records: []api.Record{r}}
		if r.LSN > 1 {
			m.Mark = api.Mark{Epoch: 1, LSN: r.LSN - 1}
		}
		hear(t, x, 1, m)
		left -= len(recordEntry(t, r))
	}
	for _, r := range log {
		take(r)
	}
	long, short := rePage(1, 1, 2), noop(1, 1)
	for lsn := len(log) + 1; left >= least+len(recordEntry(t, short)); lsn++ {
		long.LSN, short.LSN = lsn, lsn
		if left >= least+len(recordEntry(t, long))+len(recordEntry(t, short)) {
			take(long)
		} else {
			take(short)
		}
	}
	x.Sync()
	return x
}

// step is how many bytes a journal needs for a step of a machine.
const step = 3 * 307

// Where there is no room to mend a tree, nothing can be done on it, and no ReNoop says that it is whole.
func TestNoRoomToMend(t *testing.T) {
	x := filled(t, len(promiseEntry(nobody))+step, rePut(1, 1, 1, "a", "x"), rePut(2, 1, 1, "b", "x"), rePut(3, 1, 1, "c", "x"))
	log := x.Log()
	for range 10 {
		x.Tick()
	}
	x.Sync()
	hear(t, x, 1, replica.Message{Kind: replica.Given, Epoch: 2, OK: true})
	wantLog(t, x, append(log, reDel(len(log)+1, 2, 1, "a"))...)
	if v := x.View(); v.Role != replica.Primary || v.Last != len(log)+1 {
		t.Errorf("%+v", v)
	}
	for i, op := range []api.Op{putOp("a", "x"), getOp("a"), scanOp("", "")} {
		wantAnswers(t, x.Call(api.Call{Req: 1 + i, Op: op}), api.Answer{Req: 1 + i, Code: api.AnDiskFull})
	}
}

// What clients write never takes the room that is kept for promises, and for what a primary appends, however many machines run, and whatever they have to post still.
func TestNoRoomForWhatIsPosted(t *testing.T) {
	const spare = 16 * api.PageSize
	posting := 0
	for more := 2000; more < 5000; more += 331 {
		x := filled(t, spare+step+more)
		for range 10 {
			x.Tick()
		}
		x.Sync()
		hear(t, x, 1, replica.Message{Kind: replica.Given, Epoch: 2, OK: true})
		left := replica.Sectors*api.PageSize - 2*len(promiseEntry(nobody))
		last := 0
		look := func() {
			t.Helper()
			l := x.Log()
			if left < spare+step && len(l) > last {
				t.Fatalf("%v are written, and only %d bytes were left", l[last:], left)
			}
			for _, r := range l[last:] {
				left -= len(recordEntry(t, r))
			}
			last = len(l)
		}
		look()
		cuts := 0
		for req := 1; req < 60; req++ {
			x.Call(api.Call{Req: req, Op: putOp(fmt.Sprintf("%016d", req*7919%1000), strings.Repeat("v", 32))})
			for i := range 3 {
				x.Work(req + i)
				look()
			}
		}
		for i := range 99 {
			x.Work(i)
			look()
		}
		for _, r := range x.Log() {
			switch r.Kind {
			case api.ReCut:
				cuts++
			case api.RePost:
				cuts--
			}
		}
		posting += cuts
	}
	if posting == 0 {
		t.Error("all was posted")
	}
}

// Who has no room for what a primary appends stands no more, but votes.
func TestNoRoomToStand(t *testing.T) {
	x := filled(t, len(promiseEntry(nobody))+step-51)
	was := x.View()
	for range 35 {
		wantNothing(t, x.Tick())
	}
	wantNothing(t, x.Sync())
	if x.View() != was || was.Role != replica.Standby {
		t.Errorf("%+v, not %+v", x.View(), was)
	}
	if ok, _ := asked(t, x, 2, 5); !ok {
		t.Error("it does not vote")
	}
	y := filled(t, len(promiseEntry(nobody))+step)
	for range 10 {
		wantNothing(t, y.Tick())
	}
	if v := y.View(); v.Role != replica.Candidate || v.Epoch != 2 {
		t.Errorf("%+v", v)
	}
}

// 25.2: what standbys read.

func TestStandbysRead(t *testing.T) {
	log := []api.Record{noop(1, 2), rePut(2, 2, 1, "a", "x"), committed(3, 2, 1, "a", "x"), rePut(4, 2, 1, "b", "y"), committed(5, 2, 2, "b", "y")}
	for _, role := range []int{replica.Standby, replica.Candidate} {
		x := standby(t, 1, 3, 2, log...)
		if role == replica.Candidate {
			for range patience(1) {
				x.Tick()
			}
		}
		notReady := api.Answer{Req: 1, Code: api.AnNotReady}
		get, scan := api.Call{Req: 1, Op: getOp("a")}, api.Call{Req: 1, Op: scanOp("", "")}
		commit := func(lsn int) {
			if role == replica.Standby {
				hear(t, x, 0, replica.Message{Kind: replica.Append, Epoch: 2, Mark: api.Mark{Epoch: 2, LSN: 5}, Commit: lsn})
			}
		}
		point := func(want int) {
			t.Helper()
			if v := x.View(); v.Point != want || v.Role != role {
				t.Errorf("%+v, not point %d in role %d", v, want, role)
			}
		}
		point(0)
		wantAnswers(t, x.Call(get), notReady)
		if role == replica.Candidate { // which hears of no commit
			continue
		}
		commit(1)
		point(1)
		wantAnswers(t, x.Call(get), api.Answer{Req: 1, Code: api.AnOK})
		wantAnswers(t, x.Call(scan), api.Answer{Req: 1, Code: api.AnOK})
		commit(5)
		point(1) // nothing is replayed yet
		for _, i := range []int{-1, 0, 2, 3, 7, math.MaxInt, math.MinInt} {
			wantNothing(t, x.Work(i)) // page 1 is not theirs
		}
		point(1)
		wantNothing(t, x.Work(1))
		point(3)
		one := api.Result{Entries: []api.Entry{{Key: "a", Value: "x"}}}
		wantAnswers(t, x.Call(get), api.Answer{Req: 1, Code: api.AnOK, Result: api.Result{Found: true, Value: "x"}})
		wantAnswers(t, x.Call(scan), api.Answer{Req: 1, Code: api.AnOK, Result: one})
		wantAnswers(t, x.Call(api.Call{Req: 1, Op: getOp("b")}), api.Answer{Req: 1, Code: api.AnOK})
		wantNothing(t, x.Work(1))
		point(5)
		wantAnswers(t, x.Call(api.Call{Req: 1, Op: scanOp("b", "c")}), api.Answer{Req: 1, Code: api.AnOK, Result: api.Result{Entries: []api.Entry{{Key: "b", Value: "y"}}}})
		wantNothing(t, x.Work(1))
		for range patience(1) { // it stands, and tells what it told
			x.Tick()
		}
		if v := x.View(); v.Role != replica.Candidate || v.Point != 5 {
			t.Errorf("%+v", v)
		}
		wantAnswers(t, x.Call(api.Call{Req: 1, Op: getOp("b")}), api.Answer{Req: 1, Code: api.AnOK, Result: api.Result{Found: true, Value: "y"}})
		x.Crash(0, 0)
		x.Start()
		wantAnswers(t, x.Call(get), notReady)
	}
}

// Between two pages of what belongs together no point is consistent.
func TestStandbysReadNothingBetween(t *testing.T) {
	log := []api.Record{noop(1, 2), rePage(2, 2, 2), rePage(3, 2, 3), rePut(4, 2, 1, "a", "x"), committed(5, 2, 1, "a", "x")}
	x := standby(t, 1, 3, 2, log...)
	hear(t, x, 0, replica.Message{Kind: replica.Append, Epoch: 2, Mark: api.Mark{Epoch: 2, LSN: 5}, Commit: 5})
	get := api.Call{Req: 1, Op: getOp("a")}
	wantAnswers(t, x.Call(get), api.Answer{Req: 1, Code: api.AnOK})
	for _, w := range []int{0, 1} { // page 2 is worker 0's, pages 1 and 3 are worker 1's
		x.Work(w)
		if v := x.View(); v.Point != 0 {
			t.Errorf("%+v", v)
		}
		wantAnswers(t, x.Call(get), api.Answer{Req: 1, Code: api.AnNotReady})
	}
	x.Work(1)
	wantAnswers(t, x.Call(get), api.Answer{Req: 1, Code: api.AnOK, Result: api.Result{Found: true, Value: "x"}})
}

// What can't be replayed stays, and no point behind it is told; pages that are no tree tell nothing.
func TestStandbysOfNoTree(t *testing.T) {
	x := standby(t, 1, 3, 2, noop(1, 2), rePut(2, 2, 9, "a", "x"), noop(3, 2))
	hear(t, x, 0, replica.Message{Kind: replica.Append, Epoch: 2, Mark: api.Mark{Epoch: 2, LSN: 3}, Commit: 3})
	for range 9 {
		wantNothing(t, x.Work(0))
		wantNothing(t, x.Work(1))
	}
	wantView(t, x, replica.View{Role: replica.Standby, Epoch: 2, Last: 3, Synced: 3, Commit: 3, Point: 1})
	y := standby(t, 1, 3, 2, api.Record{LSN: 1, Epoch: 2, Kind: api.ReCut, Page: 1, Other: 7, Key: "a"}, noop(2, 2))
	hear(t, y, 0, replica.Message{Kind: replica.Append, Epoch: 2, Mark: api.Mark{Epoch: 2, LSN: 2}, Commit: 2})
	y.Work(1)
	wantView(t, y, replica.View{Role: replica.Standby, Epoch: 2, Last: 2, Synced: 2, Commit: 2, Point: 2})
	wantAnswers(t, y.Call(api.Call{Req: 1, Op: getOp("a")}), api.Answer{Req: 1, Code: api.AnNotReady})
}

// Who read as primary reads nothing older as a standby, until it starts again.
func TestReadsNeverGoBack(t *testing.T) {
	for _, op := range []api.Op{getOp("b"), scanOp("", ""), putOp("c", "z")} {
		x := three(t)
		for i, k := range []string{"a", "b"} {
			x.Call(api.Call{Req: 1 + i, Op: putOp(k, "x")})
			x.Work(0)
			x.Work(0)
		}
		x.Sync()
		ack(t, x, 1, 5)
		x.Call(api.Call{Req: 9, Op: op})
		x.Work(0)
		x.Sync()
		ack(t, x, 1, len(x.Log()))
		hear(t, x, 2, replica.Message{Kind: replica.Acked, Epoch: 4})
		read := api.Call{Req: 10, Op: getOp("b")}
		want := []int{api.AnNotReady, api.AnNotReady, api.AnOK} // at points 1, 3 and 5
		if op.Kind == api.OpPut {                               // which reads nothing
			want = []int{api.AnOK, api.AnOK, api.AnOK}
		}
		for i, code := range want {
			if v := x.View(); v.Point != 1+2*i {
				t.Fatalf("%+v", v)
			}
			if l := x.Call(read).Answers; len(l) != 1 || l[0].Code != code {
				t.Errorf("behind %+v, at point %d: %v, not code %d", op, 1+2*i, l, code)
			}
			x.Work(1)
		}
		x.Sync()
		x.Crash(0, 0)
		x.Start()
		hear(t, x, 2, replica.Message{Kind: replica.Append, Epoch: 4, Mark: api.Mark{Epoch: 3, LSN: 5}, Commit: 1})
		wantAnswers(t, x.Call(read), api.Answer{Req: 10, Code: api.AnOK})
	}
}

// R3 and R6.

func TestNodesShareNothing(t *testing.T) {
	begin := func() *replica.Node {
		x := three(t)
		x.Call(api.Call{Req: 1, Op: putOp("a", "x")})
		x.Work(0)
		return x
	}
	x, twin := begin(), begin()
	b := append(bytesOf(t, replica.Message{Kind: replica.Acked, Epoch: 3, Mark: api.Mark{LSN: 0}}), 9, 9)
	was := slices.Clone(b)
	x.Message(1, b[:len(b)-2])
	twin.Message(1, was[:len(was)-2])
	if !slices.Equal(b, was) {
		t.Error("what was handed in was changed")
	}
	clear(b)
	for range 3 {
		clear(x.Log())
		x.Tick()
		twin.Tick()
		x.Call(api.Call{Req: 2, Op: scanOp("", "")})
		twin.Call(api.Call{Req: 2, Op: scanOp("", "")})
	}
	d, e := x.Sync(), twin.Sync()
	if !sameLetters(letters(t, d), letters(t, e)) || len(d.Outs) != 6 {
		t.Errorf("%+v", letters(t, d))
	}
	wipe := func(d replica.Done) {
		for _, o := range d.Outs {
			clear(o.Bytes[:cap(o.Bytes)])
		}
		clear(d.Outs[:cap(d.Outs)])
		for _, a := range d.Answers {
			clear(a.Result.Entries[:cap(a.Result.Entries)])
		}
		clear(d.Answers[:cap(d.Answers)])
	}
	wipe(d)
	d, e = ack(t, x, 2, 3), ack(t, twin, 2, 3)
	if !slices.EqualFunc(d.Answers, e.Answers, sameAnswer) || len(d.Answers) != 4 {
		t.Errorf("%+v", d)
	}
	clear(d.Answers[1].Result.Entries)
	if !sameAnswer(d.Answers[2], e.Answers[2]) {
		t.Error("two answers share their entries")
	}
	wipe(d)
	wantAnswers(t, x.Call(api.Call{Req: 3, Op: scanOp("", "")}), api.Answer{Req: 3, Code: api.AnOK, Result: api.Result{Entries: []api.Entry{{Key: "a", Value: "x"}}}})
	if !slices.Equal(x.Log(), twin.Log()) || x.View() != twin.View() {
		t.Errorf("%+v, not %+v", x.View(), twin.View())
	}
	outs := x.Tick().Outs
	clear(outs[0].Bytes[:cap(outs[0].Bytes)])
	if m, e := replica.Decode(outs[1].Bytes); e != api.OK || m.Kind != replica.Append {
		t.Error("two messages share their bytes")
	}
}

// R6: the same choices do the same.
func TestTheSameAgain(t *testing.T) {
	run := func() string {
		x := newSeveral(t, 3)
		r := rand.New(rand.NewSource(258))
		x.chaos(r, 50, 1500)
		x.apart(r, 50, 300)
		return fmt.Sprint(x.seen, x, x.net.Flight())
	}
	if run() != run() {
		t.Error("the same choices do not do the same")
	}
}

// P1: whatever right messages come, of whoever is a node, all calls end, each call is answered once at most, and behind a crash the log is a beginning of what was said.
func TestAnyMessagesAreBorne(t *testing.T) {
	r := rand.New(rand.NewSource(259))
	met := map[int]int{}
	for range 300 {
		n := 1 + r.Intn(4)
		id := r.Intn(n)
		x := fresh(t, id, n)
		answered, req := map[int]int{}, 0
		take := func(d replica.Done) {
			letters(t, d)
			for _, a := range d.Answers {
				answered[a.Req]++
				met[a.Code]++
				if answered[a.Req] > 1 || a.Req > req {
					t.Fatalf("%+v is answered again, or was not called", a)
				}
			}
		}
		for range 150 {
			v := x.View()
			switch r.Intn(10) {
			case 0:
				for range r.Intn(20) {
					take(x.Tick())
				}
			case 1, 2:
				req++
				take(x.Call(api.Call{Req: req, Op: anyOp(r, 20)}))
			case 3, 4:
				take(x.Work(r.Intn(10)))
			case 5:
				take(x.Sync())
			case 6:
				if r.Intn(5) == 0 {
					synced := x.Log()[:v.Synced]
					x.Crash(r.Intn(x.Waits()+1), r.Intn(api.PageSize+1))
					x.Start()
					if w := x.View(); w.Epoch > v.Epoch || w.Last != w.Synced || len(synced) > 0 && w.Last > 0 && x.Log()[0].LSN != 1 {
						t.Fatalf("%+v, %+v", v, w)
					}
				}
			default:
				take(hear(t, x, r.Intn(n), anyMessage(r, x, v)))
			}
		}
		if v := x.View(); v.Up {
			met[100+v.Role]++
		}
	}
	for _, what := range []int{api.AnOK, api.AnNotPrimary, api.AnStale, api.AnNotReady, api.AnDiskFull, 100 + replica.Standby, 100 + replica.Candidate, 100 + replica.Primary} {
		if met[what] < 10 {
			t.Errorf("%d was met %d times", what, met[what])
		}
	}
}

// anyMessage is a right one, often such that it is heard.
func anyMessage(r *rand.Rand, x *replica.Node, v replica.View) replica.Message {
	m := replica.Message{Kind: 1 + r.Intn(4), Epoch: max(v.Epoch+r.Intn(12)/5-r.Intn(9)/8, 0), Commit: r.Intn(v.Last + 5), OK: r.Intn(4) > 0}
	lsn := r.Intn(v.Last + 2)
	if r.Intn(2) == 0 {
		lsn = v.Last
	}
	m.Mark = api.Mark{Epoch: r.Intn(3), LSN: lsn}
	if lsn > 0 && lsn <= v.Last && r.Intn(8) > 0 {
		m.Mark.Epoch = x.Log()[lsn-1].Epoch
	}
	epoch := m.Mark.Epoch
	for i := range r.Intn(5) {
		epoch = min(epoch+r.Intn(4)/3, m.Epoch+r.Intn(2))
		one := anyRecord(r, lsn+1+i, epoch)
		if r.Intn(2) == 0 { // one that may be of a tree
			k := fmt.Sprintf("k%03d", r.Intn(20))
			one = []api.Record{noop(0, 0), rePut(0, 0, 1, k, "v"), reDel(0, 0, 1, k), committed(0, 0, 1+r.Intn(99), k, "v")}[r.Intn(4)]
			one.LSN, one.Epoch = lsn+1+i, epoch
		}
		m.Records = append(m.Records, one)
	}
	return m
}
