package vote_test

import (
	"bytes"
	"encoding/binary"
	"hash/crc32"
	"math"
	"math/rand"
	"slices"
	"testing"

	"lattice/api"
	"lattice/vote"
)

const (
	most = 1 << 40
	size = 13
)

var (
	epochs = []int{math.MinInt, -2, -1, 0, 1, 2, 3, 4, 258, most - 1, most, most + 1, math.MaxInt - 1, math.MaxInt}
	nodes  = []int{math.MinInt, -129, -3, -2, -1, 0, 1, 2, 3, 4, 5, 6, 7, 8, 255, 256, 263, most, math.MaxInt - 1, math.MaxInt}
)

func promise(epoch, node int) vote.Promise { return vote.Promise{Epoch: epoch, For: node} }

func mark(epoch, lsn int) api.Mark { return api.Mark{Epoch: epoch, LSN: lsn} }

// isNode tells whether a number is one of the greatest cluster's nodes.
func isNode(i int) bool { return slices.Contains([]int{0, 1, 2, 3, 4, 5, 6}, i) }

// isPromise tells whether a voter may have it, by the chapter's text.
func isPromise(p vote.Promise) bool {
	return p.Epoch >= 0 && p.Epoch <= most && (p.For == -1 || isNode(p.For))
}

// promises are all of each epoch and each node, most of them wrong.
func promises() []vote.Promise {
	var l []vote.Promise
	for _, epoch := range epochs {
		for _, node := range nodes {
			l = append(l, promise(epoch, node))
		}
	}
	return l
}

// rightPromises are those that a voter may have.
func rightPromises() []vote.Promise {
	return slices.DeleteFunc(promises(), func(p vote.Promise) bool { return !isPromise(p) })
}

// sealed are an epoch and a byte, with their sum behind them, whatever they are.
func sealed(epoch uint64, node byte) []byte {
	b := append(binary.LittleEndian.AppendUint64(nil, epoch), node)
	return binary.LittleEndian.AppendUint32(b, crc32.ChecksumIEEE(b))
}

// bytesOf are a right promise's bytes.
func bytesOf(p vote.Promise) []byte { return sealed(uint64(p.Epoch), byte(p.For+1)) }

func wantDecode(t *testing.T, b []byte, want vote.Promise, err api.Errno) {
	t.Helper()
	if p, e := vote.Decode(b); p != want || e != err {
		t.Errorf("Decode(%v): %v, %v, not %v, %v", b, p, e, want, err)
	}
}

// voter is one with a right promise.
func voter(t *testing.T, p vote.Promise) *vote.Voter {
	t.Helper()
	v, e := vote.New(p)
	if v == nil || e != api.OK {
		t.Fatalf("New(%v): %v, %v", p, v, e)
	}
	return v
}

func wantPromise(t *testing.T, v *vote.Voter, want vote.Promise) {
	t.Helper()
	for range 2 {
		if p := v.Promise(); p != want {
			t.Errorf("the promise is %v, not %v", p, want)
		}
	}
}

// tally is one of right arguments.
func tally(t *testing.T, n, epoch, me int) *vote.Tally {
	t.Helper()
	c, e := vote.Count(n, epoch, me)
	if c == nil || e != api.OK {
		t.Fatalf("Count(%d, %d, %d): %v, %v", n, epoch, me, c, e)
	}
	return c
}

// 22.1

func TestEncodeAndDecode(t *testing.T) {
	right, wrong := 0, 0
	for _, p := range promises() {
		b, e := vote.Encode(p)
		if !isPromise(p) {
			wrong++
			if len(b) != 0 || e != api.ErrArg {
				t.Errorf("Encode(%v): %v, %v", p, b, e)
			}
			continue
		}
		right++
		if !bytes.Equal(b, bytesOf(p)) || e != api.OK {
			t.Errorf("Encode(%v): %v, %v", p, b, e)
		}
		wantDecode(t, b, p, api.OK)
	}
	if right != 8*8 || wrong < 200 {
		t.Errorf("%d promises, %d that are none", right, wrong)
	}
}

func TestBytes(t *testing.T) {
	for _, c := range []struct {
		p    vote.Promise
		body []byte
	}{
		{promise(0, -1), []byte{0, 0, 0, 0, 0, 0, 0, 0, 0}},
		{promise(0, 0), []byte{0, 0, 0, 0, 0, 0, 0, 0, 1}},
		{promise(258, 2), []byte{2, 1, 0, 0, 0, 0, 0, 0, 3}},
		{promise(most, 6), []byte{0, 0, 0, 0, 0, 1, 0, 0, 7}},
		{promise(most-1, -1), []byte{255, 255, 255, 255, 255, 0, 0, 0, 0}},
	} {
		b, e := vote.Encode(c.p)
		if e != api.OK || len(b) != size || !bytes.Equal(b[:9], c.body) || binary.LittleEndian.Uint32(b[9:]) != crc32.ChecksumIEEE(c.body) {
			t.Errorf("Encode(%v): %v, %v", c.p, b, e)
		}
	}
}

// Bytes whose sum is right, and which are those of no promise.
func TestDecodeOfNoPromise(t *testing.T) {
	for _, epoch := range []uint64{0, 1, 258, most - 1, most, most + 1, most * 2, 1 << 48, 1<<63 - 1, 1 << 63, 1<<63 + 1, math.MaxUint64} {
		for node := range 256 {
			b := sealed(epoch, byte(node))
			if epoch <= most && node <= 7 {
				wantDecode(t, b, promise(int(epoch), node-1), api.OK)
			} else {
				wantDecode(t, b, vote.Promise{}, api.ErrForm)
			}
		}
	}
}

func TestDecodeOfTooFewBytes(t *testing.T) {
	for _, whole := range [][]byte{bytesOf(promise(3, 1)), make([]byte, size), bytes.Repeat([]byte{255}, size), sealed(math.MaxUint64, 255)} {
		for n := range size {
			wantDecode(t, whole[:n], vote.Promise{}, api.ErrCut) // though the rest stands behind its end
			wantDecode(t, slices.Clone(whole[:n]), vote.Promise{}, api.ErrCut)
		}
	}
	wantDecode(t, nil, vote.Promise{}, api.ErrCut)
	wantDecode(t, crcOnly(), vote.Promise{}, api.ErrCut)
}

// crcOnly are bytes that carry a right sum, and are too few.
func crcOnly() []byte {
	b := []byte{1, 2, 3}
	return binary.LittleEndian.AppendUint32(b, crc32.ChecksumIEEE(b))
}

func TestDecodeOfMoreBytes(t *testing.T) {
	for _, more := range [][]byte{{0}, {7}, make([]byte, 4), make([]byte, 300), bytesOf(promise(8, 2))} {
		for _, p := range rightPromises() {
			wantDecode(t, append(bytesOf(p), more...), p, api.OK)
		}
		wantDecode(t, append(sealed(3, 8), more...), vote.Promise{}, api.ErrForm)
		turned := append(bytesOf(promise(3, 1)), more...)
		turned[5] ^= 1
		wantDecode(t, turned, vote.Promise{}, api.ErrSum)
	}
	// A sum at the end of more bytes is not where a promise has it.
	b := append(binary.LittleEndian.AppendUint64(nil, 3), 1, 0)
	wantDecode(t, binary.LittleEndian.AppendUint32(b, crc32.ChecksumIEEE(b)), vote.Promise{}, api.ErrSum)
}

func TestDecodeOfWhatWasTurned(t *testing.T) {
	for _, p := range rightPromises() {
		whole := bytesOf(p)
		for i := range 8 * size {
			b := slices.Clone(whole)
			b[i/8] ^= 1 << (i % 8)
			wantDecode(t, b, vote.Promise{}, api.ErrSum)
		}
		for i := range size {
			for x := 1; x < 256; x++ {
				b := slices.Clone(whole)
				b[i] ^= byte(x)
				wantDecode(t, b, vote.Promise{}, api.ErrSum)
			}
		}
	}
}

func TestDecodeLooksAtTheSumFirst(t *testing.T) {
	for _, b := range [][]byte{sealed(most+1, 1), sealed(3, 8), sealed(1<<63, 0), sealed(math.MaxUint64, 255)} {
		wantDecode(t, b, vote.Promise{}, api.ErrForm)
		b[size-1] ^= 128
		wantDecode(t, b, vote.Promise{}, api.ErrSum)
	}
	wantDecode(t, make([]byte, size), vote.Promise{}, api.ErrSum)
	wantDecode(t, bytes.Repeat([]byte{255}, size), vote.Promise{}, api.ErrSum)
}

func TestNewer(t *testing.T) {
	for _, c := range []struct {
		a, b api.Mark
		want bool
	}{
		{mark(0, 0), mark(0, 0), true},
		{mark(2, 9), mark(2, 9), true}, {mark(2, 9), mark(2, 8), true}, {mark(2, 8), mark(2, 9), false},
		{mark(3, 1), mark(2, 9), true}, {mark(2, 9), mark(3, 1), false},
		{mark(3, 9), mark(2, 1), true}, {mark(2, 1), mark(3, 9), false},
		{mark(most, 0), mark(most-1, most), true}, {mark(most-1, most), mark(most, 0), false},
		{mark(math.MaxInt, math.MinInt), mark(math.MinInt, math.MaxInt), true}, {mark(math.MinInt, math.MaxInt), mark(math.MaxInt, math.MinInt), false},
		{mark(-1, 0), mark(0, 0), false}, {mark(0, -1), mark(0, 0), false}, {mark(0, 0), mark(-1, 5), true},
	} {
		if got := vote.Newer(c.a, c.b); got != c.want {
			t.Errorf("Newer(%v, %v): %v", c.a, c.b, got)
		}
	}
}

// Marks in their order: each is as new as those up to it, and no others.
func TestNewerInOrder(t *testing.T) {
	var l []api.Mark
	for _, epoch := range epochs {
		for _, lsn := range epochs {
			l = append(l, mark(epoch, lsn))
		}
	}
	for i, a := range l {
		for j, b := range l {
			if got := vote.Newer(a, b); got != (i >= j) {
				t.Errorf("Newer(%v, %v): %v", a, b, got)
			}
		}
	}
}

// 22.2

func TestNew(t *testing.T) {
	for _, p := range promises() {
		if isPromise(p) {
			wantPromise(t, voter(t, p), p)
		} else if v, e := vote.New(p); v != nil || e != api.ErrArg {
			t.Errorf("New(%v): %v, %v", p, v, e)
		}
	}
}

// asked is what Ask answers, and the promise behind it, by the chapter's words, one behind the other.
func asked(p vote.Promise, from, epoch int, end, mine api.Mark) (bool, vote.Promise) {
	if !isNode(from) {
		return false, p
	}
	if epoch < p.Epoch || epoch > most {
		return false, p
	}
	if epoch > p.Epoch {
		p = promise(epoch, -1)
	}
	if p.For != -1 && p.For != from {
		return false, p
	}
	asNew := end.Epoch > mine.Epoch || end.Epoch == mine.Epoch && end.LSN >= mine.LSN
	if !asNew {
		return false, p
	}
	p.For = from
	return true, p
}

func wantAsk(t *testing.T, v *vote.Voter, from, epoch int, end, mine api.Mark) bool {
	t.Helper()
	ahead := v.Promise()
	want, behind := asked(ahead, from, epoch, end, mine)
	got := v.Ask(from, epoch, end, mine)
	if p := v.Promise(); got != want || p != behind {
		t.Errorf("%v: Ask(%d, %d, %v, %v): %v and %v, not %v and %v", ahead, from, epoch, end, mine, got, p, want, behind)
	}
	return got
}

// ends are pairs of the one's end and the voter's own: as new, newer, not so new.
var ends = [][2]api.Mark{
	{mark(0, 0), mark(0, 0)}, {mark(2, 9), mark(2, 9)}, {mark(2, 9), mark(2, 8)}, {mark(3, 1), mark(2, 8)}, {mark(most, most), mark(most, most)},
	{mark(2, 7), mark(2, 8)}, {mark(2, 9), mark(3, 1)}, {mark(0, 0), mark(1, 1)}, {mark(-1, 5), mark(0, 0)},
	{mark(math.MaxInt, math.MaxInt), mark(math.MinInt, math.MinInt)}, {mark(math.MinInt, math.MinInt), mark(math.MaxInt, math.MaxInt)},
}

func TestAskOfEachPromise(t *testing.T) {
	for _, p := range rightPromises() {
		for _, from := range nodes {
			for _, epoch := range append([]int{p.Epoch - 1, p.Epoch, p.Epoch + 1}, epochs...) {
				for _, end := range ends {
					wantAsk(t, voter(t, p), from, epoch, end[0], end[1])
				}
			}
		}
	}
}

func TestAsk(t *testing.T) {
	old, end := mark(2, 7), mark(2, 8)
	for _, c := range []struct {
		what        string
		p           vote.Promise
		from, epoch int
		end         api.Mark
		want        bool
		behind      vote.Promise
	}{
		{"the promise's epoch, in which nobody was voted for", promise(3, -1), 1, 3, end, true, promise(3, 1)},
		{"the same one again", promise(3, 1), 1, 3, end, true, promise(3, 1)},
		{"the same one again, whose end is not so new now", promise(3, 1), 1, 3, old, false, promise(3, 1)},
		{"another one", promise(3, 1), 2, 3, end, false, promise(3, 1)},
		{"another one, whose end is newer", promise(3, 1), 0, 3, mark(9, 9), false, promise(3, 1)},
		{"an end that is not so new", promise(3, -1), 1, 3, old, false, promise(3, -1)},
		{"a lesser epoch", promise(3, -1), 1, 2, end, false, promise(3, -1)},
		{"a lesser epoch, of the one that was voted for", promise(3, 1), 1, 2, end, false, promise(3, 1)},
		{"an epoch below 0", promise(0, -1), 1, -1, end, false, promise(0, -1)},
		{"epoch 0", promise(0, -1), 1, 0, end, true, promise(0, 1)},
		{"a greater epoch", promise(3, 2), 1, 4, end, true, promise(4, 1)},
		{"a greater epoch, of the one that was voted for", promise(3, 1), 1, 9, end, true, promise(9, 1)},
		{"a greater epoch, with an end that is not so new", promise(3, 2), 1, 4, old, false, promise(4, -1)},
		{"a greater epoch, of the same one, with an end that is not so new", promise(3, 1), 1, 4, old, false, promise(4, -1)},
		{"the greatest epoch", promise(3, 2), 1, most, end, true, promise(most, 1)},
		{"the greatest epoch, which is the promise's", promise(most, -1), 6, most, end, true, promise(most, 6)},
		{"beyond the greatest epoch", promise(3, 2), 1, most + 1, end, false, promise(3, 2)},
		{"beyond it, where it is the promise's", promise(most, -1), 1, most + 1, end, false, promise(most, -1)},
		{"node 0", promise(3, -1), 0, 3, end, true, promise(3, 0)},
		{"the last node", promise(3, -1), 6, 3, end, true, promise(3, 6)},
		{"no node, though the epoch is greater", promise(3, -1), 7, 4, end, false, promise(3, -1)},
		{"below 0, though the epoch is greater", promise(3, 2), -1, 4, end, false, promise(3, 2)},
		{"nobody, where nobody was voted for", promise(3, -1), -1, 3, end, false, promise(3, -1)},
	} {
		v := voter(t, c.p)
		if got := v.Ask(c.from, c.epoch, c.end, end); got != c.want {
			t.Errorf("%s: %v", c.what, got)
		}
		wantPromise(t, v, c.behind)
	}
}

func TestAskTwice(t *testing.T) {
	old, end := mark(2, 7), mark(2, 8)
	v := voter(t, promise(3, -1))
	for i, c := range []struct {
		from, epoch int
		end         api.Mark
		want        bool
	}{
		{1, 4, old, false}, {2, 4, end, true}, {2, 4, end, true}, {2, 4, old, false}, {1, 4, end, false}, {2, 4, end, true}, {2, 3, end, false},
		{1, 5, old, false}, {2, 5, old, false}, {2, 4, end, false}, {1, 5, end, true}, {2, 5, mark(3, 1), false}, {1, 5, end, true}, {2, 6, end, true}, {1, 6, end, false},
	} {
		if got := wantAsk(t, v, c.from, c.epoch, c.end, end); got != c.want {
			t.Errorf("%d: Ask(%d, %d, %v): %v", i, c.from, c.epoch, c.end, got)
		}
	}
}

func TestSee(t *testing.T) {
	for _, p := range rightPromises() {
		for _, epoch := range append([]int{p.Epoch - 1, p.Epoch, p.Epoch + 1}, epochs...) {
			v := voter(t, p)
			want := epoch > p.Epoch && epoch <= most
			behind := p
			if want {
				behind = promise(epoch, -1)
			}
			if got := v.See(epoch); got != want {
				t.Errorf("%v: See(%d): %v", p, epoch, got)
			}
			wantPromise(t, v, behind)
			if v.See(epoch) {
				t.Errorf("%v: See(%d) again", p, epoch)
			}
			wantPromise(t, v, behind)
		}
	}
}

func TestStand(t *testing.T) {
	for _, p := range rightPromises() {
		for _, me := range nodes {
			v := voter(t, p)
			want, behind, err := p.Epoch+1, promise(p.Epoch+1, me), api.OK
			if !isNode(me) {
				want, behind, err = 0, p, api.ErrArg
			} else if p.Epoch == most {
				want, behind, err = 0, p, api.ErrFull
			}
			if got, e := v.Stand(me); got != want || e != err {
				t.Errorf("%v: Stand(%d): %d, %v", p, me, got, e)
			}
			wantPromise(t, v, behind)
		}
	}
}

func TestStandUpToTheGreatestEpoch(t *testing.T) {
	v := voter(t, promise(most-2, 3))
	for _, want := range []int{most - 1, most} {
		if n, e := v.Stand(5); n != want || e != api.OK {
			t.Errorf("Stand: %d, %v", n, e)
		}
		wantPromise(t, v, promise(want, 5))
	}
	for _, me := range []int{5, 0} {
		if n, e := v.Stand(me); n != 0 || e != api.ErrFull {
			t.Errorf("Stand(%d): %d, %v", me, n, e)
		}
	}
	if n, e := v.Stand(7); n != 0 || e != api.ErrArg {
		t.Errorf("Stand(7): %d, %v", n, e)
	}
	wantPromise(t, v, promise(most, 5))
}

// Voters have nothing in common.
func TestVotersAreTheirOwn(t *testing.T) {
	a, b := voter(t, promise(3, -1)), voter(t, promise(3, -1))
	a.Stand(1)
	wantPromise(t, b, promise(3, -1))
	b.See(9)
	wantPromise(t, a, promise(4, 1))
	p := a.Promise()
	a.See(5)
	if p != promise(4, 1) {
		t.Error("a promise has changed with its voter")
	}
}

// 22.3

func TestCount(t *testing.T) {
	for _, n := range nodes {
		for _, epoch := range epochs {
			for _, me := range append([]int{n - 1, n}, nodes...) {
				right := n >= 1 && n <= 7 && epoch >= 0 && epoch <= most && me >= 0 && me < n
				c, e := vote.Count(n, epoch, me)
				if !right {
					if c != nil || e != api.ErrArg {
						t.Errorf("Count(%d, %d, %d): %v, %v", n, epoch, me, c, e)
					}
					continue
				}
				if c == nil || e != api.OK || c.Epoch() != epoch || c.Won() != (n == 1) {
					t.Errorf("Count(%d, %d, %d): %v, %v", n, epoch, me, c, e)
				}
			}
		}
	}
}

// Votes of all sets of nodes, each twice, with votes between them that do not count.
func TestVote(t *testing.T) {
	for n := 1; n <= 7; n++ {
		for me := range n {
			for set := range 1 << n {
				c := tally(t, n, 5, me)
				voted := map[int]int{me: 1}
				for i := range n {
					for _, epoch := range []int{math.MinInt, -1, 0, 4, 6, most, most + 1, math.MaxInt} {
						if c.Vote(i, epoch) {
							t.Errorf("a vote of epoch %d counts in 5", epoch)
						}
					}
					for _, from := range []int{math.MinInt, -1, n, n + 1, 7, 63, 64, math.MaxInt} {
						if c.Vote(from, 5) || c.Vote(from, 4) {
							t.Errorf("a vote of %d counts among %d", from, n)
						}
					}
					if set>>i&1 == 0 {
						continue
					}
					for range 2 {
						if !c.Vote(i, 5) {
							t.Errorf("the vote of %d does not count among %d", i, n)
						}
						voted[i] = 1
						if got := c.Won(); got != (2*len(voted) > n) {
							t.Errorf("%d of %d have voted: %v", len(voted), n, got)
						}
					}
				}
				if c.Won() != (2*len(voted) > n) || c.Epoch() != 5 {
					t.Errorf("%d of %d have voted: %v, in %d", len(voted), n, c.Won(), c.Epoch())
				}
			}
		}
	}
}

func TestVoteAtTheEdgesOfEpochs(t *testing.T) {
	for _, epoch := range []int{0, 1, most - 1, most} {
		c := tally(t, 3, epoch, 2)
		if c.Vote(0, epoch-1) || c.Vote(0, epoch+1) || c.Won() || !c.Vote(0, epoch) || !c.Won() || c.Epoch() != epoch {
			t.Errorf("a tally of epoch %d", epoch)
		}
	}
}

// Tallies have nothing in common.
func TestTalliesAreTheirOwn(t *testing.T) {
	a, b := tally(t, 3, 4, 0), tally(t, 3, 4, 0)
	a.Vote(1, 4)
	if !a.Won() || b.Won() {
		t.Errorf("%v, %v", a.Won(), b.Won())
	}
}

// R6

func TestNilVoter(t *testing.T) {
	var v *vote.Voter
	for range 2 {
		for _, from := range nodes {
			for _, epoch := range epochs {
				if v.Ask(from, epoch, mark(2, 9), mark(2, 9)) || v.See(epoch) {
					t.Errorf("a nil voter votes for %d in %d", from, epoch)
				}
			}
			err := api.ErrState
			if !isNode(from) {
				err = api.ErrArg
			}
			if n, e := v.Stand(from); n != 0 || e != err {
				t.Errorf("Stand(%d): %d, %v", from, n, e)
			}
		}
		wantPromise(t, v, promise(0, -1))
	}
}

func TestNilTally(t *testing.T) {
	var c *vote.Tally
	for _, from := range nodes {
		for _, epoch := range epochs {
			if c.Vote(from, epoch) {
				t.Errorf("a nil tally counts %d in %d", from, epoch)
			}
		}
	}
	if c.Won() || c.Epoch() != 0 {
		t.Errorf("%v, %d", c.Won(), c.Epoch())
	}
}

// R3

func TestBytesStayAsTheyWere(t *testing.T) {
	for _, b := range [][]byte{bytesOf(promise(258, 2)), sealed(3, 9), append(bytesOf(promise(1, 1)), 5, 6), make([]byte, 20)} {
		was := slices.Clone(b)
		for n := range len(b) + 1 {
			one, eOne := vote.Decode(b[:n])
			two, eTwo := vote.Decode(slices.Clone(b[:n]))
			if one != two || eOne != eTwo {
				t.Errorf("the same call tells %v, %v and %v, %v", one, eOne, two, eTwo)
			}
		}
		if !bytes.Equal(b, was) {
			t.Errorf("what was handed in was changed: %v", b)
		}
	}
}

func TestBytesShareNothing(t *testing.T) {
	p := promise(258, 2)
	one, _ := vote.Encode(p)
	two, _ := vote.Encode(p)
	clear(one[:cap(one)])
	three, _ := vote.Encode(p)
	if !bytes.Equal(two, bytesOf(p)) || !bytes.Equal(three, bytesOf(p)) {
		t.Error("two answers share memory")
	}
}

// P1

func TestDecodeOfAnyBytes(t *testing.T) {
	r := rand.New(rand.NewSource(221))
	for range 20000 {
		b := make([]byte, r.Intn(30))
		r.Read(b)
		if len(b) >= size && r.Intn(2) == 0 { // with a right sum
			clear(b[5:8])
			b[8] &= 15
			binary.LittleEndian.PutUint32(b[9:], crc32.ChecksumIEEE(b[:9]))
		}
		p, e := vote.Decode(b)
		if e != api.OK {
			if p != (vote.Promise{}) {
				t.Fatalf("Decode(%v): %v, %v", b, p, e)
			}
			continue
		}
		if again, e := vote.Encode(p); e != api.OK || !bytes.Equal(again, b[:size]) {
			t.Fatalf("Decode(%v): %v, whose bytes are %v, %v", b, p, again, e)
		}
	}
}

// The chapter's own example.

func TestExample(t *testing.T) {
	v := voter(t, promise(3, -1))
	if !v.Ask(1, 4, mark(2, 9), mark(2, 8)) || v.Ask(2, 4, mark(2, 9), mark(2, 8)) || v.Ask(1, 3, mark(2, 9), mark(2, 8)) {
		t.Error("Ask")
	}
	wantPromise(t, v, promise(4, 1))
}
