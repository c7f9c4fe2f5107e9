package replica_test

import (
	"encoding/binary"
	"fmt"
	"hash/crc32"
	"math"
	"math/rand"
	"slices"
	"strings"
	"testing"

	"lattice/api"
	"lattice/replica"
	"lattice/vote"
)

// entry is an entry of a journal, by the chapter's words: a text, its sum, a byte 165.
func entry(b []byte) []byte {
	return append(binary.LittleEndian.AppendUint32(text(b), crc32.ChecksumIEEE(b)), 165)
}

func recordEntry(t *testing.T, r api.Record) []byte {
	t.Helper()
	return entry(append([]byte{1}, frame(t, r)...))
}

func cutEntry(lsn uint64) []byte {
	return entry(binary.LittleEndian.AppendUint64([]byte{2}, lsn))
}

func promiseBytes(p vote.Promise) []byte {
	return sealed(append(binary.LittleEndian.AppendUint64(nil, uint64(p.Epoch)), byte(p.For+1)))
}

func promiseEntry(p vote.Promise) []byte {
	return entry(append([]byte{3}, promiseBytes(p)...))
}

// nobody is the promise of a journal that says none.
var nobody = vote.Promise{For: -1}

func wantJournal(t *testing.T, b []byte, log []api.Record, p vote.Promise, size int, why string) {
	t.Helper()
	if l, q, n := replica.Journal(b); !slices.Equal(l, log) || q != p || n != size {
		t.Errorf("Journal of %s: %v, %v, %d, not %v, %v, %d", why, l, q, n, log, p, size)
	}
}

// 25.1: Journal.

func TestJournalWithoutEntries(t *testing.T) {
	for _, b := range [][]byte{nil, {}, {0}, make([]byte, 6), make([]byte, 7), make([]byte, 1000), {165}, slices.Repeat([]byte{165}, 99), slices.Repeat([]byte{255}, 99999)} {
		wantJournal(t, b, nil, nobody, 0, fmt.Sprintf("%d bytes", len(b)))
	}
	wantJournal(t, entry(nil), nil, nobody, 0, "an empty text")
}

func TestJournalOfEachKind(t *testing.T) {
	one, two := noop(1, 3), rePut(2, 3, 1, "a", "x")
	b := slices.Concat(recordEntry(t, one), recordEntry(t, two))
	wantJournal(t, b, []api.Record{one, two}, nobody, len(b), "two records")
	for lsn, log := range [][]api.Record{nil, {one}, {one, two}} {
		c := append(slices.Clone(b), cutEntry(uint64(lsn))...)
		wantJournal(t, c, log, nobody, len(c), fmt.Sprintf("records cut at %d", lsn))
	}
	for _, p := range []vote.Promise{{Epoch: 0, For: -1}, {Epoch: 0, For: 2}, {Epoch: 1, For: -1}, {Epoch: api.MaxLSN, For: api.MaxNodes - 1}} {
		c := promiseEntry(p)
		wantJournal(t, c, nil, p, len(c), fmt.Sprint(p))
		c = append(slices.Clone(b), c...)
		wantJournal(t, c, []api.Record{one, two}, p, len(c), fmt.Sprint("records and ", p))
	}
	c := slices.Concat(b, cutEntry(1), recordEntry(t, noop(2, 4)), promiseEntry(vote.Promise{Epoch: 2, For: 1}), promiseEntry(vote.Promise{Epoch: 2, For: -1}), promiseEntry(vote.Promise{Epoch: 9}), cutEntry(2), recordEntry(t, rePage(3, 4, 2)))
	wantJournal(t, c, []api.Record{one, noop(2, 4), rePage(3, 4, 2)}, vote.Promise{Epoch: 9}, len(c), "all kinds")
}

// ends has an entry stand behind a beginning that is right, with anything behind it: it ends the journal, if it is not so.
func ends(t *testing.T, wrong []byte, why string) {
	t.Helper()
	log, p := []api.Record{noop(1, 3), noop(2, 5)}, vote.Promise{Epoch: 6, For: 1}
	b := slices.Concat(recordEntry(t, log[0]), recordEntry(t, log[1]), promiseEntry(p))
	for _, behind := range [][]byte{nil, make([]byte, 300), recordEntry(t, noop(3, 6)), cutEntry(0), promiseEntry(vote.Promise{Epoch: 7, For: 2}), slices.Repeat([]byte{165}, 300)} {
		wantJournal(t, slices.Concat(b, wrong, behind), log, p, len(b), why)
	}
}

func TestJournalEndsAtWhatIsNotRight(t *testing.T) {
	good := frame(t, noop(3, 5))
	text := func(kind byte, what ...byte) []byte { return append([]byte{kind}, what...) }
	for why, b := range map[string][]byte{
		"a record that is there already":       recordEntry(t, noop(2, 5)),
		"a record that leaves a gap":           recordEntry(t, noop(4, 5)),
		"a record of the first LSN":            recordEntry(t, noop(1, 5)),
		"a record whose epoch falls":           recordEntry(t, noop(3, 4)),
		"a frame with a byte behind":           entry(append(text(1, good...), 0)),
		"a frame that is cut":                  entry(text(1, good[:len(good)-1]...)),
		"no frame":                             entry(text(1)),
		"a frame whose sum is wrong":           entry(append(text(1, good[:len(good)-1]...), good[len(good)-1]^1)),
		"a frame of no right record":           entry(text(1, sealed(append([]byte{37, 0}, make([]byte, 37)...))...)),
		"a cut above the last LSN":             cutEntry(3),
		"a cut far above it":                   cutEntry(math.MaxInt64),
		"a cut of no number":                   cutEntry(math.MaxUint64),
		"a cut of fewer bytes":                 entry(text(2, 1, 0, 0, 0, 0, 0, 0)),
		"a cut of more bytes":                  entry(text(2, 1, 0, 0, 0, 0, 0, 0, 0, 0)),
		"a cut of none":                        entry(text(2)),
		"a promise that falls":                 promiseEntry(vote.Promise{Epoch: 5, For: 1}),
		"a promise that falls to the first":    promiseEntry(nobody),
		"a promise of fewer bytes":             entry(text(3, promiseBytes(vote.Promise{Epoch: 9})[:12]...)),
		"a promise of more bytes":              entry(append(text(3, promiseBytes(vote.Promise{Epoch: 9})...), 0)),
		"a promise whose sum is wrong":         entry(text(3, make([]byte, 13)...)),
		"a promise of no node":                 promiseEntry(vote.Promise{Epoch: 9, For: api.MaxNodes}),
		"a promise of no epoch":                promiseEntry(vote.Promise{Epoch: api.MaxLSN + 1}),
		"Kind 0":                               entry(text(0, good...)),
		"Kind 4":                               entry(text(4, good...)),
		"Kind 255":                             entry(text(255, good...)),
		"an empty text":                        entry(nil),
		"noughts":                              make([]byte, 7),
		"a long text of no kind that there is": entry(make([]byte, 60000)),
	} {
		ends(t, b, why)
	}
}

func TestJournalEndsAtWhatIsNotWhole(t *testing.T) {
	for _, whole := range [][]byte{recordEntry(t, rePut(3, 5, 1, "key", "value")), cutEntry(1), promiseEntry(vote.Promise{Epoch: 9, For: 2})} {
		for n := range whole {
			torn := slices.Clone(whole[:n])
			log := []api.Record{noop(1, 3), noop(2, 5)}
			b := slices.Concat(recordEntry(t, log[0]), recordEntry(t, log[1]))
			wantJournal(t, append(b, torn...), log, nobody, len(b), "an entry that is cut")
			wantJournal(t, slices.Concat(b, torn, make([]byte, 600)), log, nobody, len(b), "an entry that is torn")
			for bit := range 8 {
				turned := slices.Clone(whole)
				turned[n] ^= 1 << bit
				ends(t, turned, "an entry of which a bit is turned")
			}
		}
		for _, last := range []byte{0, 1, 164, 166, 255} {
			ends(t, append(slices.Clone(whole[:len(whole)-1]), last), "an entry that ends otherwise")
		}
	}
}

// A log has MaxRecords at most.
func TestJournalOfALogThatIsFull(t *testing.T) {
	var b []byte
	var log []api.Record
	size := 0
	for i := range api.MaxRecords + 2 {
		if i < api.MaxRecords {
			log = append(log, noop(i+1, 1))
		}
		b = append(b, recordEntry(t, noop(i+1, 1))...)
		if i == api.MaxRecords-1 {
			size = len(b)
		}
	}
	wantJournal(t, b, log, nobody, size, "more than MaxRecords")
}

// saying is what a journal says, as plainly as the chapter has it.
type saying struct {
	log     []api.Record
	promise vote.Promise
}

// anyEntry is an entry that is right behind what was said, and what is said behind it.
func anyEntry(t *testing.T, r *rand.Rand, s saying) ([]byte, saying) {
	t.Helper()
	switch r.Intn(4) {
	case 0:
		n := r.Intn(len(s.log) + 1)
		return cutEntry(uint64(n)), saying{s.log[:n:n], s.promise}
	case 1:
		p := vote.Promise{Epoch: s.promise.Epoch + r.Intn(3), For: r.Intn(api.MaxNodes+1) - 1}
		return promiseEntry(p), saying{s.log, p}
	}
	epoch := r.Intn(3)
	if len(s.log) > 0 {
		epoch += s.log[len(s.log)-1].Epoch
	}
	x := anyRecord(r, len(s.log)+1, epoch)
	return recordEntry(t, x), saying{append(slices.Clone(s.log), x), s.promise}
}

func TestJournalsAtRandom(t *testing.T) {
	r := rand.New(rand.NewSource(253))
	for range 200 {
		var b []byte
		said := []saying{{promise: nobody}}
		sizes := []int{0}
		for range r.Intn(40) {
			e, s := anyEntry(t, r, said[len(said)-1])
			b = append(b, e...)
			said, sizes = append(said, s), append(sizes, len(b))
		}
		last := len(said) - 1
		wantJournal(t, b, said[last].log, said[last].promise, len(b), "a journal at random")
		for range 20 { // cut anywhere, with noughts behind or not
			at := r.Intn(len(b) + 1)
			k := last
			for sizes[k] > at {
				k--
			}
			wantJournal(t, append(slices.Clone(b[:at]), make([]byte, r.Intn(2)*700)...), said[k].log, said[k].promise, sizes[k], "a journal that is cut")
		}
	}
}

func TestJournalSharesNothing(t *testing.T) {
	b := slices.Concat(recordEntry(t, rePut(1, 1, 1, "a", "x")), recordEntry(t, noop(2, 1)))
	want := []api.Record{rePut(1, 1, 1, "a", "x"), noop(2, 1)}
	wide := append(slices.Clone(b), recordEntry(t, noop(3, 1))...)
	was := slices.Clone(wide)
	one, _, size := replica.Journal(wide[:len(b)])
	two, _, _ := replica.Journal(wide[:len(b)])
	if !slices.Equal(wide, was) {
		t.Error("what was handed in was changed")
	}
	clear(wide)
	clear(one[:cap(one)])
	if !slices.Equal(two, want) || size != len(b) {
		t.Errorf("%v, %d", two, size)
	}
}

// 25.5: what lasts.

// standing is a node whose journal's entries are known: what was said behind each of them, and how many were synced.
type standing struct {
	t      *testing.T
	node   *replica.Node
	said   []saying
	synced int
}

func (x *standing) now() saying { return x.said[len(x.said)-1] }

// promise has the journal say a promise of a greater epoch.
func (x *standing) promise(epoch int) {
	if epoch > x.now().promise.Epoch {
		x.said = append(x.said, saying{x.now().log, vote.Promise{Epoch: epoch, For: -1}})
	}
}

// take has the node take records behind the first keep of its log, which are cut where they part.
func (x *standing) take(epoch, keep int, rs ...api.Record) {
	x.t.Helper()
	x.promise(epoch)
	log := x.now().log
	m := replica.Message{Kind: replica.Append, Epoch: epoch, Records: rs}
	if keep > 0 {
		m.Mark = api.Mark{Epoch: log[keep-1].Epoch, LSN: keep}
	}
	if len(rs) > 0 && keep < len(log) {
		log = log[:keep:keep]
		x.said = append(x.said, saying{log, x.now().promise})
	}
	for _, r := range rs {
		log = append(slices.Clone(log), r)
		x.said = append(x.said, saying{log, x.now().promise})
	}
	x.node.Message(1, bytesOf(x.t, m))
	x.look("a message")
}

func (x *standing) sync() {
	x.node.Sync()
	x.synced = len(x.said) - 1
	x.look("a sync")
}

// vote has it vote for node 2 in a greater epoch.
func (x *standing) vote(epoch int) {
	x.t.Helper()
	x.promise(epoch)
	x.said = append(x.said, saying{x.now().log, vote.Promise{Epoch: epoch, For: 2}})
	x.node.Message(2, bytesOf(x.t, replica.Message{Kind: replica.Ask, Epoch: epoch, Mark: api.Mark{Epoch: epoch, LSN: api.MaxLSN}}))
	x.look("an ask")
}

// look: the node's log and epoch are what its journal said last.
func (x *standing) look(why string) {
	x.t.Helper()
	if v := x.node.View(); !slices.Equal(x.node.Log(), x.now().log) || v.Epoch != x.now().promise.Epoch || v.Last != len(x.now().log) {
		x.t.Fatalf("behind %s: %+v, %v, not %+v", why, v, x.node.Log(), x.now())
	}
}

// crash has it crash and start: what it says then was said behind some entry, from the last that was synced on.
func (x *standing) crash(keep, torn int) int {
	x.t.Helper()
	waits := x.node.Waits()
	if e := x.node.Crash(keep, torn); e != api.OK {
		x.t.Fatal(e, keep, torn)
	}
	if x.node.Waits() != 0 {
		x.t.Fatal("something waits behind a crash")
	}
	down := x.node.Log()
	x.node.Start()
	v := x.node.View()
	for k := x.synced; k < len(x.said); k++ {
		s := x.said[k]
		if slices.Equal(x.node.Log(), s.log) && v.Epoch == s.promise.Epoch && (keep < waits || k == len(x.said)-1) {
			if !slices.Equal(down, s.log) || !v.Up || v.Role != replica.Standby || v.Last != len(s.log) || v.Synced != v.Last || v.Commit != 0 || v.Point != 0 {
				x.t.Fatalf("back: %+v, %v", v, down)
			}
			x.said = x.said[:k+1]
			x.synced = k
			return k
		}
	}
	x.t.Fatalf("Crash(%d, %d): %+v, %v: not said since entry %d: %+v", keep, torn, v, x.node.Log(), x.synced, x.said)
	return 0
}

func newStanding(t *testing.T, n int) *standing {
	return &standing{t: t, node: fresh(t, 0, n), said: []saying{{promise: nobody}}}
}

func TestWhatLasts(t *testing.T) {
	r := rand.New(rand.NewSource(255))
	whole, some, none := 0, 0, 0
	for range 150 {
		x := newStanding(t, 3)
		epoch := 1
		for range 60 {
			switch r.Intn(6) {
			case 0:
				epoch++
				x.vote(epoch)
			case 1:
				x.sync()
			case 2:
				if waits := x.node.Waits(); r.Intn(2) == 0 {
					was, synced := len(x.said)-1, x.synced
					k := x.crash(r.Intn(waits+1), r.Intn(api.PageSize+1))
					switch {
					case k == was:
						whole++
					case k == synced:
						none++
					default:
						some++
					}
					epoch = max(epoch, x.now().promise.Epoch)
				}
			default:
				keep := len(x.now().log)
				if r.Intn(5) == 0 && keep > 0 {
					keep = r.Intn(keep)
				}
				if keep < len(x.now().log) {
					epoch++ // another primary's
				}
				var rs []api.Record
				for i := range r.Intn(5) {
					rs = append(rs, anyRecord(r, keep+1+i, epoch))
				}
				x.take(epoch, keep, rs...)
			}
		}
	}
	if whole < 50 || some < 50 || none < 20 {
		t.Errorf("all lasted %d times, some %d times, none %d times", whole, some, none)
	}
}

// Each crash there is of some entries, some of them of more than one sector.
func TestEachCrash(t *testing.T) {
	begin := func() *standing {
		x := newStanding(t, 3)
		x.take(1, 0, noop(1, 1), rePage(2, 1, 2))
		x.sync()
		x.take(1, 2, rePage(3, 1, 3), noop(4, 1))
		x.take(2, 3, rePut(4, 2, 1, "a", "x"))
		x.vote(3)
		return x
	}
	met := map[int]int{}
	waits := begin().node.Waits()
	for keep := range waits + 1 {
		for torn := range api.PageSize + 1 {
			x := begin()
			met[x.crash(keep, torn)]++
		}
	}
	if all := begin(); len(met) != len(all.said)-all.synced { // each entry was the last that lasted
		t.Errorf("%v, of %d entries", met, len(all.said)-1)
	}
}

// asked is whether a node votes for another one, and whether it says so at once.
func asked(t *testing.T, x *replica.Node, from, epoch int) (bool, bool) {
	t.Helper()
	at := letters(t, x.Message(from, bytesOf(t, replica.Message{Kind: replica.Ask, Epoch: epoch, Mark: api.Mark{Epoch: api.MaxLSN}})))
	l := append(at, letters(t, x.Sync())...)
	if len(l) != 1 || l[0].to != from || l[0].m.Kind != replica.Given || l[0].m.Epoch != epoch {
		t.Fatalf("%+v", l)
	}
	return l[0].m.OK, len(at) == 1
}

// A vote that was told lasts; one that was not told may last or not.
func TestVotesLast(t *testing.T) {
	lasted, lost := 0, 0
	for keep := range 3 {
		for torn := range api.PageSize + 1 {
			x := fresh(t, 0, 3)
			d := x.Message(2, bytesOf(t, replica.Message{Kind: replica.Ask, Epoch: 4}))
			if len(d.Outs) != 0 || x.Waits() != 2 || x.View().Epoch != 4 {
				t.Fatalf("%+v, %+v", d, x.View())
			}
			x.Crash(keep, torn)
			x.Start()
			if ok, _ := asked(t, x, 1, 4); ok {
				lost++
				if keep == 2 {
					t.Fatal("the journal lasted, and the vote did not")
				}
				continue
			}
			lasted++
			if ok, atOnce := asked(t, x, 2, 4); !ok || !atOnce { // what was promised ahead needs no sync
				t.Fatal("it votes for nobody")
			}
		}
	}
	if lasted < 300 || lost < 250 {
		t.Errorf("lasted: %d, lost: %d", lasted, lost)
	}
	x := fresh(t, 0, 3)
	if ok, atOnce := asked(t, x, 2, 4); !ok || atOnce {
		t.Error("it did not vote, or ahead of its promise's sync")
	}
	for range 3 {
		x.Crash(0, 0)
		x.Start()
		if ok, _ := asked(t, x, 1, 4); ok {
			t.Error("it votes twice")
		}
		if ok, _ := asked(t, x, 2, 4); !ok {
			t.Error("it takes its vote back")
		}
	}
}

// What is left of an entry that was torn is never read, also where a shorter one takes its place that ends just where something stands that looks like an entry: here a value that is the entry of a cut at 0.
func TestWhatIsLeftOfATornEntryIsNeverRead(t *testing.T) {
	value := append(cutEntry(0), strings.Repeat("v", 16)...)
	torn := recordEntry(t, rePut(3, 1, 1, "123456789", string(value)))
	short := recordEntry(t, noop(3, 1))
	at := len(short)
	if string(torn[at:at+len(value)]) != string(value) {
		t.Fatal("the value does not stand where the shorter entry ends")
	}
	fill := api.PageSize - at - len(promiseEntry(vote.Promise{Epoch: 1})) // of two records ahead, so that the value begins a sector
	one := rePut(1, 1, 1, "1234567890123456", strings.Repeat("x", fill/2-51-16))
	two := rePut(2, 1, 1, "1234567890123456", strings.Repeat("x", fill-fill/2-51-16))
	for lasts := range len(torn) - at {
		x := newStanding(t, 3)
		x.take(1, 0, one, two)
		x.sync()
		x.take(1, 2, rePut(3, 1, 1, "123456789", string(value)))
		if n := x.node.Waits(); n != 2 {
			t.Fatalf("%d writes wait", n)
		}
		x.crash(1, lasts)
		for _, keep := range []int{0, 1, 2} { // it crashes again while it is written over
			x.take(1, 2, noop(3, 1))
			x.crash(min(keep, x.node.Waits()), lasts)
			if len(x.now().log) == 3 {
				x.take(1, 3) // it was written whole already
				break
			}
		}
		if len(x.now().log) == 2 {
			x.take(1, 2, noop(3, 1))
		}
		x.sync()
		x.crash(0, 0)
		if len(x.now().log) != 3 {
			t.Fatalf("%d bytes of the torn entry lasted: %v", lasts, x.now())
		}
	}
}
