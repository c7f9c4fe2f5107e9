package wal_test

import (
	"bytes"
	"math"
	"math/rand"
	"slices"
	"strings"
	"testing"

	"lattice/api"
	"lattice/page"
	"lattice/record"
	"lattice/wal"
)

// noop, put and commit are records that are right but for their LSN, which a log sets.
func noop(epoch int) api.Record { return api.Record{Epoch: epoch, Kind: api.ReNoop} }

func put(epoch int, k, v string) api.Record {
	return api.Record{Epoch: epoch, Kind: api.RePut, Page: 1, Key: k, Value: v}
}

func commit(epoch, req int) api.Record {
	return api.Record{Epoch: epoch, Kind: api.ReCommit, Other: 2, Req: req, Key: "k"}
}

// fresh is a record of a new page.
func fresh(epoch int) api.Record {
	b, e := page.Encode(api.Node{Keys: []string{"a"}, Vals: []string{"x"}})
	if e != api.OK {
		panic(e)
	}
	return api.Record{Epoch: epoch, Kind: api.ReNew, Page: 2, Value: string(b)}
}

// some are records of several kinds, whose epochs stay and rise.
func some() []api.Record {
	return []api.Record{noop(1), put(1, "a", "x"), commit(1, 9), fresh(1), noop(3), put(3, strings.Repeat("k", api.MaxKey), strings.Repeat("v", api.MaxValue)), commit(7, api.MaxReq)}
}

// numbered are records with the LSNs that a log gives them.
func numbered(rs []api.Record) []api.Record {
	l := slices.Clone(rs)
	for i := range l {
		l[i].LSN = i + 1
	}
	return l
}

// logOf is a log that was made by Append.
func logOf(t *testing.T, rs []api.Record) *wal.Log {
	t.Helper()
	l := wal.New()
	for i, r := range rs {
		wantAppend(t, l, r, i+1, api.OK)
	}
	return l
}

// many is a log of so many records.
func many(t *testing.T, n int) *wal.Log {
	t.Helper()
	l := wal.New()
	for i := range n {
		if lsn, e := l.Append(noop(i / 1000)); lsn != i+1 || e != api.OK {
			t.Fatalf("Append of record %d: %d, %v", i+1, lsn, e)
		}
	}
	return l
}

// frames are the frames of records as they are, one behind the other, whether they follow or not.
func frames(t *testing.T, rs ...api.Record) []byte {
	t.Helper()
	var b []byte
	for _, r := range rs {
		f, e := record.Encode(r)
		if e != api.OK {
			t.Fatalf("Encode(%v): %v", r, e)
		}
		b = append(b, f...)
	}
	return b
}

func wantErr(t *testing.T, what string, got, want api.Errno) {
	t.Helper()
	if got != want {
		t.Errorf("%s: %v, not %v", what, got, want)
	}
}

func wantAppend(t *testing.T, l *wal.Log, r api.Record, want int, wantE api.Errno) {
	t.Helper()
	if lsn, e := l.Append(r); lsn != want || e != wantE {
		t.Errorf("Append(%v): %d, %v, not %d, %v", r, lsn, e, want, wantE)
	}
}

// marks are what a log of these records tells, in words of the chapter.
func marks(rs []api.Record) []api.Mark {
	var l []api.Mark
	for epoch := range 100 {
		if i := slices.IndexFunc(rs, func(r api.Record) bool { return r.Epoch == epoch }); i >= 0 {
			l = append(l, api.Mark{Epoch: epoch, LSN: i + 1})
		}
	}
	return l
}

// wantLog holds a log against the records (of epochs below 100) that it should have: all that can be asked of it.
func wantLog(t *testing.T, l *wal.Log, rs []api.Record, flushed int) {
	t.Helper()
	rs = numbered(rs)
	epoch := 0
	if len(rs) > 0 {
		epoch = rs[len(rs)-1].Epoch
	}
	if last, e := l.Last(); last != len(rs) || e != epoch {
		t.Errorf("Last: %d, %d, not %d, %d", last, e, len(rs), epoch)
	}
	if l.Flushed() != flushed {
		t.Errorf("Flushed: %d, not %d", l.Flushed(), flushed)
	}
	for lsn := -1; lsn <= len(rs)+2; lsn++ {
		r, e := l.Get(lsn)
		if lsn >= 1 && lsn <= len(rs) {
			if r != rs[lsn-1] || e != api.OK {
				t.Errorf("Get(%d): %v, %v, not %v", lsn, r, e, rs[lsn-1])
			}
		} else if r != (api.Record{}) || e != api.ErrNone {
			t.Errorf("Get(%d): %v, %v, not ErrNone alone", lsn, r, e)
		}
	}
	if all := l.From(1, math.MaxInt); !slices.Equal(all, rs) {
		t.Errorf("From: %v, not %v", all, rs)
	}
	if m := l.Marks(); !slices.Equal(m, marks(rs)) {
		t.Errorf("Marks: %v, not %v", m, marks(rs))
	}
	if b := l.Bytes(); !bytes.Equal(b, frames(t, rs...)) {
		t.Errorf("Bytes of %d records: %v", len(rs), b)
	}
}

// wantRead holds what Read tells against the records that should be in the log, which has their frames' bytes.
func wantRead(t *testing.T, what string, b []byte, rs []api.Record) {
	t.Helper()
	l, n := wal.Read(b)
	if l == nil {
		t.Fatalf("Read of %s: no log", what)
	}
	if want := len(frames(t, numbered(rs)...)); n != want {
		t.Errorf("Read of %s: %d bytes, not %d", what, n, want)
	}
	wantLog(t, l, rs, len(rs))
}

// 10.1

func TestNew(t *testing.T) {
	l := wal.New()
	if l == nil {
		t.Fatal("New: nil")
	}
	wantLog(t, l, nil, 0)
	other := wal.New()
	wantAppend(t, l, noop(4), 1, api.OK)
	wantLog(t, other, nil, 0)
}

func TestAppend(t *testing.T) {
	l := wal.New()
	for i, r := range some() {
		wantAppend(t, l, r, i+1, api.OK)
		wantLog(t, l, some()[:i+1], 0)
	}
}

// Whatever LSN a record says, it gets the next one.
func TestAppendSetsTheLSN(t *testing.T) {
	l := wal.New()
	var rs []api.Record
	for i, lsn := range []int{0, 1, 1, 7, -1, math.MinInt, math.MaxInt, api.MaxLSN, api.MaxLSN + 1, 3} {
		r := put(0, "a", "x")
		r.LSN = lsn
		wantAppend(t, l, r, i+1, api.OK)
		rs = append(rs, r)
	}
	wantLog(t, l, rs, 0)
}

func TestEpochs(t *testing.T) {
	l := wal.New()
	wantAppend(t, l, noop(0), 1, api.OK)
	wantAppend(t, l, noop(0), 2, api.OK)
	wantAppend(t, l, noop(5), 3, api.OK)
	for _, epoch := range []int{4, 1, 0} {
		wantAppend(t, l, noop(epoch), 0, api.ErrLog)
	}
	wantAppend(t, l, noop(5), 4, api.OK)
	wantAppend(t, l, noop(6), 5, api.OK)
	wantAppend(t, l, noop(5), 0, api.ErrLog)
	wantLog(t, l, []api.Record{noop(0), noop(0), noop(5), noop(5), noop(6)}, 0)
	wantAppend(t, l, noop(api.MaxLSN), 6, api.OK)
	wantAppend(t, l, noop(api.MaxLSN-1), 0, api.ErrLog)
	wantAppend(t, l, noop(api.MaxLSN), 7, api.OK)
	if last, epoch := l.Last(); last != 7 || epoch != api.MaxLSN {
		t.Errorf("Last: %d, %d", last, epoch)
	}
}

// wrong are records that are not right, whatever their LSN.
func wrong() []api.Record {
	old, _ := page.Encode(api.Node{LSN: 1})
	return []api.Record{
		{}, {Epoch: 1}, {Epoch: 1, Kind: 8}, {Epoch: 1, Kind: -1},
		noop(-1), noop(math.MinInt), noop(api.MaxLSN + 1), noop(math.MaxInt),
		{Epoch: 1, Kind: api.ReNoop, Page: 1},
		put(1, "", "x"), put(1, strings.Repeat("k", api.MaxKey+1), "x"), put(1, "a", strings.Repeat("v", api.MaxValue+1)),
		commit(1, 0), commit(1, api.MaxReq+1),
		{Epoch: 1, Kind: api.ReNew, Page: 2, Value: "no page"},
		{Epoch: 1, Kind: api.ReNew, Page: 2, Value: string(old)},
	}
}

func TestAppendOfWrongRecords(t *testing.T) {
	for _, r := range wrong() {
		l := wal.New()
		wantAppend(t, l, r, 0, api.ErrRecord)
		wantLog(t, l, nil, 0)
		for _, r.LSN = range []int{1, 8, 9} {
			l = logOf(t, some())
			wantAppend(t, l, r, 0, api.ErrRecord) // also where the epoch is below the last one
			wantLog(t, l, some(), 0)
			wantAppend(t, l, noop(7), 8, api.OK)
		}
	}
}

func TestFullLog(t *testing.T) {
	l := many(t, api.MaxRecords)
	last := (api.MaxRecords - 1) / 1000
	for range 2 {
		wantAppend(t, l, noop(last), 0, api.ErrFull)
		wantAppend(t, l, noop(last+1), 0, api.ErrFull)
		wantAppend(t, l, noop(last-1), 0, api.ErrLog) // ahead of ErrFull
		wantAppend(t, l, noop(-1), 0, api.ErrRecord)  // ahead of both
		if n, epoch := l.Last(); n != api.MaxRecords || epoch != last {
			t.Fatalf("Last: %d, %d", n, epoch)
		}
	}
	wantErr(t, "Cut", l.Cut(api.MaxRecords-1), api.OK)
	wantAppend(t, l, noop(last), api.MaxRecords, api.OK)
	wantAppend(t, l, noop(last), 0, api.ErrFull)
}

// 10.2

func TestGetFarOff(t *testing.T) {
	for _, l := range []*wal.Log{nil, wal.New(), logOf(t, some())} {
		for _, lsn := range []int{math.MinInt, math.MinInt + 1, -8, 0, 8, 9, api.MaxRecords, api.MaxLSN, math.MaxInt} {
			if r, e := l.Get(lsn); r != (api.Record{}) || e != api.ErrNone {
				t.Errorf("Get(%d): %v, %v", lsn, r, e)
			}
		}
	}
}

func TestFrom(t *testing.T) {
	edges := []int{math.MinInt, math.MinInt + 1, -1, 0, 1, 2, 3, 6, 7, 8, 9, api.MaxLSN, math.MaxInt - 1, math.MaxInt}
	for n := range len(some()) + 1 {
		rs := numbered(some()[:n])
		l := logOf(t, rs)
		for _, lsn := range edges {
			for _, most := range edges {
				var want []api.Record
				for _, r := range rs {
					if r.LSN >= lsn && len(want) < most {
						want = append(want, r)
					}
				}
				if got := l.From(lsn, most); !slices.Equal(got, want) {
					t.Errorf("From(%d, %d) of %d: %v, not %v", lsn, most, n, got, want)
				}
			}
		}
	}
}

func TestCut(t *testing.T) {
	for lsn := range len(some()) + 1 {
		l := logOf(t, some())
		wantErr(t, "Cut", l.Cut(lsn), api.OK)
		wantLog(t, l, some()[:lsn], 0)
		for _, wrong := range []int{math.MinInt, -1, lsn + 1, len(some()), math.MaxInt} {
			if wrong != lsn {
				wantErr(t, "Cut", l.Cut(wrong), api.ErrArg)
			}
		}
		wantErr(t, "Cut of nothing", l.Cut(lsn), api.OK)
		wantLog(t, l, some()[:lsn], 0)
	}
}

// What was cut off says nothing any more: another epoch may follow what is left.
func TestAppendBehindACut(t *testing.T) {
	l := logOf(t, some())
	wantAppend(t, l, noop(2), 0, api.ErrLog)
	wantErr(t, "Cut", l.Cut(4), api.OK)
	wantAppend(t, l, noop(0), 0, api.ErrLog)
	wantAppend(t, l, noop(2), 5, api.OK)
	wantLog(t, l, append(some()[:4], noop(2)), 0)
	wantErr(t, "Cut", l.Cut(0), api.OK)
	wantLog(t, l, nil, 0)
	wantAppend(t, l, noop(0), 1, api.OK)
	wantLog(t, l, []api.Record{noop(0)}, 0)
}

func TestFlush(t *testing.T) {
	l := logOf(t, some())
	for _, c := range []struct {
		lsn, flushed int
		e            api.Errno
	}{
		{-1, 0, api.ErrArg}, {8, 0, api.ErrArg}, {math.MinInt, 0, api.ErrArg}, {math.MaxInt, 0, api.ErrArg},
		{0, 0, api.OK}, {1, 1, api.OK}, {1, 1, api.OK}, {4, 4, api.OK},
		{3, 4, api.OK}, {0, 4, api.OK}, // it was further
		{-1, 4, api.ErrArg}, {8, 4, api.ErrArg},
		{7, 7, api.OK}, {6, 7, api.OK},
	} {
		wantErr(t, "Flush", l.Flush(c.lsn), c.e)
		wantLog(t, l, some(), c.flushed)
	}
	wantAppend(t, l, noop(7), 8, api.OK)
	if l.Flushed() != 7 {
		t.Errorf("what is appended is flushed: %d", l.Flushed())
	}
	wantErr(t, "Flush", l.Flush(8), api.OK)
	if l.Flushed() != 8 {
		t.Errorf("Flushed: %d, not 8", l.Flushed())
	}
}

func TestFlushedBehindACut(t *testing.T) {
	for flushed := range len(some()) + 1 {
		for cut := range len(some()) + 1 {
			l := logOf(t, some())
			wantErr(t, "Flush", l.Flush(flushed), api.OK)
			wantErr(t, "Cut", l.Cut(cut), api.OK)
			wantLog(t, l, some()[:cut], min(flushed, cut))
			wantErr(t, "Flush", l.Flush(cut+1), api.ErrArg)
			wantErr(t, "Cut", l.Cut(cut+1), api.ErrArg)
			wantAppend(t, l, noop(9), cut+1, api.OK)
			wantLog(t, l, append(some()[:cut], noop(9)), min(flushed, cut))
		}
	}
}

func TestLogWithoutRecords(t *testing.T) {
	emptied := logOf(t, some())
	wantErr(t, "Flush", emptied.Flush(7), api.OK)
	wantErr(t, "Cut", emptied.Cut(0), api.OK)
	read, _ := wal.Read(nil)
	for _, l := range []*wal.Log{wal.New(), emptied, read} {
		for _, lsn := range []int{math.MinInt, -1, 1, 7, math.MaxInt} {
			wantErr(t, "Cut", l.Cut(lsn), api.ErrArg)
			wantErr(t, "Flush", l.Flush(lsn), api.ErrArg)
		}
		wantErr(t, "Cut", l.Cut(0), api.OK)
		wantErr(t, "Flush", l.Flush(0), api.OK)
		wantLog(t, l, nil, 0)
	}
}

// 10.3

func TestMarks(t *testing.T) {
	for _, c := range []struct {
		epochs []int
		want   []api.Mark
	}{
		{nil, nil},
		{[]int{0}, []api.Mark{{Epoch: 0, LSN: 1}}},
		{[]int{0, 0, 0}, []api.Mark{{Epoch: 0, LSN: 1}}},
		{[]int{4, 4}, []api.Mark{{Epoch: 4, LSN: 1}}},
		{[]int{0, 1}, []api.Mark{{Epoch: 0, LSN: 1}, {Epoch: 1, LSN: 2}}},
		{[]int{2, 2, 3, 3, 3, 9}, []api.Mark{{Epoch: 2, LSN: 1}, {Epoch: 3, LSN: 3}, {Epoch: 9, LSN: 6}}},
		{[]int{1, api.MaxLSN}, []api.Mark{{Epoch: 1, LSN: 1}, {Epoch: api.MaxLSN, LSN: 2}}},
	} {
		l := wal.New()
		for i, epoch := range c.epochs {
			wantAppend(t, l, noop(epoch), i+1, api.OK)
		}
		if m := l.Marks(); !slices.Equal(m, c.want) {
			t.Errorf("Marks of %v: %v, not %v", c.epochs, m, c.want)
		}
	}
}

func TestBytes(t *testing.T) {
	l := logOf(t, []api.Record{noop(1), put(2, "a", "xy")})
	b := l.Bytes()
	if len(b) != 43+46 || b[0] != 37 || b[2] != 1 || b[43] != 40 || b[45] != 2 {
		t.Errorf("Bytes: %v", b)
	}
}

// 10.4

func TestRead(t *testing.T) {
	for n := range len(some()) + 1 {
		wantRead(t, "a log", logOf(t, some()[:n]).Bytes(), some()[:n])
	}
	wantRead(t, "nil", nil, nil)
	wantRead(t, "no bytes", []byte{}, nil)
}

// What was read goes on as a log: it is flushed, appended to, cut.
func TestWhatWasReadGoesOn(t *testing.T) {
	l, _ := wal.Read(append(logOf(t, some()).Bytes(), 1, 2, 3))
	wantAppend(t, l, noop(6), 0, api.ErrLog)
	wantAppend(t, l, noop(8), 8, api.OK)
	wantLog(t, l, append(some(), noop(8)), 7)
	wantErr(t, "Cut", l.Cut(3), api.OK)
	wantLog(t, l, some()[:3], 3)
}

func TestReadWhereLSNsDoNotFollow(t *testing.T) {
	at := func(lsn int) api.Record {
		r := put(1, "a", "x")
		r.LSN = lsn
		return r
	}
	for _, first := range []int{2, 3, 65536, api.MaxLSN} {
		wantRead(t, "a log that begins behind 1", frames(t, at(first), at(1), at(2)), nil)
	}
	rs := []api.Record{at(1), at(2)}
	for _, next := range []int{1, 2, 4, 5, api.MaxLSN} {
		wantRead(t, "LSNs that do not follow", frames(t, at(1), at(2), at(next), at(3), at(next+1-next/api.MaxLSN)), rs)
	}
	wantRead(t, "LSNs that follow", frames(t, at(1), at(2), at(3), at(2)), append(rs, at(3)))
}

func TestReadWhereEpochsFall(t *testing.T) {
	rs := numbered([]api.Record{noop(0), noop(2), noop(2), noop(1), noop(3)})
	wantRead(t, "an epoch that falls", frames(t, rs...), rs[:3])
	rs = numbered([]api.Record{noop(2), noop(0), noop(2)})
	wantRead(t, "an epoch that falls to 0", frames(t, rs...), rs[:1])
	rs = numbered([]api.Record{noop(0), noop(0), noop(1), noop(1), noop(99)})
	wantRead(t, "epochs that stay and rise", frames(t, rs...), rs)
}

// A frame that is whole, with a right sum, may still be that of no right record.
func TestReadOfWrongRecords(t *testing.T) {
	ahead := numbered(some()[:2])
	b := frames(t, ahead...)
	next := put(1, "b", "y")
	next.LSN = 3
	f := frames(t, next)
	f[18] = 9 // the kind, so that the sum is another one
	wantRead(t, "a record of another sum", slices.Concat(b, f, frames(t, next)), ahead)
	for _, f := range [][]byte{{0, 0}, {0, 0, 0xff, 0xff, 0xff, 0xff}, make([]byte, 6), make([]byte, 43), make([]byte, 1000), bytes.Repeat([]byte{255}, 70000)} {
		wantRead(t, "bytes that are no frame", slices.Concat(b, f), ahead)
		wantRead(t, "bytes that are no frame, and one", slices.Concat(b, f, frames(t, next)), ahead)
		wantRead(t, "bytes that are no frame, first", slices.Concat(f, b), nil)
	}
}

func TestReadOfMaxRecords(t *testing.T) {
	l := many(t, api.MaxRecords)
	b := l.Bytes()
	more := noop(9999)
	more.LSN = api.MaxRecords + 1
	for _, behind := range [][]byte{nil, frames(t, more)} {
		x, n := wal.Read(slices.Concat(b, behind))
		last, epoch := x.Last()
		if n != len(b) || last != api.MaxRecords || epoch != (api.MaxRecords-1)/1000 || x.Flushed() != api.MaxRecords {
			t.Errorf("Read: %d bytes of %d, Last %d, %d, Flushed %d", n, len(b), last, epoch, x.Flushed())
		}
		if !slices.Equal(x.Marks(), l.Marks()) {
			t.Errorf("Read: Marks %v", x.Marks())
		}
		wantAppend(t, x, noop(9999), 0, api.ErrFull)
	}
}

func TestNilLog(t *testing.T) {
	var l *wal.Log
	for range 2 {
		for _, r := range some() {
			wantAppend(t, l, r, 0, api.ErrFull)
		}
		wantAppend(t, l, noop(0), 0, api.ErrFull)
		for _, r := range wrong() {
			wantAppend(t, l, r, 0, api.ErrRecord)
		}
		for _, lsn := range []int{math.MinInt, -1, 1, 2, api.MaxRecords, math.MaxInt} {
			wantErr(t, "Cut", l.Cut(lsn), api.ErrArg)
			wantErr(t, "Flush", l.Flush(lsn), api.ErrArg)
			if rs := l.From(lsn, 9); len(rs) != 0 {
				t.Errorf("From(%d, 9) of a nil log: %v", lsn, rs)
			}
		}
		wantErr(t, "Cut", l.Cut(0), api.OK)
		wantErr(t, "Flush", l.Flush(0), api.OK)
		wantLog(t, l, nil, 0)
	}
}

// 10.5

// wholeIn are the records of which all bytes are among the first n of their frames.
func wholeIn(t *testing.T, rs []api.Record, n int) []api.Record {
	t.Helper()
	for i, r := range numbered(rs) {
		if n -= len(frames(t, r)); n < 0 {
			return rs[:i]
		}
	}
	return rs
}

func TestReadOfBytesCutAnywhere(t *testing.T) {
	b := logOf(t, some()).Bytes()
	for n := range len(b) + 1 {
		wantRead(t, "a log that is cut", b[:n], wholeIn(t, some(), n)) // the rest stands behind, as spare room
	}
}

// Whatever stands behind that is no record that follows changes nothing; nor does it make a torn one whole.
func TestReadOfAnythingBehind(t *testing.T) {
	b := logOf(t, some()).Bytes()
	stranger := noop(50)
	stranger.LSN = len(some()) + 2
	g := rand.New(rand.NewSource(100))
	for n := range len(b) + 1 {
		whole := wholeIn(t, some(), n)
		clean := len(frames(t, numbered(whole)...))
		noise := make([]byte, 1+g.Intn(200))
		g.Read(noise)
		for _, behind := range [][]byte{noise, frames(t, stranger), bytes.Repeat([]byte{165}, 400)} {
			wantRead(t, "a log with anything behind", slices.Concat(b[:clean], behind), whole)
			if n > clean && !bytes.HasPrefix(behind, b[n:n+1]) {
				wantRead(t, "a torn log with anything behind", slices.Concat(b[:n], behind), whole)
			}
		}
	}
}

// Where a record that follows stands behind, it is the next one.
func TestReadOfARecordBehind(t *testing.T) {
	for n := range len(some()) + 1 {
		b := logOf(t, some()[:n]).Bytes()
		next := commit(50, 3)
		next.LSN = n + 1
		wantRead(t, "a log, and a record", slices.Concat(b, frames(t, next)), append(some()[:n:n], next))
		wantRead(t, "a log, a record, and some bytes", slices.Concat(b, frames(t, next), []byte{9}), append(some()[:n:n], next))
	}
}

// Any bit that is turned ends the log ahead of its record.
func TestReadOfTurnedBits(t *testing.T) {
	b := logOf(t, some()).Bytes()
	for bit := range 8 * len(b) {
		b[bit/8] ^= 1 << (bit % 8)
		want := wholeIn(t, some(), bit/8)
		if l, n := wal.Read(b); n != len(frames(t, numbered(want)...)) || !slices.Equal(l.From(1, 99), numbered(want)) {
			t.Errorf("Read with bit %d turned: %d bytes", bit, n)
		}
		b[bit/8] ^= 1 << (bit % 8)
	}
}

// Any calls, against a plain list.

func TestAnyCalls(t *testing.T) {
	g := rand.New(rand.NewSource(101))
	for range 200 {
		l := wal.New()
		var rs []api.Record
		flushed := 0
		for range 60 {
			lsn := g.Intn(len(rs)+4) - 1
			inside := lsn >= 0 && lsn <= len(rs)
			switch g.Intn(5) {
			case 0, 1, 2:
				r := some()[g.Intn(7)]
				r.Epoch = g.Intn(6)
				if len(rs) > 0 && g.Intn(4) > 0 {
					r.Epoch = min(99, rs[len(rs)-1].Epoch+g.Intn(2))
				}
				if len(rs) > 0 && r.Epoch < rs[len(rs)-1].Epoch {
					wantAppend(t, l, r, 0, api.ErrLog)
				} else {
					rs = append(rs, r)
					wantAppend(t, l, r, len(rs), api.OK)
				}
			case 3:
				if !inside {
					wantErr(t, "Flush", l.Flush(lsn), api.ErrArg)
				} else {
					wantErr(t, "Flush", l.Flush(lsn), api.OK)
					flushed = max(flushed, lsn)
				}
			case 4:
				if !inside {
					wantErr(t, "Cut", l.Cut(lsn), api.ErrArg)
				} else if g.Intn(2) == 0 {
					wantErr(t, "Cut", l.Cut(lsn), api.OK)
					rs, flushed = rs[:lsn], min(flushed, lsn)
				}
			}
		}
		wantLog(t, l, rs, flushed)
		wantRead(t, "a log", l.Bytes(), rs)
	}
}

// P1

func TestReadOfAnyBytes(t *testing.T) {
	g := rand.New(rand.NewSource(102))
	for range 20000 {
		b := make([]byte, g.Intn(120))
		g.Read(b)
		if l, n := wal.Read(b); n != 0 || l == nil || len(l.Bytes()) != 0 || l.Flushed() != 0 {
			t.Fatalf("Read of %v: %d", b, n)
		}
	}
}

// R3

func TestBytesHandedInStay(t *testing.T) {
	room := append(logOf(t, some()).Bytes(), 7, 8, 9)
	was := slices.Clone(room)
	l, n := wal.Read(room[:len(room)-3])
	if !bytes.Equal(room, was) {
		t.Error("Read has changed its bytes")
	}
	for i := range room {
		room[i] = 0xEE
	}
	wantLog(t, l, some(), 7)
	if n != len(room)-3 {
		t.Errorf("Read: %d bytes", n)
	}
}

func TestAnswersShareNothing(t *testing.T) {
	l := logOf(t, some())
	for _, lsn := range []int{1, 3, 7} {
		one, two := l.From(lsn, 3), l.From(lsn, 3)
		was := slices.Clone(two)
		one = one[:cap(one)]
		for i := range one {
			one[i] = api.Record{LSN: 99}
		}
		if !slices.Equal(two, was) {
			t.Error("two answers of From share memory")
		}
		wantLog(t, l, some(), 0)
	}
	marks, bytesOne := l.Marks(), l.Bytes()
	marks, bytesOne = marks[:cap(marks)], bytesOne[:cap(bytesOne)]
	for i := range marks {
		marks[i] = api.Mark{LSN: 99}
	}
	for i := range bytesOne {
		bytesOne[i] = 0xEE
	}
	wantLog(t, l, some(), 0)
}

// An answer stays as it is, whatever becomes of the log.
func TestAnswersStay(t *testing.T) {
	l := logOf(t, some())
	all, marks, b := l.From(1, 99), l.Marks(), l.Bytes()
	wasMarks, wasBytes := slices.Clone(marks), slices.Clone(b)
	wantErr(t, "Cut", l.Cut(2), api.OK)
	for i := range 9 {
		wantAppend(t, l, noop(40), 3+i, api.OK)
	}
	if !slices.Equal(all, numbered(some())) || !slices.Equal(marks, wasMarks) || !bytes.Equal(b, wasBytes) {
		t.Error("answers have changed with the log")
	}
	all = append(all[:2:cap(all)], api.Record{LSN: 77}) // and the log stays, whatever becomes of an answer
	if r, _ := l.Get(3); r.Epoch != 40 || r.LSN != 3 {
		t.Errorf("the log has changed with an answer: %v, %v", r, all[2])
	}
}

// The chapter's own example.

func TestExample(t *testing.T) {
	l := wal.New()
	wantAppend(t, l, noop(1), 1, api.OK)
	wantAppend(t, l, noop(3), 2, api.OK)
	if m := l.Marks(); !slices.Equal(m, []api.Mark{{Epoch: 1, LSN: 1}, {Epoch: 3, LSN: 2}}) {
		t.Errorf("Marks: %v", m)
	}
	b := l.Bytes()
	wantErr(t, "Cut", l.Cut(1), api.OK)
	if last, epoch := l.Last(); last != 1 || epoch != 1 {
		t.Errorf("Last: %d, %d", last, epoch)
	}
	wantRead(t, "the bytes less one", b[:len(b)-1], []api.Record{noop(1)})
}
