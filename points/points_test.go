package points_test

import (
	"bytes"
	"encoding/binary"
	"hash/crc32"
	"math"
	"math/rand"
	"slices"
	"testing"

	"lattice/api"
	"lattice/points"
)

const size = 28

// sealed are three numbers, as bytes, with their sum behind them, whatever they are.
func sealed(number, lsn, redo uint64) []byte {
	var b []byte
	for _, n := range []uint64{number, lsn, redo} {
		b = binary.LittleEndian.AppendUint64(b, n)
	}
	return binary.LittleEndian.AppendUint32(b, crc32.ChecksumIEEE(b))
}

// bytesOf are a point's bytes, also of one that is no checkpoint.
func bytesOf(p points.Point) []byte {
	return sealed(uint64(p.Number), uint64(p.LSN), uint64(p.Redo))
}

// isPoint tells whether a point is a checkpoint, by the chapter's text.
func isPoint(p points.Point) bool {
	if p.Number < 1 || p.Number > 1<<40 {
		return false
	}
	if p.LSN < 0 || p.LSN > 1<<40 {
		return false
	}
	return p.Redo >= 1 && p.Redo-1 <= p.LSN
}

// edges are points with each number at its bounds, in all pairings.
func edges() []points.Point {
	var l []points.Point
	for _, number := range []int{math.MinInt, -1, 0, 1, 2, 258, 1<<40 - 1, 1 << 40, 1<<40 + 1, math.MaxInt} {
		for _, lsn := range []int{math.MinInt, -2, -1, 0, 1, 9, 1<<40 - 1, 1 << 40, 1<<40 + 1, math.MaxInt - 1, math.MaxInt} {
			redos := []int{math.MinInt, -1, 0, 1, 2, 9, 1 << 40, 1<<40 + 1, 1<<40 + 2, math.MaxInt}
			if lsn > math.MinInt && lsn < math.MaxInt-1 {
				redos = append(redos, lsn-1, lsn, lsn+1, lsn+2)
			}
			for _, redo := range redos {
				l = append(l, points.Point{Number: number, LSN: lsn, Redo: redo})
			}
		}
	}
	return l
}

// 15.1

func TestRedo(t *testing.T) {
	const most = 1<<40 - 1
	for _, c := range []struct {
		what   string
		firsts []int
		last   int
		want   int
		err    api.Errno
	}{
		{"none", nil, 9, 10, api.OK},
		{"none, an empty list", []int{}, 9, 10, api.OK},
		{"one", []int{4}, 9, 4, api.OK},
		{"the least one first", []int{2, 7, 3}, 9, 2, api.OK},
		{"the least one in the middle", []int{7, 2, 3}, 9, 2, api.OK},
		{"the least one last", []int{7, 3, 2}, 9, 2, api.OK},
		{"the least one twice", []int{3, 2, 9, 2}, 9, 2, api.OK},
		{"First of 1", []int{5, 1}, 9, 1, api.OK},
		{"First of last", []int{9}, 9, 9, api.OK},
		{"all of last", []int{9, 9}, 9, 9, api.OK},
		{"First of 1, which is last", []int{1}, 1, 1, api.OK},
		{"First beyond last", []int{10}, 9, 0, api.ErrArg},
		{"First far beyond last", []int{math.MaxInt}, 9, 0, api.ErrArg},
		{"First of 0", []int{0}, 9, 0, api.ErrArg},
		{"First below 0", []int{-1}, 9, 0, api.ErrArg},
		{"First far below 0", []int{math.MinInt}, 9, 0, api.ErrArg},
		{"a wrong one behind others", []int{3, 4, 10}, 9, 0, api.ErrArg},
		{"a wrong one ahead of others", []int{0, 4, 3}, 9, 0, api.ErrArg},
		{"a wrong one between others", []int{3, -4, 5}, 9, 0, api.ErrArg},
		{"last 0", nil, 0, 1, api.OK},
		{"last 0, with a page", []int{1}, 0, 0, api.ErrArg},
		{"last 0, with a page of 0", []int{0}, 0, 0, api.ErrArg},
		{"last below 0", nil, -1, 0, api.ErrArg},
		{"last below 0, with a page", []int{1}, -1, 0, api.ErrArg},
		{"last far below 0", nil, math.MinInt, 0, api.ErrArg},
		{"the greatest last", nil, most, most + 1, api.OK},
		{"the greatest last, with pages", []int{most, most - 1}, most, most - 1, api.OK},
		{"the greatest last, with a page of 1", []int{most, 1}, most, 1, api.OK},
		{"the greatest last, with a page beyond", []int{most + 1}, most, 0, api.ErrArg},
		{"last of MaxLSN", nil, most + 1, 0, api.ErrArg},
		{"last of MaxLSN, with a page", []int{3}, most + 1, 0, api.ErrArg},
		{"last far beyond", nil, math.MaxInt, 0, api.ErrArg},
	} {
		var l []points.Dirty
		if c.firsts != nil {
			l = []points.Dirty{}
		}
		for i, first := range c.firsts {
			l = append(l, points.Dirty{Page: i + 1, First: first})
		}
		for range 2 {
			if n, e := points.Redo(l, c.last); n != c.want || e != c.err {
				t.Errorf("%s: %d, %v", c.what, n, e)
			}
		}
	}
}

func TestRedoLooksAtNoPage(t *testing.T) {
	l := []points.Dirty{{Page: 0, First: 7}, {Page: -3, First: 5}, {Page: math.MaxInt, First: 6}, {Page: 0, First: 8}}
	if n, e := points.Redo(l, 9); n != 5 || e != api.OK {
		t.Errorf("%d, %v", n, e)
	}
}

func TestRedoOfMany(t *testing.T) {
	r := rand.New(rand.NewSource(1))
	for range 3000 {
		last := r.Intn(30)
		l := make([]points.Dirty, r.Intn(5))
		want, err := last+1, api.OK
		for i := range l {
			first := r.Intn(34) - 1
			if r.Intn(3) > 0 && last > 0 {
				first = 1 + r.Intn(last)
			}
			l[i] = points.Dirty{Page: r.Intn(9), First: first}
			want = min(want, first)
			if first < 1 || first > last {
				err = api.ErrArg
			}
		}
		if err != api.OK {
			want = 0
		}
		handed := slices.Clone(l)
		if n, e := points.Redo(l, last); n != want || e != err {
			t.Fatalf("Redo(%v, %d): %d, %v", l, last, n, e)
		}
		if !slices.Equal(l, handed) {
			t.Fatal("what was handed in was changed")
		}
	}
}

// 15.2

func TestEncodeAndDecode(t *testing.T) {
	right, wrong := 0, 0
	for _, p := range edges() {
		b, e := points.Encode(p)
		if !isPoint(p) {
			wrong++
			if len(b) != 0 || e != api.ErrArg {
				t.Errorf("Encode(%v): %v, %v", p, b, e)
			}
			if q, e := points.Decode(bytesOf(p)); q != (points.Point{}) || e != api.ErrForm {
				t.Errorf("Decode of what would be %v: %v, %v", p, q, e)
			}
			continue
		}
		right++
		if !bytes.Equal(b, bytesOf(p)) || e != api.OK {
			t.Errorf("Encode(%v): %v, %v", p, b, e)
		}
		if q, e := points.Decode(b); q != p || e != api.OK {
			t.Errorf("Decode of %v's bytes: %v, %v", p, q, e)
		}
	}
	if right < 50 || wrong < 500 {
		t.Errorf("%d checkpoints and %d that are none are too few", right, wrong)
	}
}

func TestBytes(t *testing.T) {
	b, e := points.Encode(points.Point{Number: 258, LSN: 9, Redo: 4})
	want := []byte{2, 1, 0, 0, 0, 0, 0, 0, 9, 0, 0, 0, 0, 0, 0, 0, 4, 0, 0, 0, 0, 0, 0, 0}
	if e != api.OK || len(b) != size || !bytes.Equal(b[:24], want) {
		t.Errorf("%v, %v", b, e)
	}
	if sum := binary.LittleEndian.Uint32(b[24:]); sum != crc32.ChecksumIEEE(want) {
		t.Errorf("the sum: %x", sum)
	}
}

func TestDecodeOfNumbersThatNoIntHolds(t *testing.T) {
	for _, n := range []uint64{1 << 63, 1<<63 + 1, math.MaxUint64} {
		for i, b := range [][]byte{sealed(n, 9, 4), sealed(1, n, 4), sealed(1, 9, n), sealed(n, n, n)} {
			if p, e := points.Decode(b); p != (points.Point{}) || e != api.ErrForm {
				t.Errorf("%d of %d: %v, %v", n, i, p, e)
			}
			if p, at, e := points.Choose(b, nil); p != (points.Point{}) || at != 0 || e != api.ErrNone {
				t.Errorf("Choose: %v, %d, %v", p, at, e)
			}
		}
	}
}

func TestDecodeOfTooFewBytes(t *testing.T) {
	for _, whole := range [][]byte{bytesOf(points.Point{Number: 3, LSN: 9, Redo: 4}), make([]byte, size), bytes.Repeat([]byte{255}, size)} {
		for n := range size {
			if p, e := points.Decode(whole[:n]); p != (points.Point{}) || e != api.ErrCut {
				t.Errorf("%d bytes: %v, %v", n, p, e)
			}
		}
	}
	if p, e := points.Decode(nil); p != (points.Point{}) || e != api.ErrCut {
		t.Errorf("nil: %v, %v", p, e)
	}
}

func TestDecodeOfMoreBytes(t *testing.T) {
	p := points.Point{Number: 3, LSN: 9, Redo: 4}
	for _, more := range [][]byte{{0}, {7}, make([]byte, 4), make([]byte, 300), bytesOf(points.Point{Number: 8, LSN: 2, Redo: 1})} {
		if q, e := points.Decode(append(bytesOf(p), more...)); q != p || e != api.OK {
			t.Errorf("%d bytes behind: %v, %v", len(more), q, e)
		}
		if q, e := points.Decode(append(bytesOf(points.Point{Number: 3, LSN: 9, Redo: 11}), more...)); q != (points.Point{}) || e != api.ErrForm {
			t.Errorf("%d bytes behind what is none: %v, %v", len(more), q, e)
		}
		b := append(bytesOf(p), more...)
		b[5] ^= 1
		if q, e := points.Decode(b); q != (points.Point{}) || e != api.ErrSum {
			t.Errorf("%d bytes behind what was turned: %v, %v", len(more), q, e)
		}
	}
	// Bytes that carry a sum at their end, but not where a checkpoint has it.
	b := make([]byte, 32)
	b = binary.LittleEndian.AppendUint32(b, crc32.ChecksumIEEE(b))
	if q, e := points.Decode(b); q != (points.Point{}) || e != api.ErrSum {
		t.Errorf("a sum at the end: %v, %v", q, e)
	}
}

func TestDecodeOfWhatWasTurned(t *testing.T) {
	for _, p := range []points.Point{{Number: 1, LSN: 0, Redo: 1}, {Number: 258, LSN: 9, Redo: 4}, {Number: 1 << 40, LSN: 1 << 40, Redo: 1<<40 + 1}} {
		whole := bytesOf(p)
		for i := range 8 * size {
			b := slices.Clone(whole)
			b[i/8] ^= 1 << (i % 8)
			if q, e := points.Decode(b); q != (points.Point{}) || e != api.ErrSum {
				t.Errorf("bit %d of %v turned: %v, %v", i, p, q, e)
			}
		}
		for i := range size {
			for x := range 256 {
				b := slices.Clone(whole)
				b[i] = byte(x)
				q, e := points.Decode(b)
				if x == int(whole[i]) && (q != p || e != api.OK) || x != int(whole[i]) && (q != points.Point{} || e != api.ErrSum) {
					t.Errorf("byte %d of %v is %d: %v, %v", i, p, x, q, e)
				}
			}
		}
	}
}

func TestDecodeLooksAtTheSumFirst(t *testing.T) {
	for _, p := range edges() {
		b := bytesOf(p)
		b[24] ^= 128
		if q, e := points.Decode(b); q != (points.Point{}) || e != api.ErrSum {
			t.Errorf("%v with another sum: %v, %v", p, q, e)
		}
	}
	if q, e := points.Decode(make([]byte, size)); q != (points.Point{}) || e != api.ErrSum {
		t.Errorf("bytes 0: %v, %v", q, e)
	}
}

// 15.3

// slot is what a slot may be, and the checkpoint that it holds (of Number 0: none).
type slot struct {
	bytes []byte
	point points.Point
}

// holding is a slot that begins with a checkpoint.
func holding(number, lsn, redo int, behind ...byte) slot {
	p := points.Point{Number: number, LSN: lsn, Redo: redo}
	return slot{append(bytesOf(p), behind...), p}
}

// slots are slots of all kinds.
func slots() []slot {
	var turned []slot
	for i := range 8 * size {
		b := bytesOf(points.Point{Number: 5, LSN: 9, Redo: 4})
		b[i/8] ^= 1 << (i % 8)
		if i%8 == i/8%8 {
			turned = append(turned, slot{bytes: b})
		}
	}
	l := []slot{
		{}, {bytes: []byte{}}, {bytes: []byte{0}}, {bytes: make([]byte, size)}, {bytes: make([]byte, 300)}, {bytes: bytes.Repeat([]byte{255}, 99)},
		{bytes: bytesOf(points.Point{Number: 0, LSN: 9, Redo: 4})},
		{bytes: bytesOf(points.Point{Number: 1<<40 + 1, LSN: 9, Redo: 4})},
		{bytes: bytesOf(points.Point{Number: 7, LSN: -1, Redo: 0})},
		{bytes: bytesOf(points.Point{Number: 7, LSN: 9, Redo: 0})},
		{bytes: bytesOf(points.Point{Number: 7, LSN: 9, Redo: 11})},
		{bytes: append([]byte{0}, bytesOf(points.Point{Number: 7, LSN: 9, Redo: 4})...)},
		holding(1, 0, 1), holding(1, 9, 4), holding(2, 12, 13), holding(5, 9, 4), holding(5, 3, 2), holding(5, 9, 4, 0), holding(6, 9, 9, make([]byte, 300)...),
		holding(6, 7, 7, bytesOf(points.Point{Number: 9, LSN: 9, Redo: 1})...),
		holding(1000, 1, 1), holding(1<<40-1, 5, 5), holding(1<<40, 8, 8), holding(1<<40, 1<<40, 1<<40+1, 1),
	}
	for n := range size {
		l = append(l, slot{bytes: bytesOf(points.Point{Number: 5, LSN: 9, Redo: 4})[:n]})
	}
	return append(l, turned...)
}

// chosen is which checkpoint counts, by the chapter's text.
func chosen(a, b slot) (points.Point, int, api.Errno) {
	switch {
	case a.point.Number == 0 && b.point.Number == 0:
		return points.Point{}, 0, api.ErrNone
	case b.point.Number > a.point.Number:
		return b.point, 1, api.OK
	}
	return a.point, 0, api.OK
}

func TestChoose(t *testing.T) {
	for _, a := range slots() {
		for _, b := range slots() {
			p, at, e := chosen(a, b)
			if q, i, f := points.Choose(a.bytes, b.bytes); q != p || i != at || f != e {
				t.Errorf("Choose(%v, %v): %v, %d, %v, not %v, %d, %v", a, b, q, i, f, p, at, e)
			}
		}
	}
}

func TestChooseOfTheSameNumberIsTheFirst(t *testing.T) {
	a, b := holding(5, 3, 2), holding(5, 9, 4)
	if p, i, e := points.Choose(a.bytes, b.bytes); p != a.point || i != 0 || e != api.OK {
		t.Errorf("%v, %d, %v", p, i, e)
	}
	if p, i, e := points.Choose(b.bytes, a.bytes); p != b.point || i != 0 || e != api.OK {
		t.Errorf("%v, %d, %v", p, i, e)
	}
}

func TestNext(t *testing.T) {
	toNext := []points.Point{{LSN: 9, Redo: 4}, {Number: 77, LSN: 0, Redo: 1}, {Number: -1, LSN: 1 << 40, Redo: 1<<40 + 1}, {Number: math.MaxInt, LSN: 3, Redo: 3},
		{LSN: 9, Redo: 0}, {LSN: 9, Redo: 11}, {LSN: -1, Redo: 0}, {LSN: 1<<40 + 1, Redo: 1}, {Number: 5}, {}}
	for _, a := range slots() {
		for _, b := range slots() {
			ahead, at, e := chosen(a, b)
			to := 0
			if e == api.OK {
				to = 1 - at
			}
			for _, p := range toNext {
				want := points.Point{Number: ahead.Number + 1, LSN: p.LSN, Redo: p.Redo}
				wantNext(t, a, b, p, want, to)
			}
		}
	}
}

// wantNext tells whether Next tells a checkpoint and its slot, or, if it is none, an error.
func wantNext(t *testing.T, a, b slot, p, want points.Point, to int) {
	t.Helper()
	q, at, written, e := points.Next(a.bytes, b.bytes, p)
	if !isPoint(want) {
		if q != (points.Point{}) || at != 0 || len(written) != 0 || e != api.ErrArg {
			t.Errorf("Next(%v, %v, %v): %v, %d, %v, %v", a, b, p, q, at, written, e)
		}
		return
	}
	if q != want || at != to || !bytes.Equal(written, bytesOf(want)) || e != api.OK {
		t.Errorf("Next(%v, %v, %v): %v, %d, %v, %v, not %v in %d", a, b, p, q, at, written, e, want, to)
	}
}

func TestNextOfAllPoints(t *testing.T) {
	for _, p := range edges() {
		wantNext(t, slot{}, slot{}, p, points.Point{Number: 1, LSN: p.LSN, Redo: p.Redo}, 0)
		wantNext(t, holding(6, 1, 1), slot{}, p, points.Point{Number: 7, LSN: p.LSN, Redo: p.Redo}, 1)
		wantNext(t, slot{}, holding(1<<40-1, 1, 1), p, points.Point{Number: 1 << 40, LSN: p.LSN, Redo: p.Redo}, 0)
		wantNext(t, holding(1<<40, 1, 1), holding(1, 1, 1), p, points.Point{Number: 1<<40 + 1, LSN: p.LSN, Redo: p.Redo}, 1)
	}
}

// 15.4

// torn is a slot to which a beginning of some bytes was written.
func torn(was, written []byte, n int) []byte {
	b := slices.Clone(was)
	for len(b) < n {
		b = append(b, 0)
	}
	copy(b, written[:n])
	return b
}

// wantOneOf tells whether Choose tells the checkpoint ahead (or none, if there was none) or the new one: that, if all of it lasts.
func wantOneOf(t *testing.T, now [2][]byte, ahead, next points.Point, all bool) {
	t.Helper()
	p, at, e := points.Choose(now[0], now[1])
	switch {
	case p == next && e == api.OK:
		if !bytes.Equal(now[at][:size], bytesOf(next)) {
			t.Errorf("%v is not in slot %d", next, at)
		}
	case all, p != ahead, (e == api.OK) != (ahead.Number > 0):
		t.Errorf("Choose(%v, %v): %v, %d, %v; ahead %v, next %v", now[0], now[1], p, at, e, ahead, next)
	}
}

func TestTornAtEachByte(t *testing.T) {
	r := rand.New(rand.NewSource(4))
	begin := slots()
	for range 400 {
		now := [2][]byte{begin[r.Intn(len(begin))].bytes, begin[r.Intn(len(begin))].bytes}
		for range 12 {
			ahead, was, none := points.Choose(now[0], now[1])
			lsn := r.Intn(1 << uint(r.Intn(41)))
			next, to, written, e := points.Next(now[0], now[1], points.Point{LSN: lsn, Redo: 1 + r.Intn(lsn+1)})
			if ahead.Number == 1<<40 {
				if e != api.ErrArg {
					t.Fatalf("a Number beyond all: %v", e)
				}
				break
			}
			if e != api.OK || len(written) != size || none == api.OK && to == was {
				t.Fatalf("Next(%v, %v): %v, %d, %v, %v", now[0], now[1], next, to, written, e)
			}
			for n := range size + 1 {
				after := now
				after[to] = torn(now[to], written, n)
				wantOneOf(t, after, ahead, next, n == size)
			}
			n := size
			if r.Intn(3) == 0 {
				n = r.Intn(size + 1)
			}
			now[to] = torn(now[to], written, n)
		}
	}
}

func TestRowOfCheckpoints(t *testing.T) {
	var now [2][]byte
	var ahead points.Point
	for i := 1; i <= 600; i++ {
		p, to, written, e := points.Next(now[0], now[1], points.Point{LSN: 3 * i, Redo: 2 * i})
		if want := (points.Point{Number: i, LSN: 3 * i, Redo: 2 * i}); p != want || to != (i+1)%2 || e != api.OK {
			t.Fatalf("%d: %v, %d, %v", i, p, to, e)
		}
		for n := range size + 1 {
			after := now
			after[to] = torn(now[to], written, n)
			wantOneOf(t, after, ahead, p, n == size)
		}
		now[to], ahead = written, p
	}
}

// R3, R6

func TestNothingIsShared(t *testing.T) {
	room := bytesOf(points.Point{Number: 3, LSN: 9, Redo: 4})
	a := append(make([]byte, 0, 99), room...)
	b := append(make([]byte, 0, 99), bytesOf(points.Point{Number: 4, LSN: 12, Redo: 5})...)
	wasA, wasB := slices.Clone(a[:99]), slices.Clone(b[:99])
	points.Decode(a)
	points.Choose(a, b)
	_, _, one, _ := points.Next(a, b, points.Point{LSN: 20, Redo: 6})
	_, _, two, _ := points.Next(a, b, points.Point{LSN: 20, Redo: 6})
	if !bytes.Equal(a[:99], wasA) || !bytes.Equal(b[:99], wasB) {
		t.Error("what was handed in was changed")
	}
	want := bytesOf(points.Point{Number: 5, LSN: 20, Redo: 6})
	scribble(one)
	if !bytes.Equal(two, want) || !bytes.Equal(a[:99], wasA) || !bytes.Equal(b[:99], wasB) {
		t.Error("Next's bytes share memory")
	}
	x, _ := points.Encode(points.Point{Number: 5, LSN: 20, Redo: 6})
	y, _ := points.Encode(points.Point{Number: 5, LSN: 20, Redo: 6})
	scribble(x)
	if !bytes.Equal(y, want) {
		t.Error("Encode's bytes share memory")
	}
	if _, e := points.Decode(a[:size-1]); e != api.ErrCut {
		t.Errorf("bytes behind the end were read: %v", e)
	}
}

// scribble writes over bytes, spare room too.
func scribble(b []byte) {
	b = b[:cap(b)]
	for i := range b {
		b[i] = 170
	}
}

func TestDirtyPagesStayAsTheyWere(t *testing.T) {
	l := append(make([]points.Dirty, 0, 9), points.Dirty{Page: 2, First: 7}, points.Dirty{Page: 1, First: 4})
	was := slices.Clone(l[:9])
	points.Redo(l, 9)
	points.Redo(l, 5)
	if !slices.Equal(l[:9], was) {
		t.Error("what was handed in was changed")
	}
}

// The chapter's examples.

func TestExamples(t *testing.T) {
	if n, e := points.Redo([]points.Dirty{{Page: 1, First: 7}, {Page: 2, First: 4}}, 9); n != 4 || e != api.OK {
		t.Errorf("Redo: %d, %v", n, e)
	}
	if n, e := points.Redo(nil, 9); n != 10 || e != api.OK {
		t.Errorf("Redo of none: %d, %v", n, e)
	}
	p, at, a, e := points.Next(nil, nil, points.Point{LSN: 9, Redo: 4})
	if p != (points.Point{Number: 1, LSN: 9, Redo: 4}) || at != 0 || e != api.OK {
		t.Errorf("Next: %v, %d, %v", p, at, e)
	}
	if p, at, _, e := points.Next(a, nil, points.Point{LSN: 9, Redo: 10}); p.Number != 2 || at != 1 || e != api.OK {
		t.Errorf("then: %v, %d, %v", p, at, e)
	}
}
