package disk_test

import (
	"bytes"
	"math"
	"math/rand"
	"slices"
	"testing"

	"lattice/api"
	"lattice/disk"
)

const most = 2 * api.MaxPages

func newDisk(t *testing.T, sectors int) *disk.Disk {
	t.Helper()
	d, e := disk.New(sectors)
	if d == nil || e != api.OK {
		t.Fatalf("New(%d): %v, %v", sectors, d, e)
	}
	return d
}

// page is a sector that begins with those bytes, and has 0 behind.
func page(begin string) []byte {
	b := make([]byte, api.PageSize)
	copy(b, begin)
	return b
}

// full is a sector of one byte alone.
func full(x byte) []byte { return bytes.Repeat([]byte{x}, api.PageSize) }

func wantErr(t *testing.T, what string, got, want api.Errno) {
	t.Helper()
	if got != want {
		t.Errorf("%s: %v, not %v", what, got, want)
	}
}

func write(t *testing.T, d *disk.Disk, i int, b []byte) {
	t.Helper()
	wantErr(t, "Write", d.Write(i, b), api.OK)
}

func wantBytes(t *testing.T, what string, i int, got []byte, e api.Errno, want []byte) {
	t.Helper()
	if e != api.OK || !bytes.Equal(got, want) {
		t.Errorf("%s(%d): %d bytes %.12q.., %v, not %d bytes %.12q..", what, i, len(got), got, e, len(want), want)
	}
}

func wantSeen(t *testing.T, d *disk.Disk, i int, want []byte) {
	t.Helper()
	got, e := d.Read(i)
	wantBytes(t, "Read", i, got, e, want)
}

func wantLasts(t *testing.T, d *disk.Disk, i int, want []byte) {
	t.Helper()
	got, e := d.Lasts(i)
	wantBytes(t, "Lasts", i, got, e, want)
}

// wantBoth holds that a sector is seen as it lasts.
func wantBoth(t *testing.T, d *disk.Disk, i int, want []byte) {
	t.Helper()
	wantSeen(t, d, i, want)
	wantLasts(t, d, i, want)
}

func wantWaits(t *testing.T, d *disk.Disk, want int) {
	t.Helper()
	if n := d.Waits(); n != want {
		t.Errorf("Waits: %d, not %d", n, want)
	}
}

func wantNone(t *testing.T, d *disk.Disk, i int) {
	t.Helper()
	if b, e := d.Read(i); len(b) != 0 || e != api.ErrNone {
		t.Errorf("Read(%d): %v, %v, not ErrNone alone", i, b, e)
	}
	if b, e := d.Lasts(i); len(b) != 0 || e != api.ErrNone {
		t.Errorf("Lasts(%d): %v, %v, not ErrNone alone", i, b, e)
	}
	for _, n := range []int{0, 1, api.PageSize, api.PageSize + 1} {
		wantErr(t, "Write of no sector", d.Write(i, make([]byte, n)), api.ErrNone)
	}
}

// 3.1

func TestNewWrong(t *testing.T) {
	for _, n := range []int{math.MinInt, -most, -1, 0, most + 1, most + 2, 1 << 32, math.MaxInt} {
		if d, e := disk.New(n); d != nil || e != api.ErrArg {
			t.Errorf("New(%d): %v, %v, not ErrArg alone", n, d != nil, e)
		}
	}
}

func TestNewHasSectorsOfNoughts(t *testing.T) {
	for _, n := range []int{1, 2, 3, api.MaxPages, most - 1, most} {
		d := newDisk(t, n)
		wantWaits(t, d, 0)
		for i := range n {
			wantBoth(t, d, i, page(""))
		}
		for _, i := range []int{math.MinInt, -n, -2, -1, n, n + 1, 2 * n, math.MaxInt} {
			wantNone(t, d, i)
		}
		wantWaits(t, d, 0)
	}
}

func TestWriteOfFirstAndLastSector(t *testing.T) {
	for _, n := range []int{1, 2, most} {
		d := newDisk(t, n)
		write(t, d, 0, []byte("first"))
		write(t, d, n-1, []byte("last"))
		wantSeen(t, d, n-1, page("last"))
		if n > 1 {
			wantSeen(t, d, 0, page("first"))
		}
		for i := 1; i < n-1; i++ {
			wantBoth(t, d, i, page(""))
		}
		wantWaits(t, d, 2)
	}
}

func TestWriteOfAnyLength(t *testing.T) {
	for _, n := range []int{0, 1, 2, 128, api.PageSize - 1, api.PageSize} {
		d := newDisk(t, 3)
		write(t, d, 1, full(9)[:n])
		wantSeen(t, d, 1, page(string(full(9)[:n])))
		wantLasts(t, d, 1, page(""))
		wantBoth(t, d, 0, page(""))
		wantBoth(t, d, 2, page(""))
		wantWaits(t, d, 1)
	}
}

func TestWriteTooLong(t *testing.T) {
	d := newDisk(t, 2)
	write(t, d, 0, []byte("ab"))
	d.Sync()
	write(t, d, 0, []byte("cd"))
	for _, n := range []int{api.PageSize + 1, api.PageSize + 2, 2 * api.PageSize, api.MaxBytes, api.MaxBytes + 1} {
		wantErr(t, "Write too long", d.Write(0, make([]byte, n)), api.ErrLong)
		wantErr(t, "Write too long", d.Write(1, make([]byte, n)), api.ErrLong)
		wantErr(t, "Write too long, of no sector", d.Write(2, make([]byte, n)), api.ErrNone)
		wantErr(t, "Write too long, of no sector", d.Write(-1, make([]byte, n)), api.ErrNone)
	}
	wantSeen(t, d, 0, page("cd"))
	wantLasts(t, d, 0, page("ab"))
	wantBoth(t, d, 1, page(""))
	wantWaits(t, d, 1)
}

func TestWriteOfFewerBytesOverMore(t *testing.T) {
	d := newDisk(t, 1)
	write(t, d, 0, full('x'))
	write(t, d, 0, []byte("ab"))
	wantSeen(t, d, 0, page("ab"))
	d.Sync()
	wantBoth(t, d, 0, page("ab"))

	write(t, d, 0, full('y'))
	d.Sync()
	write(t, d, 0, []byte("c"))
	wantSeen(t, d, 0, page("c"))
	wantLasts(t, d, 0, full('y'))
	d.Sync()
	wantBoth(t, d, 0, page("c"))

	for _, b := range [][]byte{nil, {}} {
		write(t, d, 0, full('z'))
		write(t, d, 0, b)
		wantWaits(t, d, 2)
		wantSeen(t, d, 0, page(""))
		d.Sync()
		wantBoth(t, d, 0, page(""))
	}
}

func TestWritesOfOneSectorWait(t *testing.T) {
	d := newDisk(t, 2)
	for i, s := range []string{"one", "two", "three"} {
		write(t, d, 1, []byte(s))
		wantSeen(t, d, 1, page(s))
		wantLasts(t, d, 1, page(""))
		wantWaits(t, d, i+1)
	}
	write(t, d, 0, []byte("other"))
	wantSeen(t, d, 1, page("three"))
	wantSeen(t, d, 0, page("other"))
	wantWaits(t, d, 4)
}

func TestTheSameIsWrittenTwice(t *testing.T) {
	d := newDisk(t, 1)
	write(t, d, 0, []byte("a"))
	write(t, d, 0, []byte("a"))
	wantWaits(t, d, 2)
	d.Sync()
	write(t, d, 0, []byte("a"))
	wantWaits(t, d, 1)
}

// 3.2

func TestSync(t *testing.T) {
	d := newDisk(t, 3)
	d.Sync()
	wantWaits(t, d, 0)
	write(t, d, 0, []byte("a"))
	write(t, d, 2, []byte("bb"))
	write(t, d, 0, []byte("c"))
	for range 2 {
		d.Sync()
		wantWaits(t, d, 0)
		wantBoth(t, d, 0, page("c"))
		wantBoth(t, d, 1, page(""))
		wantBoth(t, d, 2, page("bb"))
	}
	write(t, d, 2, []byte("d"))
	wantWaits(t, d, 1)
	wantSeen(t, d, 2, page("d"))
	wantLasts(t, d, 2, page("bb"))
	d.Sync()
	wantBoth(t, d, 2, page("d"))
}

func TestManyWait(t *testing.T) {
	d := newDisk(t, 5)
	for i := range 3000 {
		write(t, d, i%5, []byte{byte(i), byte(i >> 8)})
		wantWaits(t, d, i+1)
	}
	d.Sync()
	for i := range 5 {
		n := 2995 + i
		wantBoth(t, d, i, page(string([]byte{byte(n), byte(n >> 8)})))
	}
}

// 3.3

// three is a disk whose two sectors last as r and s, with three writes that wait: of 0, of 1, of 0.
func three(t *testing.T) *disk.Disk {
	t.Helper()
	d := newDisk(t, 2)
	write(t, d, 0, full('r'))
	write(t, d, 1, full('s'))
	d.Sync()
	write(t, d, 0, []byte("abc"))
	write(t, d, 1, full('B'))
	write(t, d, 0, []byte("DEF"))
	return d
}

// over is a sector whose first n bytes are replaced by another one's.
func over(old, by []byte, n int) []byte {
	return slices.Concat(by[:n], old[n:])
}

func TestCrash(t *testing.T) {
	for _, torn := range []int{0, 1, 2, 3, 4, 128, api.PageSize - 1, api.PageSize} {
		d := three(t)
		wantErr(t, "Crash", d.Crash(0, torn), api.OK)
		wantWaits(t, d, 0)
		wantBoth(t, d, 0, over(full('r'), page("abc"), torn))
		wantBoth(t, d, 1, full('s'))

		d = three(t)
		wantErr(t, "Crash", d.Crash(1, torn), api.OK)
		wantWaits(t, d, 0)
		wantBoth(t, d, 0, page("abc"))
		wantBoth(t, d, 1, over(full('s'), full('B'), torn))

		d = three(t)
		wantErr(t, "Crash", d.Crash(2, torn), api.OK)
		wantWaits(t, d, 0)
		wantBoth(t, d, 0, over(page("abc"), page("DEF"), torn))
		wantBoth(t, d, 1, full('B'))

		d = three(t) // nothing is behind what is kept: torn tears nothing
		wantErr(t, "Crash", d.Crash(3, torn), api.OK)
		wantWaits(t, d, 0)
		wantBoth(t, d, 0, page("DEF"))
		wantBoth(t, d, 1, full('B'))
	}
}

func TestCrashWhereNothingWaits(t *testing.T) {
	d := newDisk(t, 1)
	for _, torn := range []int{0, 1, api.PageSize} {
		wantErr(t, "Crash", d.Crash(0, torn), api.OK)
		wantBoth(t, d, 0, page(""))
		wantErr(t, "Crash", d.Crash(1, torn), api.ErrArg)
	}
	write(t, d, 0, full('k'))
	d.Sync()
	for _, torn := range []int{0, 1, api.PageSize} {
		wantErr(t, "Crash", d.Crash(0, torn), api.OK)
		wantBoth(t, d, 0, full('k'))
		wantErr(t, "Crash", d.Crash(1, torn), api.ErrArg)
	}
	wantWaits(t, d, 0)
}

func TestCrashWrong(t *testing.T) {
	d := three(t)
	for _, keep := range []int{math.MinInt, -3, -1, 4, 5, math.MaxInt} {
		for _, torn := range []int{math.MinInt, -1, 0, 1, api.PageSize, api.PageSize + 1, math.MaxInt} {
			wantErr(t, "Crash that keeps too few or too many", d.Crash(keep, torn), api.ErrArg)
		}
	}
	for keep := range 4 {
		for _, torn := range []int{math.MinInt, -2, -1, api.PageSize + 1, 2 * api.PageSize, math.MaxInt} {
			wantErr(t, "Crash that tears too few or too many", d.Crash(keep, torn), api.ErrArg)
		}
	}
	wantWaits(t, d, 3)
	wantSeen(t, d, 0, page("DEF"))
	wantSeen(t, d, 1, full('B'))
	wantLasts(t, d, 0, full('r'))
	wantLasts(t, d, 1, full('s'))
	d.Sync()
	wantBoth(t, d, 0, page("DEF"))
	wantBoth(t, d, 1, full('B'))
}

func TestWritesBehindACrash(t *testing.T) {
	d := three(t)
	wantErr(t, "Crash", d.Crash(1, 2), api.OK)
	d.Sync() // what was lost does not come back
	wantBoth(t, d, 0, page("abc"))
	wantBoth(t, d, 1, over(full('s'), full('B'), 2))
	write(t, d, 1, []byte("new"))
	wantWaits(t, d, 1)
	wantErr(t, "Crash", d.Crash(1, 0), api.OK)
	wantBoth(t, d, 1, page("new"))
	wantBoth(t, d, 0, page("abc"))
}

func TestNilDisk(t *testing.T) {
	var d *disk.Disk
	for range 2 {
		for _, i := range []int{math.MinInt, -1, 0, 1, most, math.MaxInt} {
			wantNone(t, d, i)
		}
		d.Sync()
		wantWaits(t, d, 0)
		for _, torn := range []int{0, 1, api.PageSize - 1, api.PageSize} {
			wantErr(t, "Crash", d.Crash(0, torn), api.OK)
		}
		for _, torn := range []int{math.MinInt, -1, api.PageSize + 1, math.MaxInt} {
			wantErr(t, "Crash", d.Crash(0, torn), api.ErrArg)
		}
		for _, keep := range []int{math.MinInt, -1, 1, 2, math.MaxInt} {
			for _, torn := range []int{-1, 0, 1, api.PageSize, api.PageSize + 1} {
				wantErr(t, "Crash", d.Crash(keep, torn), api.ErrArg)
			}
		}
	}
}

// 3.4

func TestSyncedLastsThroughCrashes(t *testing.T) {
	for _, keep := range []int{0, 1} {
		for _, torn := range []int{0, 1, 100, api.PageSize} {
			d := newDisk(t, 2)
			write(t, d, 0, full('s'))
			d.Sync()
			for range 3 {
				write(t, d, 1, full('x'))
				wantErr(t, "Crash", d.Crash(keep, torn), api.OK)
				wantBoth(t, d, 0, full('s'))
			}
		}
	}
	d := newDisk(t, 1)
	write(t, d, 0, full('s'))
	d.Sync()
	write(t, d, 0, full('t'))
	write(t, d, 0, full('u'))
	wantErr(t, "Crash", d.Crash(0, 0), api.OK)
	wantBoth(t, d, 0, full('s'))
}

// plain is a disk by other means: all that lasts, and all that waits, as whole rows.
type plain struct {
	lasts [][]byte
	at    []int
	what  [][]byte
}

func newPlain(sectors int) *plain {
	p := &plain{}
	for range sectors {
		p.lasts = append(p.lasts, page(""))
	}
	return p
}

// behind is a copy of what lasts, with the first n that wait done, and the first torn bytes of the next one.
func (p *plain) behind(n, torn int) [][]byte {
	var l [][]byte
	for _, s := range p.lasts {
		l = append(l, bytes.Clone(s))
	}
	for k := range p.at {
		if k < n {
			l[p.at[k]] = bytes.Clone(p.what[k])
		} else if k == n {
			l[p.at[k]] = over(l[p.at[k]], p.what[k], torn)
		}
	}
	return l
}

func (p *plain) settle(l [][]byte) { p.lasts, p.at, p.what = l, nil, nil }

func (p *plain) hold(t *testing.T, d *disk.Disk) {
	t.Helper()
	wantWaits(t, d, len(p.at))
	seen := p.behind(len(p.at), 0)
	for i := range p.lasts {
		wantSeen(t, d, i, seen[i])
		wantLasts(t, d, i, p.lasts[i])
	}
}

// step does one thing at random with both, right or wrong.
func step(t *testing.T, g *rand.Rand, d *disk.Disk, p *plain) {
	t.Helper()
	sectors := len(p.lasts)
	switch g.Intn(12) {
	case 0:
		d.Sync()
		p.settle(p.behind(len(p.at), 0))
	case 1:
		keep, torn := g.Intn(len(p.at)+1), g.Intn(api.PageSize+1)
		wantErr(t, "Crash", d.Crash(keep, torn), api.OK)
		p.settle(p.behind(keep, torn))
	case 2:
		wantErr(t, "Crash", d.Crash(len(p.at)+1+g.Intn(3), g.Intn(api.PageSize+1)), api.ErrArg)
		wantErr(t, "Crash", d.Crash(g.Intn(len(p.at)+1), api.PageSize+1+g.Intn(3)), api.ErrArg)
	case 3:
		wantErr(t, "Write", d.Write(sectors+g.Intn(3), nil), api.ErrNone)
		wantErr(t, "Write", d.Write(g.Intn(sectors), make([]byte, api.PageSize+1+g.Intn(9))), api.ErrLong)
	default:
		i, b := g.Intn(sectors), make([]byte, g.Intn(api.PageSize+1))
		g.Read(b)
		write(t, d, i, b)
		p.at, p.what = append(p.at, i), append(p.what, page(string(b)))
		for k := range b {
			b[k] = 0xEE
		}
	}
}

func TestDiskIsAPlainOne(t *testing.T) {
	g := rand.New(rand.NewSource(3))
	for range 60 {
		sectors := 1 + g.Intn(5)
		d, p := newDisk(t, sectors), newPlain(sectors)
		for range 80 {
			step(t, g, d, p)
			p.hold(t, d)
		}
		if t.Failed() {
			return
		}
	}
}

// R3

// scribble writes over a list and its spare room.
func scribble(b []byte) {
	b = b[:cap(b)]
	for i := range b {
		b[i] = 0xEE
	}
}

func TestWriteKeepsNothingOfItsBytes(t *testing.T) {
	room := bytes.Repeat([]byte{7}, 2*api.PageSize)
	for _, n := range []int{0, 2, api.PageSize, api.PageSize + 1} {
		d := newDisk(t, 2)
		d.Write(0, room[:n])
		d.Write(2, room[:n])
		d.Crash(d.Waits(), 0)
		d.Write(1, room[:n])
		d.Read(1)
		d.Sync()
		if !bytes.Equal(room, bytes.Repeat([]byte{7}, 2*api.PageSize)) {
			t.Fatalf("the %d bytes, or the room behind them, were changed", n)
		}
	}
	d := newDisk(t, 1)
	b := []byte("ab")
	write(t, d, 0, b)
	scribble(b)
	wantSeen(t, d, 0, page("ab"))
	d.Sync()
	scribble(b)
	wantBoth(t, d, 0, page("ab"))
}

func TestAnswersAreNew(t *testing.T) {
	d := newDisk(t, 2)
	write(t, d, 0, full('l'))
	write(t, d, 1, full('m'))
	d.Sync()
	write(t, d, 0, full('w'))
	tell := func() [][]byte {
		var l [][]byte
		for i := range 2 {
			b, _ := d.Read(i)
			c, _ := d.Lasts(i)
			l = append(l, b, c)
		}
		return l
	}
	want := [][]byte{full('w'), full('l'), full('m'), full('m')}
	for k := range want {
		one, two := tell(), tell()
		scribble(one[k])
		for j := range want {
			if j != k && !bytes.Equal(one[j], want[j]) || !bytes.Equal(two[j], want[j]) {
				t.Errorf("answers %d and %d share memory", k, j)
			}
		}
		if again := tell(); !slices.EqualFunc(again, want, bytes.Equal) {
			t.Errorf("answer %d shares memory with the disk", k)
		}
	}
	d.Sync()
	wantBoth(t, d, 0, full('w'))
}

func TestAnswersStayAsTheyWere(t *testing.T) {
	d := newDisk(t, 1)
	write(t, d, 0, full('a'))
	seen, _ := d.Read(0)
	lasts, _ := d.Lasts(0)
	d.Sync()
	write(t, d, 0, full('b'))
	d.Sync()
	d.Write(0, full('c'))
	d.Crash(0, 9)
	if !bytes.Equal(seen, full('a')) || !bytes.Equal(lasts, page("")) {
		t.Error("an answer was changed by later calls")
	}
}

func TestDisksShareNothing(t *testing.T) {
	one, two := newDisk(t, 1), newDisk(t, 1)
	write(t, one, 0, []byte("one"))
	wantWaits(t, two, 0)
	one.Sync()
	wantBoth(t, two, 0, page(""))
	write(t, two, 0, []byte("two"))
	two.Sync()
	wantBoth(t, one, 0, page("one"))
	wantBoth(t, two, 0, page("two"))
}

// P1

func TestAnyArguments(t *testing.T) {
	edges := []int{math.MinInt, math.MinInt + 1, -1 << 32, -257, -256, -1, 0, 1, 2, 255, 256, 257, 8191, 8192, 8193, 1 << 32, math.MaxInt - 1, math.MaxInt}
	one, two := newDisk(t, 2), newDisk(t, 2)
	for _, d := range []*disk.Disk{one, two, nil, {}} {
		for _, i := range edges {
			for _, n := range edges {
				if n >= 0 && n <= 1<<16 {
					d.Write(i, make([]byte, n))
				}
				d.Crash(i, n)
				d.Read(i)
				d.Lasts(n)
			}
		}
		d.Write(0, []byte("x"))
		d.Write(1, nil)
	}
	for i := range 2 { // both were called alike, so both tell the same
		a, e := one.Read(i)
		b, e2 := two.Read(i)
		if !bytes.Equal(a, b) || e != e2 || one.Waits() != two.Waits() {
			t.Errorf("two disks alike tell %v, %v", e, e2)
		}
	}
}

// The chapter's examples.

func TestExamples(t *testing.T) {
	d := newDisk(t, 1)
	write(t, d, 0, []byte("ab"))
	wantErr(t, "Crash", d.Crash(0, 1), api.OK)
	wantBoth(t, d, 0, page("a"))

	write(t, d, 0, []byte("ab"))
	d.Sync()
	write(t, d, 0, []byte("cd"))
	wantErr(t, "Crash", d.Crash(0, 0), api.OK)
	wantBoth(t, d, 0, page("ab"))
}
