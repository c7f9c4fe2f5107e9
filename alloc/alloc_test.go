package alloc_test

import (
	"bytes"
	"math"
	"math/rand"
	"slices"
	"testing"

	"lattice/alloc"
	"lattice/api"
)

// bounds are those that the bits of a byte lie about, and the greatest one.
var bounds = []int{1, 2, 7, 8, 9, 15, 16, 17, 63, 64, 65, api.MaxPages - 1, api.MaxPages}

// wrongBounds are numbers of pages that no map has.
var wrongBounds = []int{0, -1, api.MaxPages + 1, 1 << 40, math.MinInt, math.MaxInt}

func newMap(t *testing.T, most int) *alloc.Map {
	t.Helper()
	m, e := alloc.New(most)
	if m == nil || e != api.OK {
		t.Fatalf("New(%d): %v", most, e)
	}
	return m
}

func wantErr(t *testing.T, what string, got, want api.Errno) {
	t.Helper()
	if got != want {
		t.Errorf("%s: %v, not %v", what, got, want)
	}
}

func wantTake(t *testing.T, m *alloc.Map, want int, wantE api.Errno) {
	t.Helper()
	if i, e := m.Take(); i != want || e != wantE {
		t.Errorf("Take: %d, %v, not %d, %v", i, e, want, wantE)
	}
}

func wantBytes(t *testing.T, m *alloc.Map, want ...byte) {
	t.Helper()
	if b := m.Bytes(); !bytes.Equal(b, want) {
		t.Errorf("Bytes: %v, not %v", b, want)
	}
}

// wantPages holds a map against the pages that should be in use: Has of each page and of those beside, Used, and Bytes.
func wantPages(t *testing.T, m *alloc.Map, most int, inUse map[int]bool) {
	t.Helper()
	want := make([]byte, (most+7)/8)
	used := 0
	for i := -9; i <= most+9; i++ {
		if m.Has(i) != inUse[i] {
			t.Fatalf("a map of %d pages: Has(%d): %v", most, i, m.Has(i))
		}
		if inUse[i] {
			used++
			want[(i-1)/8] += 1 << ((i - 1) % 8)
		}
	}
	if m.Used() != used {
		t.Fatalf("a map of %d pages: Used: %d, not %d", most, m.Used(), used)
	}
	if b := m.Bytes(); !bytes.Equal(b, want) {
		t.Fatalf("a map of %d pages: Bytes: %v, not %v", most, b, want)
	}
}

// 8.1

func TestNew(t *testing.T) {
	for _, most := range bounds {
		wantPages(t, newMap(t, most), most, nil)
	}
	for _, most := range wrongBounds {
		if m, e := alloc.New(most); m != nil || e != api.ErrArg {
			t.Errorf("New(%d): %v, %v, not ErrArg alone", most, m, e)
		}
	}
}

func TestTakeUntilTheMapIsFull(t *testing.T) {
	for _, most := range bounds {
		m := newMap(t, most)
		all := map[int]bool{}
		for i := 1; i <= most; i++ {
			wantTake(t, m, i, api.OK)
			all[i] = true
		}
		for range 3 {
			wantTake(t, m, 0, api.ErrFull)
			wantPages(t, m, most, all)
		}
		for _, i := range []int{most, 1, (most + 1) / 2} { // one is free again: the least one, the last one, one between
			wantErr(t, "Free", m.Free(i), api.OK)
			wantTake(t, m, i, api.OK)
			wantTake(t, m, 0, api.ErrFull)
		}
	}
}

func TestTakeIsTheLeastFreeOne(t *testing.T) {
	m := newMap(t, 20)
	for _, i := range []int{1, 2, 4, 20} {
		wantErr(t, "Mark", m.Mark(i), api.OK)
	}
	wantTake(t, m, 3, api.OK)
	wantTake(t, m, 5, api.OK)
	wantErr(t, "Free", m.Free(20), api.OK)
	wantErr(t, "Free", m.Free(4), api.OK)
	wantErr(t, "Free", m.Free(2), api.OK)
	wantTake(t, m, 2, api.OK)
	wantTake(t, m, 4, api.OK)
	for i := 6; i <= 20; i++ {
		wantTake(t, m, i, api.OK)
	}
	wantTake(t, m, 0, api.ErrFull)
}

func TestMarkAndFree(t *testing.T) {
	for _, most := range bounds {
		for _, i := range []int{1, (most + 1) / 2, most} {
			m := newMap(t, most)
			wantErr(t, "Free of a free page", m.Free(i), api.ErrState)
			wantPages(t, m, most, nil)
			wantErr(t, "Mark", m.Mark(i), api.OK)
			wantPages(t, m, most, map[int]bool{i: true})
			wantErr(t, "Mark of a page in use", m.Mark(i), api.ErrState)
			wantPages(t, m, most, map[int]bool{i: true})
			wantErr(t, "Free", m.Free(i), api.OK)
			wantPages(t, m, most, nil)
			wantErr(t, "Free of a free page", m.Free(i), api.ErrState)
			wantErr(t, "Mark", m.Mark(i), api.OK)
		}
	}
}

func TestPagesThatThereAreNot(t *testing.T) {
	for _, most := range bounds {
		m := newMap(t, most)
		wantErr(t, "Mark", m.Mark(most), api.OK)
		for _, i := range []int{0, -1, -8, most + 1, most + 7, most + 8, most + 9, api.MaxPages + 1, 2 * api.MaxPages, math.MinInt, math.MinInt + 1, math.MaxInt} {
			wantErr(t, "Mark", m.Mark(i), api.ErrNone)
			wantErr(t, "Free", m.Free(i), api.ErrNone)
			if m.Has(i) {
				t.Errorf("a map of %d pages: Has(%d)", most, i)
			}
		}
		wantPages(t, m, most, map[int]bool{most: true})
	}
}

// 8.2

func TestBytes(t *testing.T) {
	m := newMap(t, 17)
	wantBytes(t, m, 0, 0, 0)
	for _, c := range []struct {
		page int
		want []byte
	}{
		{1, []byte{1, 0, 0}},
		{8, []byte{129, 0, 0}},
		{9, []byte{129, 1, 0}},
		{17, []byte{129, 1, 1}},
		{16, []byte{129, 129, 1}},
		{3, []byte{133, 129, 1}},
	} {
		wantErr(t, "Mark", m.Mark(c.page), api.OK)
		wantBytes(t, m, c.want...)
	}
	for _, most := range bounds {
		if b := newMap(t, most).Bytes(); len(b) != (most+7)/8 {
			t.Errorf("a map of %d pages has %d bytes", most, len(b))
		}
	}
}

// The bits behind the last page are 0 even if all pages are in use.
func TestBytesOfFullMaps(t *testing.T) {
	for _, c := range []struct {
		most int
		want []byte
	}{{1, []byte{1}}, {7, []byte{127}}, {8, []byte{255}}, {9, []byte{255, 1}}, {16, []byte{255, 255}}, {18, []byte{255, 255, 3}}} {
		m := newMap(t, c.most)
		for range c.most + 2 {
			m.Take()
		}
		wantBytes(t, m, c.want...)
	}
}

// wantFrom holds From against the chapter: the length, and each bit.
func wantFrom(t *testing.T, most int, b []byte) {
	t.Helper()
	right := most >= 1 && most <= api.MaxPages && len(b) == (most+7)/8
	inUse := map[int]bool{}
	for i := range 8 * len(b) {
		if b[i/8]>>(i%8)&1 == 1 {
			inUse[i+1] = true
			right = right && i < most
		}
	}
	m, e := alloc.From(most, b)
	if !right {
		if m != nil || e != api.ErrForm {
			t.Errorf("From(%d, %v): %v, not ErrForm alone", most, b, e)
		}
		return
	}
	if m == nil || e != api.OK {
		t.Fatalf("From(%d, %v): %v", most, b, e)
	}
	wantPages(t, m, most, inUse)
}

func TestFrom(t *testing.T) {
	for most := 1; most <= 9; most++ { // all bytes
		for x := range 256 {
			wantFrom(t, most, []byte{byte(x)})
			wantFrom(t, most, []byte{0, byte(x)})
			wantFrom(t, most, []byte{255, byte(x)})
		}
	}
	for _, most := range bounds {
		need := (most + 7) / 8
		for _, many := range []int{0, 1, need - 1, need, need + 1, 2 * need, api.MaxPages / 8, api.MaxPages/8 + 1} {
			wantFrom(t, most, make([]byte, many))
			wantFrom(t, most, bytes.Repeat([]byte{255}, many))
		}
		for bit := range 8 { // of the last byte
			b := make([]byte, need)
			b[need-1] = 1 << bit
			wantFrom(t, most, b)
		}
	}
	wantFrom(t, 1, nil)
	wantFrom(t, api.MaxPages, make([]byte, api.MaxBytes))
}

func TestFromOfWrongBounds(t *testing.T) {
	for _, most := range wrongBounds {
		for _, b := range [][]byte{nil, {}, {1}, make([]byte, 512), make([]byte, 513)} {
			if m, e := alloc.From(most, b); m != nil || e != api.ErrArg {
				t.Errorf("From(%d, %d bytes): %v, not ErrArg alone", most, len(b), e)
			}
		}
	}
}

func TestNilMap(t *testing.T) {
	var m *alloc.Map
	for range 2 {
		wantTake(t, m, 0, api.ErrFull)
		for _, i := range []int{math.MinInt, -1, 0, 1, 2, 8, 9, api.MaxPages, math.MaxInt} {
			wantErr(t, "Mark", m.Mark(i), api.ErrNone)
			wantErr(t, "Free", m.Free(i), api.ErrNone)
			if m.Has(i) {
				t.Errorf("a nil map has page %d", i)
			}
		}
		if m.Used() != 0 || len(m.Bytes()) != 0 {
			t.Errorf("a nil map: Used %d, Bytes %v", m.Used(), m.Bytes())
		}
	}
}

// 8.3

func TestNoPageIsTakenTwice(t *testing.T) {
	g := rand.New(rand.NewSource(80))
	for run := range 300 {
		most := bounds[run%len(bounds)]
		if most > 100 {
			most = 1 + g.Intn(100)
		}
		m := newMap(t, most)
		inUse := map[int]bool{}
		for range 400 {
			i := g.Intn(most + 3)
			there := i >= 1 && i <= most
			switch g.Intn(4) {
			case 0, 1:
				least := 1
				for inUse[least] {
					least++
				}
				if least <= most {
					wantTake(t, m, least, api.OK)
					inUse[least] = true
				} else {
					wantTake(t, m, 0, api.ErrFull)
				}
			case 2:
				switch e := m.Mark(i); {
				case !there:
					wantErr(t, "Mark", e, api.ErrNone)
				case inUse[i]:
					wantErr(t, "Mark", e, api.ErrState)
				default:
					wantErr(t, "Mark", e, api.OK)
					inUse[i] = true
				}
			case 3:
				switch e := m.Free(i); {
				case !there:
					wantErr(t, "Free", e, api.ErrNone)
				case !inUse[i]:
					wantErr(t, "Free", e, api.ErrState)
				default:
					wantErr(t, "Free", e, api.OK)
					delete(inUse, i)
				}
			}
			if g.Intn(20) == 0 {
				wantPages(t, m, most, inUse)
			}
		}
		wantPages(t, m, most, inUse)
	}
}

func TestFromOfBytesIsTheSameMap(t *testing.T) {
	g := rand.New(rand.NewSource(81))
	for run := range 200 {
		most := bounds[run%len(bounds)]
		m := newMap(t, most)
		inUse := map[int]bool{}
		for range g.Intn(2 * min(most, 200)) {
			if i := 1 + g.Intn(most); m.Mark(i) == api.OK {
				inUse[i] = true
			}
		}
		b := m.Bytes()
		again, e := alloc.From(most, b)
		wantErr(t, "From", e, api.OK)
		wantPages(t, again, most, inUse)
		for range 20 { // and it goes on alike
			i, e := m.Take()
			wantTake(t, again, i, e)
		}
		wantBytes(t, again, m.Bytes()...)
	}
}

// R3, R6

func TestBytesAreNotShared(t *testing.T) {
	for _, most := range bounds {
		room := append(make([]byte, (most+7)/8), 7, 8, 9)
		room[0] = 1
		b := room[:len(room)-3]
		was := slices.Clone(room)
		m, e := alloc.From(most, b)
		wantErr(t, "From", e, api.OK)
		other, _ := alloc.From(most, b)
		for range 10 {
			m.Take()
		}
		m.Free(1)
		if !bytes.Equal(room, was) {
			t.Errorf("the bytes handed in have become %v", room)
		}
		wantPages(t, other, most, map[int]bool{1: true})
		for i := range room {
			room[i] = 255
		}
		wantPages(t, other, most, map[int]bool{1: true})

		one, two := other.Bytes(), other.Bytes()
		one = one[:cap(one)]
		for i := range one {
			one[i] = 0xEE
		}
		if !bytes.Equal(two, other.Bytes()) {
			t.Error("two answers of Bytes share memory")
		}
		wantPages(t, other, most, map[int]bool{1: true})
	}
}

func TestMapsShareNothing(t *testing.T) {
	one, two := newMap(t, 9), newMap(t, 9)
	wantTake(t, one, 1, api.OK)
	wantPages(t, two, 9, nil)
	wantErr(t, "Mark", two.Mark(9), api.OK)
	wantPages(t, one, 9, map[int]bool{1: true})
}

// P1

func TestAnyBytes(t *testing.T) {
	g := rand.New(rand.NewSource(82))
	for range 20000 {
		most := 1 + g.Intn(40)
		b := make([]byte, g.Intn(7))
		g.Read(b)
		if len(b) > 0 {
			b[len(b)-1] >>= g.Intn(8)
		}
		wantFrom(t, most, b)
	}
}

// The chapter's example.

func TestExample(t *testing.T) {
	m := newMap(t, 9)
	wantTake(t, m, 1, api.OK)
	wantTake(t, m, 2, api.OK)
	wantErr(t, "Free", m.Free(1), api.OK)
	wantTake(t, m, 1, api.OK)
	wantErr(t, "Mark", m.Mark(9), api.OK)
	wantBytes(t, m, 3, 1)
}
