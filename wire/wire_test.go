package wire_test

import (
	"bytes"
	"math"
	"math/rand"
	"strings"
	"testing"

	"lattice/api"
	"lattice/wire"
)

// wrongSizes are none of the four.
var wrongSizes = []int{math.MinInt, -8, -4, -2, -1, 0, 3, 5, 6, 7, 9, 16, 32, 64, 256, 1<<32 + 1, math.MaxInt}

// greatest is the greatest number of each size.
var greatest = map[int]int{1: 255, 2: 65535, 4: 4294967295, 8: math.MaxInt64}

func wantBytes(t *testing.T, w *wire.Writer, want []byte) {
	t.Helper()
	if got := w.Bytes(); !bytes.Equal(got, want) {
		t.Errorf("Bytes: % x, not % x", got, want)
	}
}

func wantErr(t *testing.T, what string, got, want api.Errno) {
	t.Helper()
	if got != want {
		t.Errorf("%s: %v, not %v", what, got, want)
	}
}

func wantNum(t *testing.T, r *wire.Reader, size, want int, wantE api.Errno) {
	t.Helper()
	if n, e := r.Num(size); n != want || e != wantE {
		t.Errorf("Num(%d): %d, %v, not %d, %v", size, n, e, want, wantE)
	}
}

func wantText(t *testing.T, r *wire.Reader, most int, want string, wantE api.Errno) {
	t.Helper()
	if s, e := r.Text(most); s != want || e != wantE {
		t.Errorf("Text(%d): %d bytes %.20q, %v, not %d bytes %.20q, %v", most, len(s), s, e, len(want), want, wantE)
	}
}

// wantState holds Left and End against what they should tell; neither of them reads, so both are asked twice.
func wantState(t *testing.T, r *wire.Reader, left int, end api.Errno) {
	t.Helper()
	for range 2 {
		if n := r.Left(); n != left {
			t.Errorf("Left: %d, not %d", n, left)
		}
		wantErr(t, "End", r.End(), end)
	}
}

// 1.1

func TestNewHasNoBytes(t *testing.T) {
	wantBytes(t, wire.New(), nil)
}

func TestWriterNum(t *testing.T) {
	for _, c := range []struct {
		n, size int
		want    []byte
	}{
		{0, 1, []byte{0}},
		{1, 1, []byte{1}},
		{200, 1, []byte{200}},
		{255, 1, []byte{255}},
		{0, 2, []byte{0, 0}},
		{258, 2, []byte{2, 1}},
		{255, 2, []byte{255, 0}},
		{256, 2, []byte{0, 1}},
		{65535, 2, []byte{255, 255}},
		{0, 4, []byte{0, 0, 0, 0}},
		{0x04030201, 4, []byte{1, 2, 3, 4}},
		{65536, 4, []byte{0, 0, 1, 0}},
		{4294967295, 4, []byte{255, 255, 255, 255}},
		{0, 8, []byte{0, 0, 0, 0, 0, 0, 0, 0}},
		{0x0807060504030201, 8, []byte{1, 2, 3, 4, 5, 6, 7, 8}},
		{4294967296, 8, []byte{0, 0, 0, 0, 1, 0, 0, 0}},
		{math.MaxInt64, 8, []byte{255, 255, 255, 255, 255, 255, 255, 127}},
	} {
		w := wire.New()
		wantErr(t, "Num", w.Num(c.n, c.size), api.OK)
		wantBytes(t, w, c.want)
	}
}

func TestWriterNumWrong(t *testing.T) {
	w := wire.New()
	w.Num(7, 1)
	for _, size := range wrongSizes {
		for _, n := range []int{math.MinInt, -1, 0, 1, 256, math.MaxInt} {
			wantErr(t, "Num of a wrong size", w.Num(n, size), api.ErrArg)
		}
	}
	for size, most := range greatest {
		for _, n := range []int{-1, -255, -256, math.MinInt} {
			wantErr(t, "Num below 0", w.Num(n, size), api.ErrArg)
		}
		if size < 8 {
			for _, n := range []int{most + 1, most + 2, 2*most + 1, 1 << 32, 1 << 62, math.MaxInt} {
				wantErr(t, "Num above the greatest", w.Num(n, size), api.ErrArg)
			}
		}
	}
	wantBytes(t, w, []byte{7})
	wantErr(t, "Num behind an error", w.Num(8, 1), api.OK)
	wantBytes(t, w, []byte{7, 8})
}

func TestWriterText(t *testing.T) {
	for _, n := range []int{0, 1, 2, 255, 256, 257, 65534, 65535} {
		w := wire.New()
		s := strings.Repeat("x", n)
		wantErr(t, "Text", w.Text(s), api.OK)
		wantBytes(t, w, append([]byte{byte(n), byte(n >> 8)}, s...))
	}
	w := wire.New()
	wantErr(t, "Text of any bytes", w.Text("\x00\xff\xc3\x28é"), api.OK)
	wantBytes(t, w, []byte{6, 0, 0, 255, 0xc3, 0x28, 0xc3, 0xa9})
}

func TestWriterTextLong(t *testing.T) {
	w := wire.New()
	w.Text("a")
	for _, n := range []int{65536, 65537, 131071, 131072} {
		wantErr(t, "Text too long", w.Text(strings.Repeat("x", n)), api.ErrLong)
	}
	wantErr(t, "Text of few letters, many bytes", w.Text(strings.Repeat("é", 32768)), api.ErrLong)
	wantBytes(t, w, []byte{1, 0, 'a'})
	wantErr(t, "Text behind an error", w.Text("b"), api.OK)
	wantBytes(t, w, []byte{1, 0, 'a', 1, 0, 'b'})
}

func TestWriterWritesBehind(t *testing.T) {
	w, other := wire.New(), wire.New()
	w.Num(258, 2)
	other.Num(9, 1)
	w.Text("ab")
	w.Num(3, 1)
	w.Text("")
	w.Num(4, 4)
	want := []byte{2, 1, 2, 0, 'a', 'b', 3, 0, 0, 4, 0, 0, 0}
	wantBytes(t, w, want)
	wantBytes(t, w, want)
	wantBytes(t, other, []byte{9})
}

// 1.2

func TestReaderNum(t *testing.T) {
	r := wire.Of([]byte{255, 2, 1, 255, 255, 1, 2, 3, 4, 255, 255, 255, 255, 1, 2, 3, 4, 5, 6, 7, 8, 255, 255, 255, 255, 255, 255, 255, 127})
	wantNum(t, r, 1, 255, api.OK)
	wantState(t, r, 28, api.ErrForm)
	wantNum(t, r, 2, 258, api.OK)
	wantNum(t, r, 2, 65535, api.OK)
	wantNum(t, r, 4, 0x04030201, api.OK)
	wantNum(t, r, 4, 4294967295, api.OK)
	wantState(t, r, 16, api.ErrForm)
	wantNum(t, r, 8, 0x0807060504030201, api.OK)
	wantNum(t, r, 8, math.MaxInt64, api.OK)
	wantState(t, r, 0, api.OK)
}

func TestReaderNumWrongSize(t *testing.T) {
	r := wire.Of([]byte{5, 6})
	for _, size := range wrongSizes {
		wantNum(t, r, size, 0, api.ErrArg)
	}
	wantState(t, r, 2, api.ErrForm)
	wantNum(t, r, 2, 0x0605, api.OK)
	for _, size := range wrongSizes {
		wantNum(t, r, size, 0, api.ErrArg)
	}
	wantState(t, r, 0, api.OK)
}

func TestReaderNumCut(t *testing.T) {
	for size := range greatest {
		for n := range size {
			b := append([]byte{9}, make([]byte, n)...)
			r := wire.Of(b)
			wantNum(t, r, 1, 9, api.OK)
			wantNum(t, r, size, 0, api.ErrCut)
			wantState(t, r, n, api.ErrCut)
		}
		r := wire.Of(make([]byte, size))
		wantNum(t, r, size, 0, api.OK)
		wantState(t, r, 0, api.OK)
	}
}

func TestReaderNumAbove(t *testing.T) {
	for _, top := range []byte{128, 129, 255} {
		for _, low := range []byte{0, 1, 255} {
			r := wire.Of([]byte{3, low, low, low, low, low, low, low, top, 4})
			wantNum(t, r, 1, 3, api.OK)
			wantNum(t, r, 8, 0, api.ErrArg)
			wantState(t, r, 9, api.ErrArg)
		}
	}
	wantNum(t, wire.Of([]byte{255, 255, 255, 255, 255, 255, 128}), 8, 0, api.ErrCut)
}

func TestReaderText(t *testing.T) {
	r := wire.Of([]byte{2, 0, 'a', 'b', 0, 0, 3, 0, 0, 255, 0xc3, 7})
	wantText(t, r, 2, "ab", api.OK)
	wantState(t, r, 8, api.ErrForm)
	wantText(t, r, 0, "", api.OK)
	wantText(t, r, math.MaxInt, "\x00\xff\xc3", api.OK)
	wantNum(t, r, 1, 7, api.OK)
	wantState(t, r, 0, api.OK)

	for _, n := range []int{255, 256, 65535} {
		s := strings.Repeat("y", n)
		r = wire.Of(append([]byte{byte(n), byte(n >> 8)}, s...))
		wantText(t, r, n, s, api.OK)
		wantState(t, r, 0, api.OK)
	}
}

func TestReaderTextWrongMost(t *testing.T) {
	r := wire.Of([]byte{1, 0, 'a'})
	for _, most := range []int{-1, -2, math.MinInt} {
		wantText(t, r, most, "", api.ErrArg)
	}
	wantState(t, r, 3, api.ErrForm)
	wantText(t, r, 1, "a", api.OK)
	wantText(t, r, -1, "", api.ErrArg)
	wantState(t, r, 0, api.OK)
}

func TestReaderTextCut(t *testing.T) {
	for _, b := range [][]byte{
		{},                // ahead of the length
		{0},               // within it
		{255},             // within it
		{1, 0},            // ahead of the text
		{5, 0, 'a'},       // within it
		{2, 0, 'a'},       // a byte ahead of its end
		{0, 1, 'a', 'b'},  // the length's high byte counts
		{255, 255, 1, 99}, // far within it
	} {
		for _, most := range []int{0, 1, 9, 65535, math.MaxInt} {
			r := wire.Of(b)
			wantText(t, r, most, "", api.ErrCut)
			wantState(t, r, len(b), api.ErrCut)
		}
	}
}

func TestReaderTextLong(t *testing.T) {
	for _, c := range []struct{ n, most int }{{1, 0}, {2, 0}, {2, 1}, {256, 255}, {65535, 65534}} {
		b := append([]byte{byte(c.n), byte(c.n >> 8)}, make([]byte, c.n+1)...)
		r := wire.Of(b)
		wantText(t, r, c.most, "", api.ErrLong)
		wantState(t, r, len(b), api.ErrLong)
	}
}

func TestReaderEnd(t *testing.T) {
	for _, b := range [][]byte{nil, {}} {
		r := wire.Of(b)
		wantState(t, r, 0, api.OK)
		wantNum(t, r, 1, 0, api.ErrCut)
		wantState(t, r, 0, api.ErrCut)
	}
	r := wire.Of([]byte{1})
	wantState(t, r, 1, api.ErrForm)
	wantNum(t, r, 1, 1, api.OK) // that some are left is no error of the reader's
	wantState(t, r, 0, api.OK)
}

// 1.3

// wantStopped holds that a reader whose error is e reads nothing more, though bytes are left.
func wantStopped(t *testing.T, r *wire.Reader, left int, e api.Errno) {
	t.Helper()
	for range 2 {
		wantState(t, r, left, e)
		for _, size := range []int{1, 2, 4, 8} {
			wantNum(t, r, size, 0, e)
		}
		for _, most := range []int{0, 1, 100, 65535} {
			wantText(t, r, most, "", e)
		}
		wantNum(t, r, 3, 0, api.ErrArg)
		wantNum(t, r, -1, 0, api.ErrArg)
		wantText(t, r, -1, "", api.ErrArg)
	}
	wantState(t, r, left, e)
}

func TestReaderErrorStays(t *testing.T) {
	r := wire.Of([]byte{6, 1, 0, 'a'})
	wantNum(t, r, 1, 6, api.OK)
	wantNum(t, r, 4, 0, api.ErrCut)
	wantStopped(t, r, 3, api.ErrCut)

	r = wire.Of([]byte{6, 3, 0, 'a'})
	wantNum(t, r, 1, 6, api.OK)
	wantText(t, r, 9, "", api.ErrCut)
	wantStopped(t, r, 3, api.ErrCut)

	r = wire.Of([]byte{6, 1, 0, 'a', 'b'})
	wantNum(t, r, 1, 6, api.OK)
	wantText(t, r, 0, "", api.ErrLong)
	wantStopped(t, r, 4, api.ErrLong)

	r = wire.Of([]byte{6, 1, 0, 0, 0, 0, 0, 0, 128, 1})
	wantNum(t, r, 1, 6, api.OK)
	wantNum(t, r, 8, 0, api.ErrArg)
	wantStopped(t, r, 9, api.ErrArg)
}

func TestNilWriter(t *testing.T) {
	var w *wire.Writer
	for range 2 {
		for size, most := range greatest {
			wantErr(t, "Num", w.Num(0, size), api.ErrState)
			wantErr(t, "Num", w.Num(most, size), api.ErrState)
		}
		for _, size := range wrongSizes {
			wantErr(t, "Num of a wrong size", w.Num(1, size), api.ErrArg)
		}
		wantErr(t, "Text", w.Text(""), api.ErrState)
		wantErr(t, "Text", w.Text(strings.Repeat("x", 65535)), api.ErrState)
		wantErr(t, "Text too long", w.Text(strings.Repeat("x", 65536)), api.ErrLong)
		wantBytes(t, w, nil)
	}
}

func TestNilReader(t *testing.T) {
	var r *wire.Reader
	for range 2 {
		wantState(t, r, 0, api.OK)
		for size := range greatest {
			wantNum(t, r, size, 0, api.ErrCut)
		}
		for _, size := range wrongSizes {
			wantNum(t, r, size, 0, api.ErrArg)
		}
		wantText(t, r, 0, "", api.ErrCut)
		wantText(t, r, 65535, "", api.ErrCut)
		wantText(t, r, -1, "", api.ErrArg)
	}
}

// 1.4

// item is what was written: a number of size bytes, or a text, if size is 0.
type item struct {
	n, size int
	s       string
}

func randomItem(g *rand.Rand) item {
	if g.Intn(3) == 0 {
		b := make([]byte, g.Intn(400))
		g.Read(b)
		return item{s: string(b)}
	}
	size := 1 << g.Intn(4)
	n := g.Int63() & int64(greatest[size])
	return item{n: int(n >> g.Intn(8*size)), size: size}
}

func (x item) write(w *wire.Writer) api.Errno {
	if x.size == 0 {
		return w.Text(x.s)
	}
	return w.Num(x.n, x.size)
}

func TestWrittenIsRead(t *testing.T) {
	g := rand.New(rand.NewSource(1))
	for range 300 {
		w := wire.New()
		items := make([]item, g.Intn(30))
		for i := range items {
			items[i] = randomItem(g)
			wantErr(t, "write", items[i].write(w), api.OK)
		}
		r := wire.Of(w.Bytes())
		for _, x := range items {
			if x.size == 0 {
				wantText(t, r, len(x.s), x.s, api.OK)
			} else {
				wantNum(t, r, x.size, x.n, api.OK)
			}
		}
		wantState(t, r, 0, api.OK)
	}
}

func TestGreatestAreRead(t *testing.T) {
	long := strings.Repeat("z", 65535)
	w := wire.New()
	for _, size := range []int{1, 2, 4, 8} {
		wantErr(t, "Num", w.Num(greatest[size], size), api.OK)
	}
	wantErr(t, "Text", w.Text(long), api.OK)
	r := wire.Of(w.Bytes())
	for _, size := range []int{1, 2, 4, 8} {
		wantNum(t, r, size, greatest[size], api.OK)
	}
	wantText(t, r, 65535, long, api.OK)
	wantState(t, r, 0, api.OK)
}

// R3

func TestReaderKeepsNothingOfItsBytes(t *testing.T) {
	room := []byte{1, 0, 'a', 2, 9, 9}
	b := room[:4]
	r := wire.Of(b)
	copy(room, []byte{8, 8, 8, 8, 8, 8})
	wantText(t, r, 9, "a", api.OK)
	wantNum(t, r, 1, 2, api.OK)
	wantNum(t, r, 1, 0, api.ErrCut)
	if !bytes.Equal(room, []byte{8, 8, 8, 8, 8, 8}) {
		t.Errorf("the bytes were changed: %v", room)
	}
}

func TestReadersOfTheSameBytes(t *testing.T) {
	b := []byte{1, 2}
	r, other := wire.Of(b), wire.Of(b)
	wantNum(t, r, 2, 513, api.OK)
	wantNum(t, other, 1, 1, api.OK)
	wantNum(t, r, 1, 0, api.ErrCut)
	wantNum(t, other, 1, 2, api.OK)
}

func TestBytesAreNew(t *testing.T) {
	w := wire.New()
	w.Text("abcde")
	want := []byte{5, 0, 'a', 'b', 'c', 'd', 'e'}
	one, two := w.Bytes(), w.Bytes()
	scribble(one)
	if !bytes.Equal(two, want) {
		t.Errorf("two answers share memory: %v", two)
	}
	wantBytes(t, w, want)
	w.Num(7, 1)
	scribble(two)
	wantBytes(t, w, append(want, 7))
}

// scribble writes over a list and its spare room.
func scribble(b []byte) {
	b = b[:cap(b)]
	for i := range b {
		b[i] = 0xEE
	}
}

// P1, R4, R6

func TestReadersEndAtAnyBytes(t *testing.T) {
	g := rand.New(rand.NewSource(2))
	for range 3000 {
		b := make([]byte, g.Intn(40))
		g.Read(b)
		for i := range b {
			b[i] >>= g.Intn(9) // so that lengths are small now and then
		}
		was := append([]byte(nil), b...)
		one, two := wire.Of(b), wire.Of(b)
		for range 12 {
			compareRead(t, one, two, g.Intn(12)-1, g.Intn(2) == 0)
		}
		if !bytes.Equal(b, was) {
			t.Fatalf("the bytes were changed: %v, not %v", b, was)
		}
	}
}

// compareRead has both readers, which stand alike, read the same, and looks at what they tell.
func compareRead(t *testing.T, one, two *wire.Reader, arg int, num bool) {
	t.Helper()
	left := one.Left()
	n, s, e := read(one, arg, num)
	n2, s2, e2 := read(two, arg, num)
	if n != n2 || s != s2 || e != e2 || one.Left() != two.Left() || one.End() != two.End() {
		t.Fatalf("two readers alike tell %d %q %v and %d %q %v", n, s, e, n2, s2, e2)
	}
	if e != api.OK && (n != 0 || s != "" || one.Left() != left) {
		t.Fatalf("beside %v: %d %q, and %d left of %d", e, n, s, one.Left(), left)
	}
	if e == api.OK && num && one.Left() != left-arg || e == api.OK && !num && one.Left() != left-2-len(s) {
		t.Fatalf("%d left of %d behind %d, %q", one.Left(), left, n, s)
	}
}

func read(r *wire.Reader, arg int, num bool) (int, string, api.Errno) {
	if num {
		n, e := r.Num(arg)
		return n, "", e
	}
	s, e := r.Text(arg)
	return 0, s, e
}

// The chapter's examples.

func TestExamples(t *testing.T) {
	w := wire.New()
	wantErr(t, "Num", w.Num(258, 2), api.OK)
	wantBytes(t, w, []byte{2, 1})
	w = wire.New()
	wantErr(t, "Text", w.Text("ab"), api.OK)
	wantBytes(t, w, []byte{2, 0, 97, 98})
	r := wire.Of([]byte{2, 1, 0})
	wantNum(t, r, 2, 258, api.OK)
	wantNum(t, r, 2, 0, api.ErrCut)
	wantNum(t, r, 1, 0, api.ErrCut)
}
