package crc_test

import (
	"bytes"
	"hash/crc32"
	"math"
	"math/rand"
	"testing"

	"lattice/api"
	"lattice/crc"
)

// samples are bytes of many lengths, nothing among them.
func samples() [][]byte {
	g := rand.New(rand.NewSource(1))
	l := [][]byte{nil, {}, {0}, {255}, {0, 0, 0, 0}, {255, 255, 255, 255}, []byte("123456789"), make([]byte, 300)}
	for n := range 70 {
		b := make([]byte, n)
		g.Read(b)
		l = append(l, b)
	}
	b := make([]byte, 5000)
	g.Read(b)
	return append(l, b)
}

// roomy is b, with spare room behind it that is filled.
func roomy(b []byte) []byte {
	room := append(append([]byte(nil), b...), bytes.Repeat([]byte{0xAB}, 16)...)
	return room[:len(b)]
}

// scribble writes over a list and its spare room.
func scribble(b []byte) {
	b = b[:cap(b)]
	for i := range b {
		b[i] = 0xEE
	}
}

func wantOpen(t *testing.T, b, want []byte, wantE api.Errno) {
	t.Helper()
	if got, e := crc.Open(b); !bytes.Equal(got, want) || e != wantE {
		t.Errorf("Open(% x): % x, %v, not % x, %v", b, got, e, want, wantE)
	}
}

func wantMore(t *testing.T, sum int, b []byte, want int, wantE api.Errno) {
	t.Helper()
	if got, e := crc.More(sum, b); got != want || e != wantE {
		t.Errorf("More(%x, % x): %x, %v, not %x, %v", sum, b, got, e, want, wantE)
	}
}

// 2.1

func TestSum(t *testing.T) {
	for _, b := range samples() {
		if got, want := crc.Sum(b), int(crc32.ChecksumIEEE(b)); got != want {
			t.Errorf("Sum(% x): %x, not %x", b, got, want)
		}
	}
}

func TestMore(t *testing.T) {
	g := rand.New(rand.NewSource(2))
	sums := []int{0, 1, 0x7FFFFFFF, 0x80000000, math.MaxUint32 - 1, math.MaxUint32}
	for range 20 {
		sums = append(sums, int(g.Uint32()))
	}
	for _, sum := range sums {
		for _, b := range samples() {
			wantMore(t, sum, b, int(crc32.Update(uint32(sum), crc32.IEEETable, b)), api.OK)
		}
	}
}

func TestMoreWrong(t *testing.T) {
	for _, sum := range []int{math.MinInt, -math.MaxUint32, -2, -1, math.MaxUint32 + 1, math.MaxUint32 + 2, 1 << 33, 1 << 62, math.MaxInt} {
		wantMore(t, sum, nil, 0, api.ErrArg)
		wantMore(t, sum, []byte("ab"), 0, api.ErrArg)
	}
}

// 2.2

func TestSeal(t *testing.T) {
	for _, b := range samples() {
		n := crc32.ChecksumIEEE(b)
		want := append(append([]byte(nil), b...), byte(n), byte(n>>8), byte(n>>16), byte(n>>24))
		if got := crc.Seal(b); !bytes.Equal(got, want) {
			t.Errorf("Seal(% x): % x, not % x", b, got, want)
		}
	}
}

func TestOpenCut(t *testing.T) {
	for _, b := range [][]byte{nil, {}, {0}, {0, 0}, {0, 0, 0}, {1, 2, 3}, {255, 255, 255}} {
		wantOpen(t, b, nil, api.ErrCut)
	}
}

func TestOpenOtherSum(t *testing.T) {
	wantOpen(t, []byte{1, 0, 0, 0}, nil, api.ErrSum)
	wantOpen(t, []byte{0, 0, 0, 1}, nil, api.ErrSum)
	wantOpen(t, []byte{0, 0, 0, 0, 0}, nil, api.ErrSum)
	wantOpen(t, []byte{255, 255, 255, 255}, nil, api.ErrSum)
	for _, b := range samples() {
		s := crc.Seal(b)
		wantOpen(t, append(append([]byte(nil), s...), 0), nil, api.ErrSum)
		if len(b) > 0 {
			wantOpen(t, s[:len(s)-1], nil, api.ErrSum)
		}
	}
	s := crc.Seal([]byte("ab"))
	wantOpen(t, []byte{s[0], s[1], s[5], s[4], s[3], s[2]}, nil, api.ErrSum) // its highest byte first
}

// 2.3

func TestMoreGoesOn(t *testing.T) {
	for _, b := range samples() {
		for i := 0; i <= len(b); i += 1 + len(b)/40 {
			wantMore(t, crc.Sum(b[:i]), b[i:], crc.Sum(b), api.OK)
		}
	}
}

func TestOpenOfSeal(t *testing.T) {
	for _, b := range samples() {
		wantOpen(t, crc.Seal(b), b, api.OK)
		wantOpen(t, crc.Seal(crc.Seal(b)), crc.Seal(b), api.OK)
	}
}

// 2.4

// turned is s with the bits of pattern turned from bit at on; a byte's lowest bit is its first.
func turned(s []byte, at int, pattern uint32) []byte {
	s = append([]byte(nil), s...)
	for i := range 32 {
		if pattern>>i&1 == 1 {
			s[(at+i)/8] ^= 1 << ((at + i) % 8)
		}
	}
	return s
}

func TestOneTurnedBitIsFound(t *testing.T) {
	for _, b := range samples() {
		if len(b) > 300 {
			continue
		}
		s := crc.Seal(b)
		for at := range 8 * len(s) {
			wantOpen(t, turned(s, at, 1), nil, api.ErrSum)
		}
	}
}

func TestTurnedBitsInARowAreFound(t *testing.T) {
	g := rand.New(rand.NewSource(3))
	for _, n := range []int{0, 1, 2, 3, 4, 5, 17, 60} {
		b := make([]byte, n)
		g.Read(b)
		s := crc.Seal(b)
		for at := range 8 * len(s) {
			for bits := 2; bits <= min(32, 8*len(s)-at); bits++ {
				all := uint32(1)<<bits - 1
				ends := uint32(1)<<(bits-1) | 1
				for _, pattern := range []uint32{all, ends, ends | g.Uint32()&all, 0xEDB88320 & all} {
					if pattern != 0 {
						wantOpen(t, turned(s, at, pattern), nil, api.ErrSum)
					}
				}
			}
		}
	}
}

// R3

func TestArgumentsStayAsTheyWere(t *testing.T) {
	for _, b := range samples() {
		for _, arg := range [][]byte{roomy(b), roomy(crc.Seal(b))} {
			was := append([]byte(nil), arg[:cap(arg)]...)
			crc.Sum(arg)
			crc.More(7, arg)
			scribble(crc.Seal(arg))
			opened, _ := crc.Open(arg)
			scribble(opened)
			if !bytes.Equal(arg[:cap(arg)], was) {
				t.Fatalf("% x has become % x", was, arg[:cap(arg)])
			}
		}
	}
}

func TestAnswersShareNothing(t *testing.T) {
	b := []byte("abcdef")
	one, two := crc.Seal(b), crc.Seal(b)
	scribble(one)
	scribble(b)
	wantOpen(t, two, []byte("abcdef"), api.OK)
	opened, _ := crc.Open(two)
	again, _ := crc.Open(two)
	scribble(opened)
	scribble(two)
	if string(again) != "abcdef" {
		t.Errorf("two answers share memory: %q", again)
	}
}

// R2

func TestNothingIsNilOrEmpty(t *testing.T) {
	if crc.Sum(nil) != crc.Sum([]byte{}) || !bytes.Equal(crc.Seal(nil), crc.Seal([]byte{})) {
		t.Error("nil and empty lists differ")
	}
	wantMore(t, 5, nil, 5, api.OK)
	wantMore(t, 5, []byte{}, 5, api.OK)
}

// P1, R4, R6

func TestOpenOfAnyBytes(t *testing.T) {
	g := rand.New(rand.NewSource(4))
	for range 5000 {
		b := make([]byte, g.Intn(20))
		g.Read(b)
		got, e := crc.Open(b)
		again, e2 := crc.Open(b)
		if !bytes.Equal(got, again) || e != e2 {
			t.Fatalf("Open(% x): % x, %v and % x, %v", b, got, e, again, e2)
		}
		if e != api.OK && len(got) != 0 {
			t.Fatalf("Open(% x): % x beside %v", b, got, e)
		}
	}
}

// The chapter's examples.

func TestExamples(t *testing.T) {
	if n := crc.Sum(nil); n != 0 {
		t.Errorf("Sum of nothing: %x", n)
	}
	if n := crc.Sum([]byte("123456789")); n != 0xCBF43926 {
		t.Errorf("Sum of 123456789: %x", n)
	}
	wantOpen(t, []byte{0, 0, 0, 0}, nil, api.OK)
}
