package key_test

import (
	"math/rand"
	"slices"
	"strings"
	"testing"
	"unicode/utf8"

	"lattice/api"
	"lattice/key"
)

// texts are all texts of up to most bytes out of letters.
func texts(letters string, most int) []string {
	l := []string{""}
	last := l
	for range most {
		var next []string
		for _, s := range last {
			for i := range len(letters) {
				next = append(next, s+letters[i:i+1])
			}
		}
		l, last = append(l, next...), next
	}
	return l
}

// few are texts that begin with each other, part anywhere, and have the least and the greatest bytes.
func few() []string { return texts("\x00\x01a\xfe\xff", 3) }

// less is the order, in words of its own.
func less(a, b string) bool {
	if a == "" || b == "" {
		return a == "" && b != ""
	}
	return a[0] < b[0] || a[0] == b[0] && less(a[1:], b[1:])
}

func wantErr(t *testing.T, what string, got, want api.Errno) {
	t.Helper()
	if got != want {
		t.Errorf("%s: %v, not %v", what, got, want)
	}
}

func wantBetween(t *testing.T, a, b, want string, wantE api.Errno) {
	t.Helper()
	if s, e := key.Between(a, b); s != want || e != wantE {
		t.Errorf("Between(%q, %q): %q, %v, not %q, %v", a, b, s, e, want, wantE)
	}
}

func wantAbove(t *testing.T, prefix, want string, wantOK bool) {
	t.Helper()
	if s, ok := key.Above(prefix); s != want || ok != wantOK {
		t.Errorf("Above(%q): %q, %v, not %q, %v", prefix, s, ok, want, wantOK)
	}
}

func wantPlace(t *testing.T, l []string, k string, want int, wantOK bool) {
	t.Helper()
	if i, ok := key.Place(l, k); i != want || ok != wantOK {
		t.Errorf("Place(%q, %q): %d, %v, not %d, %v", l, k, i, ok, want, wantOK)
	}
}

func wantLetters(t *testing.T, s string, want int, wantOK bool) {
	t.Helper()
	if n, ok := key.Letters(s); n != want || ok != wantOK {
		t.Errorf("Letters(%q): %d, %v, not %d, %v", s, n, ok, want, wantOK)
	}
}

// 5.1

func TestCheck(t *testing.T) {
	for n := range 3 * api.MaxKey {
		want := api.OK
		if n == 0 || n > api.MaxKey {
			want = api.ErrKey
		}
		for _, x := range []string{"x", "\x00", "\xff"} {
			wantErr(t, "Check", key.Check(strings.Repeat(x, n)), want)
		}
	}
	for _, n := range []int{255, 256, 257, 65535, 65536, 65537, api.MaxBytes} {
		wantErr(t, "Check", key.Check(strings.Repeat("x", n)), api.ErrKey)
	}
}

func TestCheckCountsBytes(t *testing.T) {
	wantErr(t, "Check of 8 letters, 16 bytes", key.Check(strings.Repeat("é", 8)), api.OK)
	wantErr(t, "Check of 9 letters, 18 bytes", key.Check(strings.Repeat("é", 9)), api.ErrKey)
	wantErr(t, "Value of 16 letters, 32 bytes", key.Value(strings.Repeat("é", 16)), api.OK)
	wantErr(t, "Value of 17 letters, 34 bytes", key.Value(strings.Repeat("é", 17)), api.ErrValue)
}

func TestValue(t *testing.T) {
	for n := range 3 * api.MaxValue {
		want := api.OK
		if n > api.MaxValue {
			want = api.ErrValue
		}
		for _, x := range []string{"x", "\x00", "\xff"} {
			wantErr(t, "Value", key.Value(strings.Repeat(x, n)), want)
		}
	}
	for _, n := range []int{255, 256, 257, 65535, 65536, 65568, api.MaxBytes} {
		wantErr(t, "Value", key.Value(strings.Repeat("x", n)), api.ErrValue)
	}
}

func TestCompare(t *testing.T) {
	for _, c := range []struct {
		a, b string
		want int
	}{
		{"", "", 0},
		{"", "a", -1},
		{"", "\x00", -1},
		{"a", "a", 0},
		{"a", "b", -1},
		{"a", "ab", -1},
		{"a", "a\x00", -1},
		{"ab", "b", -1},
		{"abc", "abd", -1},
		{"abc", "b", -1},
		{"a\xffz", "b", -1},
		{"a\x7f", "a\x80", -1},
		{"\x00", "\xff", -1},
		{"\x00\xff", "\x01", -1},
		{"\xff", "\xff\x00", -1},
		{"Z", "a", -1},
		{"12345678901234567890", "1234567890123456789:", -1},
		{strings.Repeat("x", 70000), strings.Repeat("x", 70001), -1},
	} {
		if got := key.Compare(c.a, c.b); got != c.want {
			t.Errorf("Compare(%.20q, %.20q): %d, not %d", c.a, c.b, got, c.want)
		}
		if got := key.Compare(c.b, c.a); got != -c.want {
			t.Errorf("Compare(%.20q, %.20q): %d, not %d", c.b, c.a, got, -c.want)
		}
	}
}

func TestCompareOfAll(t *testing.T) {
	for _, a := range few() {
		for _, b := range few() {
			want := 0
			if less(a, b) {
				want = -1
			} else if less(b, a) {
				want = 1
			}
			if got := key.Compare(a, b); got != want {
				t.Fatalf("Compare(%q, %q): %d, not %d", a, b, got, want)
			}
		}
	}
}

// 5.2

func TestBetween(t *testing.T) {
	for _, c := range []struct{ a, b, want string }{
		{"", "b", "b"},
		{"", "bcd", "b"},
		{"", "\x00", "\x00"},
		{"", "\x00\x00", "\x00"},
		{"az", "b", "b"},
		{"a", "bcd", "b"},           // they part at the first byte
		{"abc", "abde", "abd"},      // at a middle one
		{"abczzz", "abdefg", "abd"}, // at a middle one
		{"abc", "abd", "abd"},       // at the last
		{"a", "ab", "ab"},           // one begins with the other
		{"a", "abc", "ab"},          // likewise
		{"a", "a\x00", "a\x00"},     // likewise
		{"a", "a\x00\x00", "a\x00"}, // likewise
		{"\xff", "\xff\xff", "\xff\xff"},
		{"\x00", "\xff\xff", "\xff"},
		{"\x7f", "\x80\x00", "\x80"},
		{strings.Repeat("x", 70000), strings.Repeat("x", 70002), strings.Repeat("x", 70001)},
	} {
		wantBetween(t, c.a, c.b, c.want, api.OK)
	}
}

func TestBetweenWrong(t *testing.T) {
	for _, c := range [][2]string{
		{"", ""}, {"a", "a"}, {"\xff", "\xff"}, {"abc", "abc"},
		{"b", "a"}, {"a", ""}, {"ab", "a"}, {"a\x00", "a"}, {"\xff", "\x00"}, {"\x80", "\x7f"}, {"abd", "abc"}, {"b", "abc"},
	} {
		wantBetween(t, c[0], c[1], "", api.ErrArg)
	}
}

func TestAbove(t *testing.T) {
	for _, c := range []struct{ prefix, want string }{
		{"a", "b"},
		{"ab", "ac"},
		{"a\xff", "b"},
		{"a\xff\xff\xff", "b"},
		{"ab\xff", "ac"},
		{"\xffa", "\xffb"},
		{"\xffa\xff", "\xffb"},
		{"a\xffb\xff", "a\xffc"},
		{"\x00", "\x01"},
		{"\x00\xff", "\x01"},
		{"a\x00", "a\x01"},
		{"\x7f", "\x80"},
		{"\xfe", "\xff"},
		{"\xfe\xff", "\xff"},
		{"\xff\xfe", "\xff\xff"},
		{"0123456789abcdef", "0123456789abcdeg"},
		{strings.Repeat("x", 70000) + "a", strings.Repeat("x", 70000) + "b"},
	} {
		wantAbove(t, c.prefix, c.want, true)
	}
}

func TestNothingIsAbove(t *testing.T) {
	for _, n := range []int{0, 1, 2, 3, 16, 17, 256, 70000} {
		wantAbove(t, strings.Repeat("\xff", n), "", false)
	}
}

func TestCommon(t *testing.T) {
	for _, c := range []struct {
		a, b string
		want int
	}{
		{"", "", 0}, {"", "a", 0}, {"a", "b", 0}, {"a", "a", 1}, {"a", "ab", 1}, {"abc", "abd", 2}, {"abc", "axc", 1},
		{"xbc", "abc", 0}, {"abc", "abc", 3}, {"\x00", "\x00\x00", 1}, {"\xff\xff", "\xff\xfe", 1}, {"é", "è", 1},
		{strings.Repeat("x", 70000), strings.Repeat("x", 70001), 70000},
	} {
		if got := key.Common(c.a, c.b); got != c.want {
			t.Errorf("Common(%.20q, %.20q): %d, not %d", c.a, c.b, got, c.want)
		}
		if got := key.Common(c.b, c.a); got != c.want {
			t.Errorf("Common(%.20q, %.20q): %d, not %d", c.b, c.a, got, c.want)
		}
	}
}

func TestCommonOfAll(t *testing.T) {
	for _, a := range few() {
		for _, b := range few() {
			want := 0
			for i := 1; i <= len(a) && strings.HasPrefix(b, a[:i]); i++ {
				want = i
			}
			if got := key.Common(a, b); got != want {
				t.Fatalf("Common(%q, %q): %d, not %d", a, b, got, want)
			}
		}
	}
}

// 5.3

func TestPlace(t *testing.T) {
	for _, c := range []struct {
		l    []string
		k    string
		want int
		is   bool
	}{
		{nil, "", 0, false},
		{nil, "a", 0, false},
		{[]string{}, "a", 0, false},
		{[]string{"b", "d"}, "a", 0, false},
		{[]string{"b", "d"}, "b", 0, true},
		{[]string{"b", "d"}, "c", 1, false},
		{[]string{"b", "d"}, "bb", 1, false},
		{[]string{"b", "d"}, "d", 1, true},
		{[]string{"b", "d"}, "e", 2, false},
		{[]string{"b", "d"}, "d\x00", 2, false},
		{[]string{"b", "d"}, "", 0, false},
		{[]string{"", "a"}, "", 0, true},
		{[]string{"", "a"}, "a", 1, true},
		{[]string{"a", "ab", "abc"}, "ab", 1, true},
		{[]string{"\x00", "\xff"}, "\x80", 1, false},
		{[]string{strings.Repeat("x", 40)}, strings.Repeat("x", 40), 0, true},
		// lists that do not rise
		{[]string{"c", "b", "a"}, "a", 0, false},
		{[]string{"c", "b", "a"}, "b", 0, false},
		{[]string{"c", "b", "a"}, "c", 0, true},
		{[]string{"c", "b", "a"}, "d", 3, false},
		{[]string{"a", "z", "b", "c"}, "b", 1, false},
		{[]string{"a", "z", "b", "c"}, "c", 1, false},
		{[]string{"b", "a", "c"}, "c", 2, true},
		{[]string{"e", "a", "a", "a", "a", "a", "a"}, "b", 0, false},
		// the same member twice
		{[]string{"a", "b", "b", "c"}, "b", 1, true},
		{[]string{"b", "b"}, "b", 0, true},
		{[]string{"b", "b"}, "c", 2, false},
		{[]string{"b", "b"}, "a", 0, false},
		{[]string{"b", "a", "b"}, "b", 0, true},
	} {
		wantPlace(t, c.l, c.k, c.want, c.is)
	}
}

func TestPlaceInAnyList(t *testing.T) {
	g := rand.New(rand.NewSource(5))
	all := texts("ab\xff", 2)
	for run := range 4000 {
		l := make([]string, g.Intn(12))
		for i := range l {
			l[i] = all[g.Intn(len(all))]
		}
		if run%2 == 0 {
			slices.Sort(l)
		}
		for _, k := range all {
			want := slices.IndexFunc(l, func(s string) bool { return !less(s, k) })
			is := want >= 0 && l[want] == k
			if want < 0 {
				want = len(l)
			}
			wantPlace(t, l, k, want, is)
		}
		if t.Failed() {
			return
		}
	}
}

// 5.4

func TestLettersThatAreRight(t *testing.T) {
	for _, c := range []struct {
		s    string
		want int
	}{
		{"", 0},
		{"a", 1},
		{"a\u00e9\u20ac\U0001F600", 4},
		{"\x00", 1},             // the least of 1 byte
		{"\x7f", 1},             // the greatest
		{"\xc2\x80", 1},         // the least of 2
		{"\xdf\xbf", 1},         // the greatest
		{"\xe0\xa0\x80", 1},     // the least of 3
		{"\xef\xbf\xbf", 1},     // the greatest
		{"\xf0\x90\x80\x80", 1}, // the least of 4
		{"\xf4\x8f\xbf\xbf", 1}, // the greatest
		{"\xed\x9f\xbf", 1},     // right ahead of D800
		{"\xee\x80\x80", 1},     // right behind DFFF
		{"\xef\xbf\xbd", 1},     // FFFD, which stands elsewhere for one that is wrong
		{"\xef\xbf\xbda\xef\xbf\xbd", 3},
		{"e\u0301", 2},
		{strings.Repeat("\u20ac", 30000), 30000},
	} {
		wantLetters(t, c.s, c.want, true)
	}
}

func TestLettersThatAreWrong(t *testing.T) {
	for _, c := range []struct {
		s    string
		want int
	}{
		{"\xc0\x80", 2}, {"\xc1\xbf", 2}, // too long: 1 byte does
		{"\xe0\x80\x80", 3}, {"\xe0\x9f\xbf", 3}, // 2 do
		{"\xf0\x80\x80\x80", 4}, {"\xf0\x8f\xbf\xbf", 4}, {"\xf0\x8f\xbf\xbd", 4}, // 3 do
		{"\xed\xa0\x80", 3}, {"\xed\xad\xbf", 3}, {"\xed\xbf\xbf", 3}, // D800 to DFFF
		{"\xf4\x90\x80\x80", 4}, {"\xf5\x80\x80\x80", 4}, {"\xf7\xbf\xbf\xbf", 4}, // beyond 10FFFF
		{"\xf8\x88\x80\x80\x80", 5}, {"\xfc\x84\x80\x80\x80\x80", 6}, // of 5 and 6 bytes
		{"\xc3", 1}, {"\xe2", 1}, {"\xe2\x82", 2}, {"\xf0", 1}, {"\xf0\x9f", 2}, {"\xf0\x9f\x98", 3}, {"\xef\xbf", 2}, // cut by the end
		{"\xc3a", 2}, {"\xe2\x82a", 3}, {"\xf0\x9f\x98a", 4}, // cut by a letter
		{"\xe2\x82\xe2\x82\xac", 3}, {"\xc3\xc3\xa9", 2}, {"\xef\xbf\xef\xbf\xbd", 3}, // likewise
		{"\x80", 1}, {"\xbf", 1}, {"\xc0", 1}, {"\xf5", 1}, {"\xfe", 1}, {"\xff", 1}, // single bytes
		{"a\xffb\xef\xbf\xbd", 4}, {"\xef\xbf\xbd\xff", 2}, {"\xff\xef\xbf\xbd", 2},
		{"\xc3\xa9\xa9", 2}, {"a\xff", 2}, {"\xffa", 2},
	} {
		wantLetters(t, c.s, c.want, false)
	}
}

func TestLettersOfAnyText(t *testing.T) {
	want := func(s string) { wantLetters(t, s, utf8.RuneCountInString(s), utf8.ValidString(s)) }
	for a := range 256 {
		want(string([]byte{byte(a)}))
		for b := range 256 {
			want(string([]byte{byte(a), byte(b)}))
		}
	}
	for letter := range rune(0x110400) {
		want("a" + string(letter) + "b") // what is none is FFFD
	}
	for _, s := range texts("a\x80\x8f\x90\x9f\xa0\xbd\xbf\xc1\xc2\xdf\xe0\xed\xef\xf0\xf4\xf5\xff", 4) {
		want(s)
	}
	g := rand.New(rand.NewSource(6))
	for range 20000 {
		b := []byte(strings.Repeat("a\u00e9\u20ac\U0001F600", 3))
		b[g.Intn(len(b))] = byte(g.Intn(256))
		want(string(b[g.Intn(4) : len(b)-g.Intn(4)]))
	}
}

// 5.5

func TestBetweenIsTheShortest(t *testing.T) {
	for _, a := range few() {
		for _, b := range few() {
			s, e := key.Between(a, b)
			if !less(a, b) {
				if s != "" || e != api.ErrArg {
					t.Fatalf("Between(%q, %q): %q, %v, not ErrArg alone", a, b, s, e)
				}
				continue
			}
			if e != api.OK || !strings.HasPrefix(b, s) || !less(a, s) || less(b, s) {
				t.Fatalf("Between(%q, %q): %q, %v", a, b, s, e)
			}
			for n := range len(s) {
				if less(a, b[:n]) {
					t.Fatalf("Between(%q, %q): %q, while %q is shorter", a, b, s, b[:n])
				}
			}
		}
	}
}

func TestBeginningsAreBelowAbove(t *testing.T) {
	all := append(few(), texts("a\xff", 5)...)
	for _, prefix := range all {
		above, ok := key.Above(prefix)
		if ok != (prefix != strings.Repeat("\xff", len(prefix))) {
			t.Fatalf("Above(%q): %q, %v", prefix, above, ok)
		}
		for _, s := range all {
			in := key.Compare(s, prefix) >= 0 && (!ok || key.Compare(s, above) < 0)
			if in != strings.HasPrefix(s, prefix) {
				t.Fatalf("Above(%q): %q, %v, which is wrong of %q", prefix, above, ok, s)
			}
			if ok && less(s, above) && !less(s, prefix+strings.Repeat("\xff", 9)) {
				t.Fatalf("Above(%q): %q, while %q is less", prefix, above, s)
			}
		}
	}
}

// R3

func TestListsStayAsTheyWere(t *testing.T) {
	room := []string{"a", "c", "b", "spare", "room"}
	was := slices.Clone(room)
	for _, k := range append(few(), room...) {
		key.Place(room[:3], k)
		key.Place(room[:0], k)
	}
	if !slices.Equal(room, was) {
		t.Errorf("%q has become %q", was, room)
	}
}

// R2, R6, P1

func TestSameCallTellsTheSame(t *testing.T) {
	all := append(few(), strings.Repeat("x", 17), strings.Repeat("\xff", 300), strings.Repeat("\u20ac", 30000))
	for _, a := range all {
		for _, b := range all[len(all)-20:] {
			s, e := key.Between(a, b)
			wantBetween(t, a, b, s, e)
			if key.Compare(a, b) != key.Compare(a, b) || key.Common(a, b) != key.Common(a, b) {
				t.Errorf("%q, %q: not the same", a, b)
			}
		}
		s, ok := key.Above(a)
		wantAbove(t, a, s, ok)
		n, ok := key.Letters(a)
		wantLetters(t, a, n, ok)
		i, is := key.Place(all, a)
		wantPlace(t, all, a, i, is)
		wantPlace(t, nil, a, 0, false)
		wantPlace(t, []string{}, a, 0, false)
		wantErr(t, "Check", key.Check(a), key.Check(a))
		wantErr(t, "Value", key.Value(a), key.Value(a))
	}
}

// The chapter's examples.

func TestExamples(t *testing.T) {
	wantBetween(t, "abc", "abde", "abd", api.OK)
	wantBetween(t, "a", "ab", "ab", api.OK)
	wantAbove(t, "a", "b", true)
	wantAbove(t, "a\xff", "b", true)
	wantPlace(t, []string{"a", "c"}, "b", 1, false)
}
