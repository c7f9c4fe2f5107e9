package restart_test

import (
	"bytes"
	"fmt"
	"hash/crc32"
	"math"
	"math/rand"
	"slices"
	"strings"
	"testing"

	"lattice/api"
	"lattice/blink"
	"lattice/page"
	"lattice/record"
	"lattice/redo"
	"lattice/restart"
	"lattice/steps"
	"lattice/wal"
)

func same(a, b api.Node) bool {
	return a.Level == b.Level && a.LSN == b.LSN && a.Right == b.Right && a.High == b.High &&
		slices.Equal(a.Keys, b.Keys) && slices.Equal(a.Vals, b.Vals) && slices.Equal(a.Kids, b.Kids)
}

func sameSlots(a, b []redo.Slot) bool {
	return slices.EqualFunc(a, b, func(x, y redo.Slot) bool { return x.Page == y.Page && same(x.Node, y.Node) })
}

// leaf is a leaf of keys; the value of each is v and the key.
func leaf(lsn int, high string, right int, keys ...string) api.Node {
	n := api.Node{LSN: lsn, High: high, Right: right, Keys: keys}
	for _, k := range keys {
		n.Vals = append(n.Vals, "v"+k)
	}
	return n
}

// inner is an inner node of level 1.
func inner(lsn int, kids []int, keys ...string) api.Node {
	return api.Node{Level: 1, LSN: lsn, Kids: kids, Keys: keys}
}

// bytesOf are a node's page.
func bytesOf(n api.Node) []byte {
	b, e := page.Encode(n)
	if e != api.OK {
		panic(fmt.Sprint(n, e))
	}
	return b
}

// whole is the image of a page.
func whole(p int, n api.Node) restart.Image { return restart.Image{Page: p, Bytes: bytesOf(n)} }

// images are the whole images of some pages.
func images(l []redo.Slot) []restart.Image {
	var out []restart.Image
	for _, s := range l {
		out = append(out, whole(s.Page, s.Node))
	}
	return out
}

func put(p int, k string) api.Record {
	return api.Record{Kind: api.RePut, Page: p, Key: k, Value: "v" + k}
}

func del(p int, k string) api.Record { return api.Record{Kind: api.ReDel, Page: p, Key: k} }

func fresh(p int, n api.Node) api.Record {
	n.LSN = 0
	return api.Record{Kind: api.ReNew, Page: p, Value: string(bytesOf(n))}
}

func cut(p int, k string, other int) api.Record {
	return api.Record{Kind: api.ReCut, Page: p, Key: k, Other: other}
}

func post(p int, k string, other int) api.Record {
	return api.Record{Kind: api.RePost, Page: p, Key: k, Other: other}
}

func noop() api.Record { return api.Record{Kind: api.ReNoop} }

func commit(k string) api.Record {
	return api.Record{Kind: api.ReCommit, Other: 1, Req: 9, Key: k, Value: "v" + k}
}

// logOf are the bytes of a log with these records.
func logOf(rs ...api.Record) []byte {
	w := wal.New()
	for _, r := range rs {
		if _, e := w.Append(r); e != api.OK {
			panic(fmt.Sprint(r, e))
		}
	}
	return w.Bytes()
}

// wantBack tells whether one comes back to these pages and this last LSN.
func wantBack(t *testing.T, what string, l []restart.Image, log []byte, first int, pages []redo.Slot, last int) {
	t.Helper()
	got, n, e := restart.Back(l, log, first)
	if !sameSlots(got, pages) || n != last || e != api.OK {
		t.Errorf("%s: %v, %d, %v, not %v, %d", what, got, n, e, pages, last)
	}
}

// wantError tells whether one does not come back.
func wantError(t *testing.T, what string, l []restart.Image, log []byte, first int, err api.Errno) {
	t.Helper()
	if got, n, e := restart.Back(l, log, first); len(got) != 0 || n != 0 || e != err {
		t.Errorf("%s: %v, %d, %v, not %v", what, got, n, e, err)
	}
}

// one are pages of which 1 is the only one.
func one(n api.Node) []redo.Slot { return []redo.Slot{{Page: 1, Node: n}} }

// abc are the bytes of a log of three puts on page 1.
func abc() []byte { return logOf(put(1, "a"), put(1, "b"), put(1, "c")) }

// 16.1: its errors, in their order.

func TestFirst(t *testing.T) {
	for _, first := range []int{math.MinInt, -1, 0} {
		wantError(t, fmt.Sprint("first ", first), nil, abc(), first, api.ErrArg)
		wantError(t, fmt.Sprint("first ", first), []restart.Image{whole(1, leaf(9, "", 0))}, nil, first, api.ErrArg)
		wantError(t, fmt.Sprint("first ", first), []restart.Image{{Page: 1, Bytes: []byte{1}}}, nil, first, api.ErrArg)
	}
	wantBack(t, "first 1", nil, abc(), 1, one(leaf(3, "", 0, "a", "b", "c")), 3)
	wantBack(t, "first 2", nil, abc(), 2, one(leaf(3, "", 0, "b", "c")), 3)
	wantBack(t, "first 3", nil, abc(), 3, one(leaf(3, "", 0, "c")), 3)
	for _, first := range []int{4, 5, 1000, api.MaxRecords, api.MaxRecords + 1, api.MaxLSN, math.MaxInt - 1, math.MaxInt} {
		wantBack(t, fmt.Sprint("first ", first), nil, abc(), first, one(api.Node{}), 3)
		wantBack(t, fmt.Sprint("an image and first ", first), []restart.Image{whole(1, leaf(2, "", 0, "x"))}, abc(), first, one(leaf(2, "", 0, "x")), 3)
		wantBack(t, fmt.Sprint("nothing and first ", first), nil, nil, first, one(api.Node{}), 0)
	}
}

func TestPagesMustRise(t *testing.T) {
	const most = api.MaxPages
	for _, c := range []struct {
		pages []int
		right bool
	}{
		{nil, true}, {[]int{}, true}, {[]int{1}, true}, {[]int{2}, true}, {[]int{most}, true}, {[]int{1, 2, 3}, true}, {[]int{1, 7, most - 1, most}, true},
		{[]int{0}, false}, {[]int{-1}, false}, {[]int{math.MinInt}, false}, {[]int{most + 1}, false}, {[]int{math.MaxInt}, false},
		{[]int{0, 1}, false}, {[]int{1, most + 1}, false}, {[]int{1, 1}, false}, {[]int{2, 1}, false}, {[]int{1, 3, 2}, false}, {[]int{1, 3, 3}, false},
		{[]int{1, 2, 0}, false}, {[]int{1, most, most}, false}, {[]int{most, most + 1}, false}, {[]int{-1, 1, 2}, false},
	} {
		for _, b := range [][]byte{nil, make([]byte, api.PageSize), bytesOf(leaf(0, "", 0)), bytesOf(leaf(99, "", 0)), {1}} {
			var l []restart.Image
			for _, p := range c.pages {
				l = append(l, restart.Image{Page: p, Bytes: b})
			}
			_, _, e := restart.Back(l, nil, 1)
			if (e == api.ErrArg) == c.right {
				t.Errorf("%v: %v", c.pages, e)
			}
		}
	}
}

func TestErrorsInTheirOrder(t *testing.T) {
	notRising := []restart.Image{{Page: 2}, {Page: 1}}
	newer := []restart.Image{whole(1, leaf(4, "", 0))}
	noTree := []restart.Image{whole(1, inner(3, []int{2}))}
	newerNoTree := []restart.Image{whole(1, inner(4, []int{2}))}
	newerTorn := []restart.Image{whole(1, leaf(4, "", 0)), {Page: 2, Bytes: []byte{1}}}
	noReplay := logOf(put(1, "a"), put(1, "b"), put(7, "c"))
	wantError(t, "first and pages", notRising, noReplay, 0, api.ErrArg)
	wantError(t, "first and a newer image", newer, noReplay, 0, api.ErrArg)
	wantError(t, "first and no tree", noTree, abc(), 0, api.ErrArg)
	wantError(t, "pages and a newer image", append(newer, notRising...), noReplay, 1, api.ErrArg)
	wantError(t, "a newer image", newer, abc(), 1, api.ErrLog)
	wantError(t, "a newer image, and all is ahead of the first", newer, abc(), 9, api.ErrLog)
	wantError(t, "a newer image and records that can't be replayed", newer, noReplay, 1, api.ErrLog)
	wantError(t, "a newer image and no tree", newerNoTree, abc(), 1, api.ErrLog)
	wantError(t, "a newer image beside a torn one", newerTorn, abc(), 1, api.ErrLog)
	wantError(t, "records that can't be replayed", nil, noReplay, 1, api.ErrTree)
	wantError(t, "no tree", noTree, abc(), 4, api.ErrTree)
}

func TestLSNsBeyondTheLog(t *testing.T) {
	log := logOf(noop(), noop(), noop())
	orphan := leaf(3, "", 0)
	for lsn, err := range map[int]api.Errno{0: api.OK, 2: api.OK, 3: api.OK, 4: api.ErrLog, 9: api.ErrLog, api.MaxLSN: api.ErrLog} {
		n := orphan
		n.LSN = lsn
		for _, l := range [][]restart.Image{
			{whole(1, n)}, {whole(7, n)}, {whole(1, leaf(1, "", 0)), whole(7, n)}, {whole(7, n), whole(9, leaf(1, "", 0))}, {{Page: 1}, whole(7, n), {Page: 9, Bytes: []byte{1}}},
		} {
			for _, first := range []int{1, 4, 9} {
				if _, last, e := restart.Back(l, log, first); e != err || e == api.OK && last != 3 {
					t.Errorf("LSN %d of %d images, first %d: %d, %v", lsn, len(l), first, last, e)
				}
			}
		}
	}
	wantBack(t, "no record and LSN 0", []restart.Image{whole(1, leaf(0, "", 0, "a"))}, nil, 1, one(leaf(0, "", 0, "a")), 0)
	wantError(t, "no record and LSN 1", []restart.Image{whole(1, leaf(1, "", 0, "a"))}, nil, 1, api.ErrLog)
	// What is torn says nothing, whatever LSN its bytes have.
	b := bytesOf(leaf(9, "", 0, "x"))
	wantBack(t, "a torn image of LSN 9", []restart.Image{{Page: 1, Bytes: b[:255]}}, abc(), 3, one(leaf(3, "", 0, "a", "b", "c")), 3)
}

func TestRecordsThatCannotBeReplayed(t *testing.T) {
	for what, r := range map[string]api.Record{
		"a put on a page that is not there":      put(7, "c"),
		"a delete on a page that is not there":   del(7, "c"),
		"a cut of a page that is not there":      cut(7, "c", 1),
		"a post on a page that is not there":     post(7, "c", 1),
		"a post on a leaf":                       post(1, "c", 2),
		"a put that belongs further right":       put(2, "z"),
		"a put on an inner page":                 put(3, "a"),
		"a cut by a key that is beyond the High": cut(2, "z", 1),
	} {
		l := []restart.Image{whole(1, leaf(0, "", 0)), whole(2, leaf(0, "m", 3)), whole(3, inner(0, []int{1}))}
		wantError(t, what, l, logOf(noop(), r), 1, api.ErrTree)
		wantError(t, what, l, logOf(noop(), r), 2, api.ErrTree)
		wantError(t, what+", with others behind", l, logOf(r, put(1, "a"), noop()), 1, api.ErrTree)
		wantBack(t, what+", ahead of the first", l, logOf(noop(), r, put(1, "a")), 3, []redo.Slot{{Page: 1, Node: leaf(3, "", 0, "a")}, {Page: 2, Node: leaf(0, "m", 3)}, {Page: 3, Node: inner(0, []int{1})}}, 3)
		for i := range l {
			n, _ := page.Decode(l[i].Bytes)
			n.LSN = 2
			l[i] = whole(l[i].Page, n)
		}
		if r.Page == 7 {
			l = append(l, whole(7, leaf(2, "", 0)))
		}
		if _, last, e := restart.Back(l, logOf(noop(), r), 1); last != 2 || e != api.OK {
			t.Errorf("%s, but it was done already: %d, %v", what, last, e)
		}
		l = append(l, restart.Image{Page: 9, Bytes: []byte{1}})
		if _, last, e := restart.Back(l, logOf(noop(), r), 3); last != 2 || e != api.OK {
			t.Errorf("%s, but it was done already, and another page is torn: %d, %v", what, last, e)
		}
	}
	wantError(t, "a torn image beside what can't be replayed from 1 on", []restart.Image{{Page: 9, Bytes: []byte{1}}}, logOf(put(7, "c"), put(1, "a")), 2, api.ErrTree)
	wantBack(t, "an empty image beside it", []restart.Image{{Page: 9}}, logOf(put(7, "c"), put(1, "a")), 2, one(leaf(2, "", 0, "a")), 2)
	full := make([]api.Record, 0)
	for i := range 9 {
		full = append(full, api.Record{Kind: api.RePut, Page: 1, Key: fmt.Sprintf("k%015d", i), Value: strings.Repeat("x", 32)})
	}
	wantError(t, "a put for which there is no room", nil, logOf(full...), 1, api.ErrTree)
}

func TestPagesThatAreNoTree(t *testing.T) {
	for what, l := range map[string][]restart.Image{
		"a kid that is not there":     {whole(1, inner(0, []int{2}))},
		"a kid that is empty":         {whole(1, inner(0, []int{2})), {Page: 2}},
		"a kid that is torn":          {whole(1, inner(0, []int{2})), {Page: 2, Bytes: []byte{1}}},
		"a kid that is the root":      {whole(1, inner(0, []int{1}))},
		"a root with a page right":    {whole(1, leaf(0, "m", 2)), whole(2, leaf(0, "", 0))},
		"a root with a High":          {whole(1, leaf(0, "m", 0))},
		"a row that breaks off":       {whole(1, inner(0, []int{2})), whole(2, leaf(0, "m", 3))},
		"a row that goes round":       {whole(1, inner(0, []int{2})), whole(2, leaf(0, "m", 3)), whole(3, leaf(0, "r", 2))},
		"a key below its low end":     {whole(1, inner(0, []int{2})), whole(2, leaf(0, "m", 3)), whole(3, leaf(0, "", 0, "a"))},
		"a kid with another low end":  {whole(1, inner(0, []int{2, 3}, "k")), whole(2, leaf(0, "m", 3)), whole(3, leaf(0, "", 0))},
		"a kid of another level":      {whole(1, inner(0, []int{2})), whole(2, inner(0, []int{3})), whole(3, leaf(0, "", 0))},
		"a root of level 2 on leaves": {whole(1, api.Node{Level: 2, Kids: []int{2}}), whole(2, leaf(0, "", 0))},
	} {
		for _, log := range [][]byte{nil, logOf(noop(), commit("a")), logOf(fresh(9, leaf(0, "", 0)))} {
			for _, first := range []int{1, 2, 99} {
				wantError(t, what, l, log, first, api.ErrTree)
			}
		}
		wantBack(t, what+", until the log says it anew", l, logOf(fresh(1, leaf(0, "", 0)), put(1, "q")), 1, anew(l, leaf(2, "", 0, "q")), 2)
	}
	wantError(t, "a tree that the log makes none", []restart.Image{whole(1, leaf(0, "", 0))}, logOf(cut(1, "m", 2)), 1, api.ErrTree)
	wantError(t, "a new root whose kid never came", nil, logOf(put(1, "a"), fresh(1, inner(0, []int{2}))), 1, api.ErrTree)
	wantBack(t, "pages in no row", []restart.Image{whole(5, leaf(0, "a", 1)), whole(6, inner(0, []int{4096}))}, nil, 1,
		[]redo.Slot{{Page: 1}, {Page: 5, Node: leaf(0, "a", 1)}, {Page: 6, Node: inner(0, []int{4096})}}, 0)
}

// anew are the pages of whole images, with another root.
func anew(l []restart.Image, root api.Node) []redo.Slot {
	pages := one(root)
	for _, x := range l[1:] {
		if n, e := page.Decode(x.Bytes); e == api.OK {
			pages = append(pages, redo.Slot{Page: x.Page, Node: n})
		}
	}
	return pages
}

// 16.1: the pages, and the last LSN.

func TestTheRoot(t *testing.T) {
	log := logOf(put(1, "a"), put(1, "b"))
	b := bytesOf(leaf(1, "", 0, "z"))
	turned := slices.Clone(b)
	turned[20] ^= 4
	for _, c := range []struct {
		what string
		l    []restart.Image
		want [3]api.Node // with the first record 1, 2, 3
	}{
		{"there", []restart.Image{{Page: 1, Bytes: b}}, [3]api.Node{leaf(2, "", 0, "b", "z"), leaf(2, "", 0, "b", "z"), leaf(1, "", 0, "z")}},
		{"not there", nil, [3]api.Node{leaf(2, "", 0, "a", "b"), leaf(2, "", 0, "b"), {}}},
		{"empty: no bytes", []restart.Image{{Page: 1}}, [3]api.Node{leaf(2, "", 0, "a", "b"), leaf(2, "", 0, "b"), {}}},
		{"empty: an empty list", []restart.Image{{Page: 1, Bytes: []byte{}}}, [3]api.Node{leaf(2, "", 0, "a", "b"), leaf(2, "", 0, "b"), {}}},
		{"empty: bytes 0", []restart.Image{{Page: 1, Bytes: make([]byte, api.PageSize)}}, [3]api.Node{leaf(2, "", 0, "a", "b"), leaf(2, "", 0, "b"), {}}},
		{"empty: one byte 0", []restart.Image{{Page: 1, Bytes: make([]byte, 1)}}, [3]api.Node{leaf(2, "", 0, "a", "b"), leaf(2, "", 0, "b"), {}}},
		{"empty: many bytes 0", []restart.Image{{Page: 1, Bytes: make([]byte, 999)}}, [3]api.Node{leaf(2, "", 0, "a", "b"), leaf(2, "", 0, "b"), {}}},
		{"torn by a bit", []restart.Image{{Page: 1, Bytes: turned}}, [3]api.Node{leaf(2, "", 0, "a", "b"), leaf(2, "", 0, "a", "b"), leaf(2, "", 0, "a", "b")}},
		{"torn by being cut", []restart.Image{{Page: 1, Bytes: b[:255]}}, [3]api.Node{leaf(2, "", 0, "a", "b"), leaf(2, "", 0, "a", "b"), leaf(2, "", 0, "a", "b")}},
		{"torn by bytes behind", []restart.Image{{Page: 1, Bytes: append(slices.Clone(b), 0)}}, [3]api.Node{leaf(2, "", 0, "a", "b"), leaf(2, "", 0, "a", "b"), leaf(2, "", 0, "a", "b")}},
	} {
		for i, n := range c.want {
			wantBack(t, fmt.Sprintf("%s, first %d", c.what, i+1), c.l, log, i+1, one(n), 2)
		}
		// Other pages stay behind it, in their order.
		l := append(slices.Clone(c.l), whole(3, leaf(0, "", 0, "q")), restart.Image{Page: 4}, whole(4096, leaf(2, "", 0)))
		for i, n := range c.want {
			want := []redo.Slot{{Page: 1, Node: n}, {Page: 3, Node: leaf(0, "", 0, "q")}, {Page: 4096, Node: leaf(2, "", 0)}}
			wantBack(t, fmt.Sprintf("%s, with others, first %d", c.what, i+1), l, log, i+1, want, 2)
		}
	}
}

func TestEmptyPagesAreNotThere(t *testing.T) {
	l := []restart.Image{whole(1, leaf(0, "", 0)), {Page: 2}, {Page: 3, Bytes: make([]byte, api.PageSize)}}
	wantBack(t, "empty pages", l, nil, 1, one(api.Node{}), 0)
	wantError(t, "a put on an empty page", l, logOf(put(2, "a")), 1, api.ErrTree)
	wantBack(t, "a new one", l, logOf(fresh(2, leaf(0, "", 0)), put(2, "a")), 1, []redo.Slot{{Page: 1}, {Page: 2, Node: leaf(2, "", 0, "a")}}, 2)
}

func TestATornPageHasAllBeReplayed(t *testing.T) {
	log := logOf(fresh(2, leaf(0, "", 0, "a")), put(1, "b"), put(2, "c"), put(1, "d"))
	want := []redo.Slot{{Page: 1, Node: leaf(4, "", 0, "b", "d")}, {Page: 2, Node: leaf(3, "", 0, "a", "c")}}
	at2 := whole(1, leaf(2, "", 0, "b"))
	for first := 1; first < 9; first++ {
		wantBack(t, "page 2 is torn", []restart.Image{at2, {Page: 2, Bytes: []byte{7}}}, log, first, want, 4)
		wantBack(t, "page 9, of which the log says nothing, is torn", []restart.Image{at2, {Page: 9, Bytes: []byte{7}}}, log, first, want, 4)
		wantBack(t, "all are torn", []restart.Image{{Page: 1, Bytes: []byte{7}}, {Page: 2, Bytes: []byte{7}}}, log, first, want, 4)
	}
	wantBack(t, "nothing is torn", []restart.Image{at2, {Page: 2}}, log, 4, want[:1], 4)
	wantError(t, "nothing is torn, but page 2 not there", []restart.Image{at2, {Page: 2}}, log, 3, api.ErrTree)
}

func TestTheLog(t *testing.T) {
	rs := []api.Record{put(1, "a"), noop(), fresh(2, leaf(0, "", 0, "q")), put(1, "b"), commit("b"), del(1, "a"), put(2, "r")}
	log := logOf(rs...)
	var ends []int // behind each frame
	for b := log; len(b) > 0; {
		_, n, e := record.Decode(b)
		if e != api.OK {
			t.Fatal(e)
		}
		b = b[n:]
		ends = append(ends, len(log)-len(b))
	}
	for n := range len(log) + 1 {
		last, _ := slices.BinarySearch(ends, n+1)
		numbered := slices.Clone(rs[:last])
		for i := range numbered {
			numbered[i].LSN = i + 1
		}
		want, e := redo.Replay(one(api.Node{}), numbered)
		if e != api.OK {
			t.Fatal(e)
		}
		wantBack(t, fmt.Sprintf("%d bytes", n), nil, log[:n], 1, want, last)
		for _, behind := range [][]byte{{0}, make([]byte, 99), {255, 255}, bytes.Repeat([]byte{37}, 60)} {
			wantBack(t, fmt.Sprintf("%d bytes, and others", n), nil, append(slices.Clone(log[:n]), behind...), 1, want, last)
		}
		if last > 0 && last < len(rs) {
			wantError(t, "an image of what was cut off", []restart.Image{whole(1, leaf(last+1, "", 0))}, log[:n], 1, api.ErrLog)
		}
	}
	for i := range log {
		turned := slices.Clone(log)
		turned[i] ^= 16
		at, _ := slices.BinarySearch(ends, i+1)
		if _, last, e := restart.Back(nil, turned, 1); last != at || e != api.OK {
			t.Errorf("byte %d turned: %d, %v", i, last, e)
		}
	}
	wantBack(t, "a log that does not begin with LSN 1", nil, log[ends[0]:], 1, one(api.Node{}), 0)
}

func TestALongLog(t *testing.T) {
	w := wal.New()
	for range api.MaxRecords - 1 {
		w.Append(noop())
	}
	w.Append(put(1, "a"))
	log := w.Bytes()
	wantBack(t, "MaxRecords", nil, log, 1, one(leaf(api.MaxRecords, "", 0, "a")), api.MaxRecords)
	wantBack(t, "the last one", nil, log, api.MaxRecords, one(leaf(api.MaxRecords, "", 0, "a")), api.MaxRecords)
	wantBack(t, "behind it", nil, log, api.MaxRecords+1, one(api.Node{}), api.MaxRecords)
	wantBack(t, "torn", []restart.Image{{Page: 3, Bytes: []byte{1}}}, log, api.MaxRecords+1, one(leaf(api.MaxRecords, "", 0, "a")), api.MaxRecords)
	wantError(t, "an image beyond", []restart.Image{whole(1, leaf(api.MaxRecords+1, "", 0))}, log, 1, api.ErrLog)
}

func TestAllPages(t *testing.T) {
	var l []restart.Image
	var want []redo.Slot
	for p := 1; p <= api.MaxPages; p++ {
		n := leaf(p%2, "", 0, fmt.Sprint(p))
		l = append(l, whole(p, n))
		want = append(want, redo.Slot{Page: p, Node: n})
	}
	wantBack(t, "MaxPages", l, logOf(noop()), 1, want, 1)
	want[0].Node = api.Node{}
	wantBack(t, "MaxPages less the root", l[1:], logOf(noop()), 1, want, 1)
}

// 16.2

// isTorn tells whether an image's bytes are torn, by the chapter's text.
func isTorn(b []byte) bool {
	if _, e := page.Decode(b); e == api.OK {
		return false
	}
	return strings.Trim(string(b), "\x00") != ""
}

func wantTorn(t *testing.T, what string, b []byte, want bool) {
	t.Helper()
	got := restart.Torn([]restart.Image{{Page: 7, Bytes: b}})
	if want && !slices.Equal(got, []int{7}) || !want && len(got) != 0 {
		t.Errorf("%s: %v", what, got)
	}
	// A torn page has all be replayed, and an empty or a whole one does not.
	pages, _, e := restart.Back([]restart.Image{{Page: 7, Bytes: b}}, logOf(put(1, "a"), noop()), 2)
	if e != api.OK || (len(pages[0].Node.Keys) == 1) != want {
		t.Errorf("%s: Back: %v, %v", what, pages, e)
	}
}

func TestTorn(t *testing.T) {
	for what, n := range map[string]api.Node{"a leaf": leaf(2, "m", 9, "a", "b"), "an empty leaf": {}, "an inner page": inner(1, []int{4, 5}, "k")} {
		b := bytesOf(n)
		wantTorn(t, what, b, false)
		for i := range 8 * len(b) {
			turned := slices.Clone(b)
			turned[i/8] ^= 1 << (i % 8)
			wantTorn(t, fmt.Sprintf("%s, bit %d turned", what, i), turned, true)
		}
		for i := range b {
			wantTorn(t, fmt.Sprintf("%s, %d bytes", what, i), b[:i], isTorn(b[:i]))
			front := slices.Concat(b[:i], make([]byte, len(b)-i))
			wantTorn(t, fmt.Sprintf("%s, %d bytes and bytes 0", what, i), front, isTorn(front))
		}
		wantTorn(t, what+" less one", b[:255], true)
		wantTorn(t, what+" less the first", b[1:], true)
		for _, behind := range [][]byte{{0}, {1}, b} {
			wantTorn(t, what+" and bytes behind", append(slices.Clone(b), behind...), true)
		}
	}
	for _, n := range []int{0, 1, 2, 255, 256, 257, 9999} {
		b := make([]byte, n)
		wantTorn(t, fmt.Sprint(n, " bytes 0"), b, false)
		for _, i := range []int{0, n / 2, n - 1} {
			if n > 0 {
				c := slices.Clone(b)
				c[i] = 1
				wantTorn(t, fmt.Sprint(n, " bytes 0 but ", i), c, true)
			}
		}
	}
	wantTorn(t, "nil", nil, false)
	// A right sum alone is no page.
	b := make([]byte, 252, 256)
	b[0] = 21
	sum := crc32.ChecksumIEEE(b)
	b = append(b, byte(sum), byte(sum>>8), byte(sum>>16), byte(sum>>24))
	wantTorn(t, "a page of level 21", b, true)
}

func TestTornTellsAllInTheirOrder(t *testing.T) {
	good, bad := bytesOf(leaf(1, "", 0)), []byte{1, 2, 3}
	for _, c := range []struct {
		l    []restart.Image
		want []int
	}{
		{nil, nil}, {[]restart.Image{}, nil}, {[]restart.Image{{Page: 1, Bytes: good}, {Page: 2}}, nil},
		{[]restart.Image{{Page: 1, Bytes: bad}, {Page: 2}, {Page: 3, Bytes: good}, {Page: 4, Bytes: bad}}, []int{1, 4}},
		{[]restart.Image{{Page: 9, Bytes: bad}, {Page: 2, Bytes: bad}, {Page: 2, Bytes: bad}, {Page: 5, Bytes: bad}}, []int{9, 2, 2, 5}},
		{[]restart.Image{{Page: 0, Bytes: bad}, {Page: -4, Bytes: bad}, {Page: 4097, Bytes: bad}, {Bytes: good}}, []int{0, -4, 4097}},
	} {
		if got := restart.Torn(c.l); !slices.Equal(got, c.want) {
			t.Errorf("%v: %v", c.want, got)
		}
	}
}

// Back against the chapter's text, of images, logs and first records at random.

// modelBack is what Back tells, by the chapter's text, a record and a page at a time.
func modelBack(l []restart.Image, log []byte, first int) ([]redo.Slot, int, api.Errno) {
	if first < 1 {
		return nil, 0, api.ErrArg
	}
	for i, x := range l {
		if x.Page < 1 || x.Page > 4096 || i > 0 && x.Page <= l[i-1].Page {
			return nil, 0, api.ErrArg
		}
	}
	var records []api.Record
	for {
		r, n, e := record.Decode(log)
		if e != api.OK || r.LSN != len(records)+1 || len(records) > 0 && r.Epoch < records[len(records)-1].Epoch {
			break
		}
		records, log = append(records, r), log[n:]
	}
	pages := map[int]api.Node{1: {}}
	for _, x := range l {
		if isTorn(x.Bytes) {
			first = 1
		}
	}
	for _, x := range l {
		if n, e := page.Decode(x.Bytes); e == api.OK {
			if n.LSN > len(records) {
				return nil, 0, api.ErrLog
			}
			pages[x.Page] = n
		}
	}
	for _, r := range records {
		if r.LSN < first || r.Kind == api.ReNoop || r.Kind == api.ReCommit {
			continue
		}
		n, there := pages[r.Page]
		n, _, e := redo.Apply(n, there, r)
		if e != api.OK {
			return nil, 0, api.ErrTree
		}
		pages[r.Page] = n
	}
	var out []redo.Slot
	for p := range 4097 {
		if n, there := pages[p]; there {
			out = append(out, redo.Slot{Page: p, Node: n})
		}
	}
	if blink.Check(out) != api.OK {
		return nil, 0, api.ErrTree
	}
	return out, len(records), api.OK
}

// anyRecord is a record on one of a few pages.
func anyRecord(r *rand.Rand) api.Record {
	p, k := 1+r.Intn(3), string(rune('a'+r.Intn(6)))
	switch r.Intn(9) {
	case 0:
		return noop()
	case 1:
		return commit(k)
	case 2:
		return del(p, k)
	case 3:
		return fresh(p, anyNode(r, p))
	case 4:
		return []api.Record{cut(p, k, 1+r.Intn(3)), post(p, k, 1+r.Intn(3))}[r.Intn(2)]
	}
	return put(p, k)
}

// anyNode is a node, for a page most often one that a tree has there.
func anyNode(r *rand.Rand, p int) api.Node {
	lsn := r.Intn(7)
	switch {
	case r.Intn(6) == 0:
		return leaf(lsn, "d", 1+r.Intn(3), "b")
	case p == 1:
		return []api.Node{leaf(lsn, "", 0, "a"), inner(lsn, []int{2}), inner(lsn, []int{2, 3}, "d")}[r.Intn(3)]
	case p == 2:
		return leaf(lsn, "d", 3, "a", "c")
	}
	return leaf(lsn, "", 0, "d", "e")
}

// anyImages are images of a few pages: some torn, some empty, seldom out of their order.
func anyImages(r *rand.Rand) []restart.Image {
	var l []restart.Image
	for _, p := range []int{1, 2, 3, 9} {
		x := restart.Image{Page: p}
		switch r.Intn(12) {
		case 0, 1:
			continue
		case 2:
		case 3:
			x.Bytes = make([]byte, r.Intn(300))
		case 4:
			x.Bytes = bytesOf(anyNode(r, p))[:r.Intn(256)]
		case 5:
			x.Bytes = bytesOf(anyNode(r, p))
			x.Bytes[r.Intn(256)] ^= 1 << r.Intn(8)
		default:
			x.Bytes = bytesOf(anyNode(r, p))
		}
		l = append(l, x)
	}
	if len(l) > 1 && r.Intn(20) == 0 {
		l[0], l[1] = l[1], l[0]
	}
	return l
}

func TestBackByTheText(t *testing.T) {
	r := rand.New(rand.NewSource(7))
	count := map[api.Errno]int{}
	for range 40000 {
		w := wal.New()
		for range r.Intn(9) {
			x := anyRecord(r)
			x.Epoch = r.Intn(2)
			w.Append(x)
		}
		log := w.Bytes()
		if r.Intn(4) == 0 {
			log = log[:r.Intn(len(log)+1)]
		}
		l, first := anyImages(r), r.Intn(10)
		pages, last, e := modelBack(l, log, first)
		got, n, f := restart.Back(l, log, first)
		if !sameSlots(got, pages) || n != last || f != e {
			t.Fatalf("Back(%v, %v, %d): %v, %d, %v, not %v, %d, %v", l, log, first, got, n, f, pages, last, e)
		}
		count[e]++
		if e == api.OK {
			wantAgain(t, got, log, first)
		}
		var torn []int
		for _, x := range l {
			if isTorn(x.Bytes) {
				torn = append(torn, x.Page)
			}
		}
		if got := restart.Torn(l); !slices.Equal(got, torn) {
			t.Fatalf("Torn(%v): %v, not %v", l, got, torn)
		}
	}
	for _, e := range []api.Errno{api.OK, api.ErrArg, api.ErrLog, api.ErrTree} {
		if count[e] < 1000 {
			t.Errorf("%v: %d are too few", e, count[e])
		}
	}
}

func TestAnyBytes(t *testing.T) {
	r := rand.New(rand.NewSource(8))
	for range 20000 {
		l := make([]restart.Image, r.Intn(4))
		for i := range l {
			b := make([]byte, []int{0, 3, 255, 256, 257}[r.Intn(5)])
			r.Read(b)
			l[i] = restart.Image{Page: r.Intn(4100) - 2, Bytes: b}
		}
		log := make([]byte, r.Intn(99))
		r.Read(log)
		restart.Torn(l)
		restart.Back(l, log, r.Intn(3)-1)
		wantBack(t, "any log", nil, log, 1, one(api.Node{}), 0)
	}
}

// 16.3, 16.4

// wantAgain tells whether nothing changes when one comes back from what one came back to.
func wantAgain(t *testing.T, pages []redo.Slot, log []byte, first int) {
	t.Helper()
	got, _, e := restart.Back(images(pages), log, first)
	if !sameSlots(got, pages) || e != api.OK {
		t.Fatalf("again: %v, %v, not %v", got, e, pages)
	}
}

// story is a tree's records, and its pages behind each of them.
type story struct {
	records []api.Record
	behind  [][]redo.Slot // by LSN, from 0 on
}

// storyOf is the story of a tree of these records.
func storyOf(t *testing.T, rs []api.Record) story {
	t.Helper()
	s := story{records: rs, behind: [][]redo.Slot{one(api.Node{})}}
	for i, r := range rs {
		pages, e := redo.Replay(s.behind[i], rs[i:i+1])
		if e != api.OK || r.LSN != i+1 {
			t.Fatalf("%v: %v", r, e)
		}
		s.behind = append(s.behind, pages)
	}
	return s
}

// last are the pages behind all records.
func (s story) last() []redo.Slot { return s.behind[len(s.records)] }

// operated is the story of a tree on which operations go step by step, in any turn.
func operated(t *testing.T, r *rand.Rand, ops, keys int) story {
	t.Helper()
	tree := blink.New()
	ms := steps.New(tree)
	var rs []api.Record
	for ops > 0 || len(ms.Running()) > 0 {
		if ops > 0 && r.Intn(3) == 0 {
			k := fmt.Sprintf("key%0*d", 3+r.Intn(2)*10, r.Intn(keys))
			op := api.Op{Kind: api.OpPut, Key: k, Value: strings.Repeat("x", 32-r.Intn(2)*r.Intn(33))}
			if r.Intn(4) == 0 {
				op = api.Op{Kind: api.OpDel, Key: k}
			}
			if _, e := ms.Begin(op); e == api.OK {
				ops--
			}
		}
		if l := ms.Running(); len(l) > 0 {
			said, e := ms.Step(l[r.Intn(len(l))])
			if e != api.OK {
				t.Fatal(e)
			}
			rs = append(rs, said...)
		}
		if r.Intn(20) == 0 {
			x, e := tree.Say([]api.Record{noop(), commit("a")}[r.Intn(2)])
			if e != api.OK {
				t.Fatal(e)
			}
			rs = append(rs, x)
		}
	}
	s := storyOf(t, rs)
	if !sameSlots(s.last(), tree.Pages()) {
		t.Fatal("the records do not come to the tree's pages")
	}
	return s
}

// spoiled are bytes of a page that was torn.
func spoiled(r *rand.Rand, n api.Node) []byte {
	b := bytesOf(n)
	switch r.Intn(4) {
	case 0:
		b[r.Intn(256)] ^= 1 << r.Intn(8)
	case 1:
		b = b[:200+r.Intn(56)]
	case 2:
		b = append(b, 0)
	default: // a beginning of the new one, with the rest of the old
		copy(b[200:], make([]byte, 56))
	}
	if !isTorn(b) {
		return []byte{9}
	}
	return b
}

// stay is how pages stood when all broke off: their images, the least LSN of those that are whole, whether one is torn, and whether one is not there.
type stay struct {
	images        []restart.Image
	least         int
	torn, missing bool
}

// add adds a page as it was at an LSN of a story: whole, or not there.
func (x *stay) add(s story, p, lsn int, listed bool) {
	n, there := redo.Find(s.behind[lsn], p)
	if there {
		x.images = append(x.images, whole(p, n))
		x.least = min(x.least, n.LSN)
		return
	}
	x.missing = true
	if listed {
		x.images = append(x.images, restart.Image{Page: p})
	}
}

// full is the first LSN at which all pages were there.
func (s story) full() int {
	return slices.IndexFunc(s.behind, func(l []redo.Slot) bool { return len(l) == len(s.last()) })
}

// anyStay has each page as it was at any LSN, or torn, or empty.
func anyStay(r *rand.Rand, s story, seldom int) stay {
	x := stay{least: math.MaxInt}
	from := []int{s.full(), r.Intn(len(s.records) + 1)}[r.Intn(2)]
	for _, slot := range s.last() {
		switch r.Intn(seldom) {
		case 0:
			x.images = append(x.images, restart.Image{Page: slot.Page, Bytes: spoiled(r, slot.Node)})
			x.torn = true
		case 1:
			x.images = append(x.images, restart.Image{Page: slot.Page, Bytes: make([]byte, r.Intn(2)*256)})
			x.missing = true
		case 2:
			x.missing = true
		default:
			x.add(s, slot.Page, from+r.Intn(len(s.records)+1-from), r.Intn(2) == 0)
		}
	}
	return x
}

// wantOnceMore tells whether one comes back to a story's pages, with each first record that the chapter names.
func wantOnceMore(t *testing.T, s story, log []byte, x stay, firsts []int) {
	t.Helper()
	for _, first := range firsts {
		if first > 1 && x.missing && !x.torn || first > x.least+1 && !x.torn {
			continue
		}
		pages, last, e := restart.Back(x.images, log, first)
		if !sameSlots(pages, s.last()) || last != len(s.records) || e != api.OK {
			t.Fatalf("first %d, least %d, torn %v, missing %v: %v, %d, %v, not %v", first, x.least, x.torn, x.missing, pages, last, e, s.last())
		}
	}
}

func TestOnceMore(t *testing.T) {
	r := rand.New(rand.NewSource(3))
	levels := map[int]int{}
	for turn := range 24 {
		s := operated(t, r, 3+20*(turn%12), 40+10*(turn%12))
		root, _ := redo.Find(s.last(), 1)
		levels[root.Level]++
		log := logOf(s.records...)
		kinds := [3]int{}
		for i := range 40 {
			x := anyStay(r, s, []int{4, 30, 1000, 100000}[i%4])
			firsts := []int{1, 2, 1 + r.Intn(len(s.records)+1), len(s.records) + 1, len(s.records) + 5}
			if x.least < math.MaxInt {
				firsts = append(firsts, x.least, x.least+1, 1+r.Intn(x.least+1))
			}
			wantOnceMore(t, s, log, x, slices.DeleteFunc(firsts, func(n int) bool { return n < 1 }))
			switch {
			case x.torn:
				kinds[0]++
			case x.missing:
				kinds[1]++
			default:
				kinds[2]++
			}
		}
		if slices.Min(kinds[:]) == 0 {
			t.Errorf("of %v kinds one is not there", kinds)
		}
	}
	if levels[0] == 0 || levels[1] == 0 || levels[2] == 0 {
		t.Errorf("levels of the root: %v", levels)
	}
}

// parting is the story of a few puts that part the root.
func parting(t *testing.T) story {
	ms := steps.New(blink.New())
	var rs []api.Record
	for i := range 6 {
		_, said, e := ms.Do(api.Op{Kind: api.OpPut, Key: fmt.Sprintf("key%013d", i), Value: strings.Repeat("x", 32)})
		if e != api.OK {
			t.Fatal(e)
		}
		rs = append(rs, said...)
	}
	return storyOf(t, rs)
}

func TestOnceMoreWithEachPageAtEachLSN(t *testing.T) {
	s := parting(t)
	if len(s.last()) != 3 || len(s.records) != 9 {
		t.Fatalf("%d pages, %d records", len(s.last()), len(s.records))
	}
	log := logOf(s.records...)
	var firsts []int
	for first := 1; first <= len(s.records)+3; first++ {
		firsts = append(firsts, first)
	}
	states := len(s.behind) + 4 // at each LSN, and torn, without bytes, of bytes 0, not listed
	for turn := range states * states * states {
		x := stay{least: math.MaxInt}
		for i, slot := range s.last() {
			switch at := turn / []int{1, states, states * states}[i] % states; at {
			case len(s.behind):
				x.images, x.torn = append(x.images, restart.Image{Page: slot.Page, Bytes: bytesOf(slot.Node)[:255]}), true
			case len(s.behind) + 1:
				x.images, x.missing = append(x.images, restart.Image{Page: slot.Page}), true
			case len(s.behind) + 2:
				x.images, x.missing = append(x.images, restart.Image{Page: slot.Page, Bytes: make([]byte, 256)}), true
			case len(s.behind) + 3:
				x.missing = true
			default:
				x.add(s, slot.Page, at, true)
			}
		}
		wantOnceMore(t, s, log, x, firsts)
	}
}

func TestOnceMoreOfEachBeginningOfALog(t *testing.T) {
	r := rand.New(rand.NewSource(6))
	s := operated(t, r, 60, 30)
	for n := range s.behind {
		beginning := story{records: s.records[:n], behind: s.behind[:n+1]}
		log := logOf(beginning.records...)
		for i := range 10 {
			wantOnceMore(t, beginning, log, anyStay(r, beginning, []int{4, 30, 1000}[i%3]), []int{1, 2, n + 1})
		}
	}
}

func TestBackTwice(t *testing.T) {
	r := rand.New(rand.NewSource(5))
	for range 40 {
		s := operated(t, r, 60, 40)
		log := logOf(s.records...)
		for range 20 {
			x := anyStay(r, s, 4)
			first := 1 + r.Intn(len(s.records)+3)
			pages, _, e := restart.Back(x.images, log, 1)
			if e != api.OK {
				t.Fatal(e)
			}
			wantAgain(t, pages, log, 1)
			wantAgain(t, pages, log, first)
			wantAgain(t, pages, log, math.MaxInt)
			if restart.Torn(images(pages)) != nil {
				t.Fatal("what one came back to is torn")
			}
			// With what is beyond 16.3, too, wherever one comes back at all.
			if pages, _, e := restart.Back(x.images, log, first); e == api.OK {
				wantAgain(t, pages, log, first)
			}
		}
	}
}

// R3, R6

// scribble writes over all that pages have, spare room too.
func scribble(l []redo.Slot) {
	l = l[:cap(l)]
	for i := range l {
		n := &l[i].Node
		for _, texts := range [][]string{n.Keys[:cap(n.Keys)], n.Vals[:cap(n.Vals)]} {
			for j := range texts {
				texts[j] = "scribble"
			}
		}
		kids := n.Kids[:cap(n.Kids)]
		for j := range kids {
			kids[j] = -7
		}
		l[i] = redo.Slot{Page: -9, Node: api.Node{Level: 99}}
	}
}

func TestNothingIsShared(t *testing.T) {
	s := parting(t)
	log := append(make([]byte, 0, 4096), logOf(s.records...)...)
	l := make([]restart.Image, 0, 9)
	for i, x := range images(s.last()) {
		x.Bytes = append(make([]byte, 0, 400), x.Bytes...)
		if i == 1 {
			x.Bytes[9] ^= 1
		}
		l = append(l, x)
	}
	snapshot := func() string {
		return fmt.Sprint(l[:9], log[:4096], l[0].Bytes[:400], l[1].Bytes[:400], l[2].Bytes[:400])
	}
	was := snapshot()
	one, _, e := restart.Back(l, log, 4)
	two, _, _ := restart.Back(l, log, 4)
	torn, torn2 := restart.Torn(l), restart.Torn(l)
	if e != api.OK || !slices.Equal(torn, []int{2}) {
		t.Fatalf("%v, %v", e, torn)
	}
	scribble(one)
	for i := range torn[:cap(torn)] {
		torn[:cap(torn)][i] = -5
	}
	if snapshot() != was {
		t.Error("what was handed in was changed, or is shared with the answer")
	}
	if !sameSlots(two, s.last()) || !slices.Equal(torn2, []int{2}) {
		t.Error("two answers share memory")
	}
	for _, x := range l {
		for i := range x.Bytes {
			x.Bytes[i] = 170
		}
	}
	for i := range log {
		log[i] = 170
	}
	if !sameSlots(two, s.last()) {
		t.Error("what was handed in was kept")
	}
	for i := range s.last() {
		again, _, _ := restart.Back(nil, logOf(s.records...), 1)
		scribble(again[i : i+1 : i+1])
		for j, slot := range again {
			if j != i && !same(slot.Node, s.last()[j].Node) {
				t.Errorf("page %d shares memory with another one", slot.Page)
			}
		}
	}
}

func TestNothingBehindTheEndIsRead(t *testing.T) {
	b := bytesOf(leaf(1, "", 0, "a"))
	if got := restart.Torn([]restart.Image{{Page: 1, Bytes: b[:255]}}); len(got) != 1 {
		t.Errorf("Torn: %v", got)
	}
	log := abc()
	if _, last, e := restart.Back(nil, log[:len(log)-1], 1); last != 2 || e != api.OK {
		t.Errorf("%d, %v", last, e)
	}
	l := []restart.Image{whole(1, leaf(0, "", 0)), {Page: 2, Bytes: []byte{1}}}
	if got := restart.Torn(l[:1]); len(got) != 0 {
		t.Errorf("Torn: %v", got)
	}
	wantBack(t, "one of two", l[:1], log, 3, one(leaf(3, "", 0, "c")), 3)
}

// The chapters' examples.

func TestExamples(t *testing.T) {
	wantBack(t, "no images", nil, logOf(put(1, "a")), 1, one(leaf(1, "", 0, "a")), 1)
	wantError(t, "an image of LSN 9", []restart.Image{whole(1, leaf(9, "", 0))}, abc(), 1, api.ErrLog)
	b := bytesOf(leaf(2, "", 0, "a", "b"))
	b[77] ^= 1
	wantBack(t, "a page of which one byte is torn", []restart.Image{{Page: 1, Bytes: b}}, abc(), 3, one(leaf(3, "", 0, "a", "b", "c")), 3)
}
