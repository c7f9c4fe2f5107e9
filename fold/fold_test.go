package fold_test

import (
	"fmt"
	"math"
	"math/rand"
	"slices"
	"strings"
	"testing"

	"lattice/api"
	"lattice/fold"
	"lattice/record"
)

func put(req int, k, v string) api.Record {
	return api.Record{LSN: req, Kind: api.ReCommit, Other: 1, Req: req, Key: k, Value: v}
}

func del(req int, k string) api.Record {
	return api.Record{LSN: req, Kind: api.ReCommit, Other: 2, Req: req, Key: k}
}

func get(k string) api.Op { return api.Op{Kind: api.OpGet, Key: k} }

func scan(from, below string) api.Op { return api.Op{Kind: api.OpScan, Key: from, Value: below} }

// found is the result of a get.
func found(v string) api.Result { return api.Result{Found: true, Value: v} }

// entries are keys and values, in turns.
func entries(l ...string) []api.Entry {
	var m []api.Entry
	for i := 0; i < len(l); i += 2 {
		m = append(m, api.Entry{Key: l[i], Value: l[i+1]})
	}
	return m
}

func told(l ...string) api.Result { return api.Result{Entries: entries(l...)} }

func same(a, b api.Result) bool {
	return a.Found == b.Found && a.Value == b.Value && slices.Equal(a.Entries, b.Entries)
}

// others are records that are in no history: of other kinds, and commits that are not right.
func others() []api.Record {
	long := strings.Repeat("k", 17)
	l := []api.Record{
		{}, {LSN: 1, Kind: api.ReNoop}, {LSN: 1, Kind: api.RePut, Page: 1, Key: "a", Value: "p"}, {LSN: 1, Kind: api.ReDel, Page: 1, Key: "a"}, {LSN: 1, Kind: api.ReCut, Page: 1, Other: 2, Key: "a"}, {LSN: 1, Kind: api.RePost, Page: 1, Other: 2, Key: "a"},
		{LSN: 1, Kind: api.ReNew, Page: 1, Other: 1, Req: 1, Key: "a"}, {LSN: 1, Kind: 8, Other: 1, Req: 1, Key: "a"}, {LSN: 1, Other: 1, Req: 1, Key: "a"}, {LSN: 1, Kind: -7, Other: 1, Req: 1, Key: "a"},
		put(1, "", "p"), put(1, long, "p"), put(1, "a", strings.Repeat("v", 33)), del(1, ""), del(1, long),
	}
	for _, spoil := range []func(*api.Record){
		func(r *api.Record) { r.LSN = 0 }, func(r *api.Record) { r.LSN = -1 }, func(r *api.Record) { r.LSN = api.MaxLSN + 1 }, func(r *api.Record) { r.Epoch = -1 }, func(r *api.Record) { r.Epoch = api.MaxLSN + 1 },
		func(r *api.Record) { r.Page = 1 }, func(r *api.Record) { r.Other = 0 }, func(r *api.Record) { r.Other = 3 }, func(r *api.Record) { r.Other = -1 }, func(r *api.Record) { r.Req = 0 }, func(r *api.Record) { r.Req = -1 }, func(r *api.Record) { r.Req = api.MaxReq + 1 },
	} {
		for _, r := range []api.Record{put(1, "a", "p"), del(1, "a")} {
			spoil(&r)
			l = append(l, r)
		}
	}
	return append(l, api.Record{LSN: 1, Kind: api.ReCommit, Other: 2, Req: 1, Key: "a", Value: "p"})
}

// edges are commits that are right at the edges.
func edges() []api.Record {
	return []api.Record{
		put(1, "a", ""), put(api.MaxReq, strings.Repeat("k", 16), strings.Repeat("v", 32)), del(1, "a"), del(api.MaxReq, strings.Repeat("\xff", 16)), put(2, "\x00", "\x00"),
		{LSN: api.MaxLSN, Epoch: api.MaxLSN, Kind: api.ReCommit, Other: 1, Req: 7, Key: "a"}, {LSN: 1, Kind: api.ReCommit, Other: 2, Req: 7, Key: "a"},
	}
}

// among are commits with others in each gap.
func among(h []api.Record) []api.Record {
	l := others()
	for _, r := range h {
		l = append(append(l, r), others()...)
	}
	return l
}

// abab are the chapter's writes: puts a x, b y, a z, delete b.
func abab() []api.Record {
	return []api.Record{put(1, "a", "x"), put(2, "b", "y"), put(3, "a", "z"), del(4, "b")}
}

func wantBehind(t *testing.T, h []api.Record, n int, want []api.Entry, wantE api.Errno) {
	t.Helper()
	if m, e := fold.Behind(h, n); !slices.Equal(m, want) || e != wantE {
		t.Errorf("Behind(%v, %d): %v, %v, not %v, %v", h, n, m, e, want, wantE)
	}
}

func wantAnswer(t *testing.T, m []api.Entry, op api.Op, want api.Result, wantE api.Errno) {
	t.Helper()
	if x, e := fold.Answer(m, op); !same(x, want) || e != wantE {
		t.Errorf("Answer(%v, %v): %v, %v, not %v, %v", m, op, x, e, want, wantE)
	}
}

func wantAgrees(t *testing.T, h []api.Record, op api.Op, x api.Result, from, want int, wantOK bool) {
	t.Helper()
	if n, ok := fold.Agrees(h, op, x, from); n != want || ok != wantOK {
		t.Errorf("Agrees(%v, %v, %v, %d): %d, %v, not %d, %v", h, op, x, from, n, ok, want, wantOK)
	}
}

func wantPlace(t *testing.T, h []api.Record, req, want int, wantOK bool) {
	t.Helper()
	if i, ok := fold.Place(h, req); i != want || ok != wantOK {
		t.Errorf("Place(%v, %d): %d, %v, not %d, %v", h, req, i, ok, want, wantOK)
	}
}

func wantExtends(t *testing.T, h, of []api.Record, want bool) {
	t.Helper()
	if fold.Extends(h, of) != want {
		t.Errorf("Extends(%v, %v) is not %v", h, of, want)
	}
}

func wantOnce(t *testing.T, h []api.Record, want bool) {
	t.Helper()
	if fold.Once(h) != want {
		t.Errorf("Once(%v) is not %v", h, want)
	}
}

// 18.1: History.

func TestHistory(t *testing.T) {
	for _, r := range others() {
		if r.Kind == api.ReCommit && record.Check(r) == api.OK {
			t.Fatalf("%v is right", r)
		}
		if h := fold.History([]api.Record{r}); len(h) != 0 {
			t.Errorf("History of %v: %v", r, h)
		}
	}
	for _, r := range edges() {
		if h := fold.History([]api.Record{r}); !slices.Equal(h, []api.Record{r}) {
			t.Errorf("History of %v: %v", r, h)
		}
	}
	for _, l := range [][]api.Record{nil, {}, abab(), edges(), append(edges(), edges()...), append(abab(), put(1, "a", "x"))} {
		if h := fold.History(l); !slices.Equal(h, l) {
			t.Errorf("History of %v: %v", l, h)
		}
		if h := fold.History(among(l)); !slices.Equal(h, l) {
			t.Errorf("History of %v among others: %v", l, h)
		}
	}
	falling := []api.Record{{LSN: 9, Epoch: 3, Kind: api.ReCommit, Other: 1, Req: 9, Key: "a"}, {LSN: 2, Epoch: 1, Kind: api.ReCommit, Other: 2, Req: 1, Key: "b"}, {LSN: 2, Epoch: 7, Kind: api.ReCommit, Other: 1, Req: 1, Key: "b"}}
	if h := fold.History(falling); !slices.Equal(h, falling) {
		t.Errorf("History of records in no order of LSNs: %v", h)
	}
}

// 18.1: Behind.

func TestBehind(t *testing.T) {
	for n, want := range [][]api.Entry{nil, entries("a", "x"), entries("a", "x", "b", "y"), entries("a", "z", "b", "y"), entries("a", "z")} {
		wantBehind(t, abab(), n, want, api.OK)
		wantBehind(t, among(abab()), n, want, api.OK)
	}
	for _, h := range [][]api.Record{abab(), among(abab())} {
		for _, n := range []int{math.MinInt, -1, 5, 6, math.MaxInt} {
			wantBehind(t, h, n, nil, api.ErrArg)
		}
	}
	for _, h := range [][]api.Record{nil, {}, others()} {
		wantBehind(t, h, 0, nil, api.OK)
		for _, n := range []int{math.MinInt, -1, 1, len(h) + 1, math.MaxInt} {
			wantBehind(t, h, n, nil, api.ErrArg)
		}
	}
}

func TestBehindWritesOfOneKey(t *testing.T) {
	h := []api.Record{del(1, "a"), put(2, "a", "x"), put(3, "a", "x"), put(4, "a", ""), del(5, "a"), del(6, "a"), put(7, "a", "y"), del(8, "b"), put(9, "A", "z"), put(10, "a\x00", "0")}
	for n, want := range [][]api.Entry{
		nil, nil, entries("a", "x"), entries("a", "x"), entries("a", ""), nil, nil, entries("a", "y"), entries("a", "y"), entries("A", "z", "a", "y"), entries("A", "z", "a", "y", "a\x00", "0"),
	} {
		wantBehind(t, h, n, want, api.OK)
	}
}

func TestBehindBringsKeysInOrder(t *testing.T) {
	keys := []string{"\x00", "\x00\x00", "\x01", "A", "Z", "a", "a\x00", "a\xff", "aa", "b", strings.Repeat("k", 16), "\x7f", "\x80", "é", "日本", "\xff", "\xff\x00", strings.Repeat("\xff", 16)}
	slices.Sort(keys)
	var want []api.Entry
	for _, k := range keys {
		want = append(want, api.Entry{Key: k, Value: "v" + k[:1]})
	}
	r := rand.New(rand.NewSource(18))
	for range 50 {
		var h []api.Record
		for _, i := range r.Perm(len(keys)) {
			h = append(h, put(i+1, keys[i], want[i].Value))
		}
		wantBehind(t, h, len(h), want, api.OK)
	}
}

// 18.1: Answer.

func TestAnswer(t *testing.T) {
	m := entries("a", "1", "c", "", "e", "5")
	for _, c := range []struct {
		op   api.Op
		want api.Result
	}{
		{get("a"), found("1")}, {get("c"), found("")}, {get("e"), found("5")}, {get("b"), api.Result{}}, {get(""), api.Result{}}, {get("f"), api.Result{}}, {get("a\x00"), api.Result{}}, {get(strings.Repeat("k", 17)), api.Result{}},
		{api.Op{Kind: api.OpGet, Key: "a", Value: "z"}, found("1")},
		{api.Op{Kind: api.OpPut, Key: "a", Value: "z"}, api.Result{Found: true}}, {api.Op{Kind: api.OpPut, Key: "b", Value: "z"}, api.Result{}}, {api.Op{Kind: api.OpPut}, api.Result{}}, {api.Op{Kind: api.OpPut, Key: "c", Value: strings.Repeat("v", 33)}, api.Result{Found: true}},
		{api.Op{Kind: api.OpDel, Key: "e"}, api.Result{Found: true}}, {api.Op{Kind: api.OpDel, Key: "d"}, api.Result{}}, {api.Op{Kind: api.OpDel, Key: "a", Value: "q"}, api.Result{Found: true}}, {api.Op{Kind: api.OpDel}, api.Result{}},
		{scan("", ""), told("a", "1", "c", "", "e", "5")}, {scan("a", ""), told("a", "1", "c", "", "e", "5")}, {scan("a\x00", ""), told("c", "", "e", "5")}, {scan("b", ""), told("c", "", "e", "5")}, {scan("c", ""), told("c", "", "e", "5")}, {scan("e", ""), told("e", "5")}, {scan("f", ""), told()},
		{scan("", "a"), told()}, {scan("", "b"), told("a", "1")}, {scan("", "c"), told("a", "1")}, {scan("", "c\x00"), told("a", "1", "c", "")}, {scan("", "e"), told("a", "1", "c", "")}, {scan("", "z"), told("a", "1", "c", "", "e", "5")},
		{scan("a", "e"), told("a", "1", "c", "")}, {scan("b", "d"), told("c", "")}, {scan("c", "c"), told()}, {scan("c", "c\x00"), told("c", "")}, {scan("e", "a"), told()}, {scan("d", "b"), told()}, {scan("\xff", "\x00"), told()},
		{scan(strings.Repeat("b", 40), strings.Repeat("d", 40)), told("c", "")},
	} {
		wantAnswer(t, m, c.op, c.want, api.OK)
		for _, none := range [][]api.Entry{nil, {}} {
			wantAnswer(t, none, c.op, api.Result{}, api.OK)
		}
	}
}

func TestAnswerRefuses(t *testing.T) {
	long, tooLong, value, noValue := strings.Repeat("k", 16), strings.Repeat("k", 17), strings.Repeat("v", 32), strings.Repeat("v", 33)
	right := [][]api.Entry{nil, {}, entries("a", ""), entries("a", "1", "b", "2"), entries(long, value), entries("\x00", "", "\xff", ""), entries("a", "", "a\x00", "", "b", "")}
	wrong := [][]api.Entry{
		entries("", ""), entries("", "", "a", ""), entries("a", "", "", ""), entries(tooLong, ""), entries("a", "", tooLong, ""), entries("a", noValue), entries("a", "1", "b", noValue), entries("a", noValue, "b", ""),
		entries("b", "", "a", ""), entries("a", "1", "a", "1"), entries("a", "1", "a", "2"), entries("a", "", "c", "", "b", ""), entries("a", "", "b", "", "b", ""), entries("b", "", "a", "", "c", ""), entries("a\x00", "", "a", ""), entries("\xff", "", "\x7f", ""),
	}
	kinds := []int{api.OpGet, api.OpPut, api.OpDel, api.OpScan}
	none := []int{math.MinInt, -1, 0, 5, 6, math.MaxInt}
	for _, k := range []string{"", "a", "b", "z"} {
		for _, m := range wrong {
			for _, kind := range append(slices.Clone(kinds), none...) { // the map is looked at first
				wantAnswer(t, m, api.Op{Kind: kind, Key: k}, api.Result{}, api.ErrForm)
			}
		}
		for _, m := range right {
			for _, kind := range none {
				wantAnswer(t, m, api.Op{Kind: kind, Key: k}, api.Result{}, api.ErrArg)
			}
			for _, kind := range kinds {
				if _, e := fold.Answer(m, api.Op{Kind: kind, Key: k}); e != api.OK {
					t.Errorf("Answer(%v, kind %d): %v", m, kind, e)
				}
			}
		}
	}
}

// modelAnswer is what an operation gives, in the chapter's words.
func modelAnswer(m []api.Entry, op api.Op) api.Result {
	var x api.Result
	for _, e := range m {
		switch {
		case op.Kind == api.OpScan:
			if strings.Compare(e.Key, op.Key) >= 0 && (len(op.Value) == 0 || strings.Compare(e.Key, op.Value) < 0) {
				x.Entries = append(x.Entries, e)
			}
		case e.Key == op.Key:
			x.Found = true
			if op.Kind == api.OpGet {
				x.Value = e.Value
			}
		}
	}
	return x
}

// modelBehind is the map behind the first n of a right history: of each key what its last write says.
func modelBehind(h []api.Record, n int) []api.Entry {
	var m []api.Entry
	for i, r := range h[:n] {
		later := slices.ContainsFunc(h[i+1:n], func(x api.Record) bool { return x.Key == r.Key })
		if r.Other == 1 && !later {
			m = append(m, api.Entry{Key: r.Key, Value: r.Value})
		}
	}
	slices.SortFunc(m, func(a, b api.Entry) int { return strings.Compare(a.Key, b.Key) })
	return m
}

// modelAgrees goes through all beginnings of a right history.
func modelAgrees(h []api.Record, op api.Op, x api.Result, from int) (int, bool) {
	for n := max(from, 0); n <= len(h); n++ {
		if same(modelAnswer(modelBehind(h, n), op), x) {
			return n, true
		}
	}
	return 0, false
}

// writes are a few writes: of two keys, and of one between.
func writes() []api.Record {
	return []api.Record{put(1, "a", "x"), put(2, "a", "y"), put(3, "b", "x"), del(4, "a"), del(5, "b"), put(6, "aa", "")}
}

// rows are all rows of n of some records.
func rows(of []api.Record, n int) [][]api.Record {
	if n == 0 {
		return [][]api.Record{nil}
	}
	var l [][]api.Record
	for _, row := range rows(of, n-1) {
		for _, r := range of {
			l = append(l, append(slices.Clone(row), r))
		}
	}
	return l
}

// operations are some of each kind.
func operations() []api.Op {
	var l []api.Op
	for _, kind := range []int{api.OpGet, api.OpPut, api.OpDel} {
		l = append(l, api.Op{Kind: kind, Key: "a"}, api.Op{Kind: kind, Key: "b", Value: "x"}, api.Op{Kind: kind, Key: "c"})
	}
	for _, from := range []string{"", "a", "aa", "b"} {
		for _, below := range []string{"", "a", "b", "c"} {
			l = append(l, scan(from, below))
		}
	}
	return l
}

// results are some that an operation may give, and some that none gives.
func results() []api.Result {
	return []api.Result{
		{}, {Found: true}, found("x"), found("y"), found("q"), {Value: "x"}, told("a", "x"), told("a", "y"), told("b", "x"), told("aa", ""), told("a", "x", "b", "x"), told("a", "y", "aa", ""), told("a", "x", "aa", "", "b", "x"), told("b", "x", "a", "x"), told("a", "x", "a", "x"),
		{Found: true, Entries: entries("a", "x")}, {Value: "x", Entries: entries("a", "x")}, {Entries: []api.Entry{}}, {Found: true, Value: "x", Entries: entries("a", "x")},
	}
}

func TestShortHistories(t *testing.T) {
	for n := range 5 {
		for _, h := range rows(writes(), n) {
			for i := range n + 1 {
				m := modelBehind(h, i)
				wantBehind(t, h, i, m, api.OK)
				for _, op := range operations() {
					wantAnswer(t, m, op, modelAnswer(m, op), api.OK)
				}
			}
			if n == 4 && h[0].Req != 1 {
				continue // of the longest, some are enough for the rest
			}
			for _, op := range operations() {
				for _, x := range results() {
					for from := -1; from <= n+1; from++ {
						want, ok := modelAgrees(h, op, x, from)
						wantAgrees(t, h, op, x, from, want, ok)
					}
				}
			}
			if t.Failed() {
				return
			}
		}
	}
}

// anyHistory is a right history of random writes.
func anyHistory(r *rand.Rand, n, keys int) []api.Record {
	var h []api.Record
	for i := range n {
		k := fmt.Sprint("k", r.Intn(keys))
		if r.Intn(3) == 0 {
			h = append(h, del(i+1, k))
		} else {
			h = append(h, put(i+1, k, fmt.Sprint(r.Intn(3))))
		}
	}
	return h
}

// mixed are records among which others stand here and there.
func mixed(r *rand.Rand, h []api.Record) []api.Record {
	var l []api.Record
	for _, x := range h {
		for r.Intn(3) == 0 {
			l = append(l, others()[r.Intn(len(others()))])
		}
		l = append(l, x)
	}
	return append(l, others()[r.Intn(len(others()))])
}

func TestAnyHistories(t *testing.T) {
	r := rand.New(rand.NewSource(183))
	agreed := 0
	for range 1500 {
		h := anyHistory(r, r.Intn(40), 1+r.Intn(8))
		l := mixed(r, h)
		n := r.Intn(len(h) + 1)
		m := modelBehind(h, n)
		wantBehind(t, l, n, m, api.OK)
		op := api.Op{Kind: 1 + r.Intn(4), Key: fmt.Sprint("k", r.Intn(9))}
		if op.Kind == api.OpScan {
			op.Key, op.Value = []string{"", op.Key}[r.Intn(2)], []string{"", "k5", "k" + fmt.Sprint(r.Intn(9))}[r.Intn(3)]
		}
		x := modelAnswer(m, op)
		wantAnswer(t, m, op, x, api.OK)
		if r.Intn(4) == 0 {
			x.Found = !x.Found
		}
		if len(x.Entries) > 1 && r.Intn(4) == 0 {
			x.Entries[0], x.Entries[1] = x.Entries[1], x.Entries[0]
		}
		from := r.Intn(len(h)+4) - 2
		want, ok := modelAgrees(h, op, x, from)
		if ok {
			agreed++
		}
		wantAgrees(t, l, op, x, from, want, ok)
	}
	if agreed < 300 {
		t.Errorf("only %d agreed", agreed)
	}
}

// 18.2: Extends.

// twisted are a record with each of its fields changed, those by which it says another write first, then the LSN and the Epoch alone.
func twisted(r api.Record) (says, stands []api.Record) {
	other := func(change func(*api.Record)) api.Record {
		x := r
		change(&x)
		return x
	}
	says = append(says, other(func(x *api.Record) { x.Req++ }), other(func(x *api.Record) { x.Key += "x" }), other(func(x *api.Record) { x.Other, x.Value = 3-x.Other, "" }))
	if r.Other == 1 {
		says = append(says, other(func(x *api.Record) { x.Value += "x" }))
	}
	stands = append(stands, other(func(x *api.Record) { x.LSN += 7 }), other(func(x *api.Record) { x.Epoch += 7 }), other(func(x *api.Record) { x.LSN, x.Epoch = api.MaxLSN, api.MaxLSN }))
	return says, stands
}

func TestExtends(t *testing.T) {
	h := append(abab(), put(9, "a", ""), put(9, "a", ""), del(10, "\x00"), put(11, "c", "x"))
	for i := range h {
		wantExtends(t, h, h[:i], true)
		wantExtends(t, h[:i], h, false)
		wantExtends(t, h, h, true)
		wantExtends(t, among(h), h[:i], true)
		wantExtends(t, h, among(h[:i]), true)
		wantExtends(t, among(h[:i]), h, false)
		says, stands := twisted(h[i])
		for _, x := range append(says, stands...) {
			if record.Check(x) != api.OK {
				t.Fatalf("%v is not right", x)
			}
			other := slices.Clone(h)
			other[i] = x
			want := slices.Contains(stands, x)
			for n := i + 1; n <= len(h); n++ {
				wantExtends(t, h, other[:n], want)
				wantExtends(t, other, h[:n], want)
			}
			wantExtends(t, other, h[:i], true)
			wantExtends(t, h, other[:i], true)
		}
	}
	wantExtends(t, abab(), abab()[1:], false)
	wantExtends(t, []api.Record{put(2, "b", "y"), put(1, "a", "x")}, abab()[:1], false) // it is there, but not at the beginning
}

func TestExtendsOfNothing(t *testing.T) {
	for _, none := range [][]api.Record{nil, {}, others()} {
		for _, h := range [][]api.Record{nil, {}, others(), abab(), among(abab())} {
			wantExtends(t, h, none, true)
			wantExtends(t, none, h, len(fold.History(h)) == 0)
		}
	}
}

// 18.2: Once and Place.

func TestOnce(t *testing.T) {
	for _, h := range [][]api.Record{nil, {}, others(), {put(1, "a", "")}, abab(), among(abab()), {put(1, "a", "x"), put(2, "a", "x")}, {put(9, "a", ""), del(1, "a"), put(5, "a", ""), del(api.MaxReq, "a")}} {
		wantOnce(t, h, true)
	}
	long := anyHistory(rand.New(rand.NewSource(2)), 300, 20)
	wantOnce(t, long, true)
	for i := range long {
		for _, j := range []int{0, i + 1, i + 2, 150, 299} {
			if j == i || j >= len(long) {
				continue
			}
			h := slices.Clone(long)
			h[i].Req = h[j].Req
			wantOnce(t, h, false)
		}
	}
	wantOnce(t, []api.Record{put(1, "a", "x"), put(1, "a", "x")}, false)
	wantOnce(t, []api.Record{put(1, "a", "x"), {LSN: 9, Epoch: 3, Kind: api.ReCommit, Other: 2, Req: 1, Key: "b"}}, false)
	wantOnce(t, among([]api.Record{put(7, "a", "x"), put(8, "a", "x"), del(7, "c")}), false)
	wantOnce(t, append(abab(), others()...), true) // others' Reqs do not count
}

func TestPlace(t *testing.T) {
	h := []api.Record{put(5, "a", "x"), del(3, "a"), put(9, "b", ""), put(3, "c", ""), put(api.MaxReq, "d", ""), del(5, "a")}
	for _, l := range [][]api.Record{h, among(h)} {
		for req, want := range map[int]int{5: 0, 3: 1, 9: 2, api.MaxReq: 4} {
			wantPlace(t, l, req, want, true)
		}
		for _, req := range []int{math.MinInt, -1, 0, 1, 2, 4, 6, api.MaxReq - 1, api.MaxReq + 1, math.MaxInt} {
			wantPlace(t, l, req, 0, false)
		}
	}
	for _, l := range [][]api.Record{nil, {}, others()} {
		for _, req := range []int{-1, 0, 1, 5, api.MaxReq + 1} {
			wantPlace(t, l, req, 0, false)
		}
	}
}

// 18.3

func TestAgrees(t *testing.T) {
	h := abab()
	for _, c := range []struct {
		op   api.Op
		x    api.Result
		from int
		want int
		ok   bool
	}{
		{get("a"), api.Result{}, 0, 0, true}, {get("a"), api.Result{}, 1, 0, false}, {get("a"), found("x"), 0, 1, true}, {get("a"), found("x"), 2, 2, true}, {get("a"), found("x"), 3, 0, false},
		{get("a"), found("z"), 0, 3, true}, {get("a"), found("z"), 4, 4, true}, {get("a"), found("z"), 5, 0, false}, {get("a"), found("q"), 0, 0, false},
		{get("b"), api.Result{}, 0, 0, true}, {get("b"), api.Result{}, 1, 1, true}, {get("b"), api.Result{}, 2, 4, true}, {get("b"), found("y"), 0, 2, true}, {get("b"), found("y"), 3, 3, true}, {get("b"), found("y"), 4, 0, false},
		{get("c"), api.Result{}, 0, 0, true}, {get("c"), api.Result{}, 4, 4, true}, {get("c"), api.Result{}, 5, 0, false}, {get("c"), found(""), 0, 0, false},
		{get("a"), api.Result{Found: true}, 0, 0, false}, {get("a"), api.Result{Value: "x"}, 0, 0, false}, {get("a"), api.Result{Found: true, Value: "x", Entries: entries("a", "x")}, 0, 0, false},
		{api.Op{Kind: api.OpPut, Key: "b"}, api.Result{}, 1, 1, true}, {api.Op{Kind: api.OpPut, Key: "b"}, api.Result{Found: true}, 0, 2, true}, {api.Op{Kind: api.OpPut, Key: "b"}, found("y"), 0, 0, false}, {api.Op{Kind: api.OpPut, Key: "b"}, api.Result{}, 2, 4, true},
		{api.Op{Kind: api.OpDel, Key: "a"}, api.Result{Found: true}, 0, 1, true}, {api.Op{Kind: api.OpDel, Key: "a"}, api.Result{Found: true}, 4, 4, true}, {api.Op{Kind: api.OpDel, Key: "a"}, api.Result{}, 1, 0, false},
		{scan("", ""), told(), 0, 0, true}, {scan("", ""), told("a", "x"), 0, 1, true}, {scan("", ""), told("a", "x", "b", "y"), 0, 2, true}, {scan("", ""), told("b", "y", "a", "x"), 0, 0, false}, {scan("", ""), told("a", "z", "b", "y"), 0, 3, true}, {scan("", ""), told("a", "z"), 0, 4, true}, {scan("", ""), told("a", "x"), 2, 0, false},
		{scan("b", ""), told(), 1, 1, true}, {scan("b", ""), told(), 2, 4, true}, {scan("b", ""), told("b", "y"), 3, 3, true}, {scan("", "b"), told("a", "z"), 0, 3, true}, {scan("", "b"), told("a", "z"), 4, 4, true}, {scan("", "b"), told("a", "z", "b", "y"), 0, 0, false}, {scan("b", "a"), told(), 4, 4, true}, {scan("b", "a"), told("a", "x"), 0, 0, false},
		{scan("", ""), api.Result{Found: true}, 0, 0, false}, {scan("", ""), api.Result{Value: "x"}, 0, 0, false},
	} {
		wantAgrees(t, h, c.op, c.x, c.from, c.want, c.ok)
		wantAgrees(t, among(h), c.op, c.x, c.from, c.want, c.ok)
		if c.from == 0 {
			wantAgrees(t, h, c.op, c.x, -1, c.want, c.ok)
			wantAgrees(t, h, c.op, c.x, math.MinInt, c.want, c.ok)
		}
		wantAgrees(t, h, c.op, c.x, 5, 0, false)
		wantAgrees(t, h, c.op, c.x, math.MaxInt, 0, false)
	}
}

func TestAgreesOfNoKind(t *testing.T) {
	for _, kind := range []int{math.MinInt, -1, 0, 5, math.MaxInt} {
		for _, h := range [][]api.Record{nil, {}, abab()} {
			for _, x := range results() {
				for _, from := range []int{-1, 0, 1, 4, 5} {
					wantAgrees(t, h, api.Op{Kind: kind, Key: "a"}, x, from, 0, false)
				}
			}
		}
	}
}

func TestAgreesOfNothing(t *testing.T) {
	for _, h := range [][]api.Record{nil, {}, others()} {
		for _, op := range operations() {
			for _, x := range []api.Result{{}, {Entries: []api.Entry{}}} {
				for from, ok := range map[int]bool{math.MinInt: true, -1: true, 0: true, 1: false, 2: false, math.MaxInt: false} {
					wantAgrees(t, h, op, x, from, 0, ok)
				}
			}
			wantAgrees(t, h, op, api.Result{Found: true}, 0, 0, false)
			wantAgrees(t, h, op, told("a", "x"), 0, 0, false)
		}
	}
}

// Keys and values of any bytes and lengths may be asked for: what is none is never there.
func TestAgreesOfAnyTexts(t *testing.T) {
	h := []api.Record{put(1, strings.Repeat("k", 16), strings.Repeat("v", 32)), put(2, "\xff", "\x00")}
	long := strings.Repeat("k", 17)
	wantAgrees(t, h, get(strings.Repeat("k", 16)), found(strings.Repeat("v", 32)), 0, 1, true)
	wantAgrees(t, h, get("\xff"), found("\x00"), 0, 2, true)
	wantAgrees(t, h, get(""), api.Result{}, 2, 2, true)
	wantAgrees(t, h, get(long), api.Result{}, 1, 1, true)
	wantAgrees(t, h, get(long), found(""), 0, 0, false)
	wantAgrees(t, h, scan(long, ""), told("\xff", "\x00"), 0, 2, true)
	wantAgrees(t, h, scan("", long), told(strings.Repeat("k", 16), strings.Repeat("v", 32)), 2, 2, true)
	wantAgrees(t, h, scan("", ""), told("", ""), 0, 0, false)
	wantAgrees(t, h, scan("", ""), told(long, ""), 0, 0, false)
}

func TestALongHistory(t *testing.T) {
	const n = api.MaxRecords
	var h []api.Record
	for i := range n {
		h = append(h, put(i+1, fmt.Sprint("k", i%100), fmt.Sprint(i)))
	}
	m, e := fold.Behind(h, n)
	if e != api.OK || len(m) != 100 || m[0] != (api.Entry{Key: "k0", Value: fmt.Sprint((n - 1) / 100 * 100)}) {
		t.Fatalf("%d entries, %v", len(m), e)
	}
	wantOnce(t, h, true)
	wantExtends(t, h, h[:n-1], true)
	wantPlace(t, h, n, n-1, true)
	if i, ok := fold.Agrees(h, scan("", ""), api.Result{Entries: m}, 0); i != n || !ok {
		t.Errorf("Agrees of a scan: %d, %v", i, ok)
	}
	if i, ok := fold.Agrees(h, get("k7"), found("50007"), 100); i != 50008 || !ok {
		t.Errorf("Agrees of a get: %d, %v", i, ok)
	}
	m[99].Value = "none"
	if i, ok := fold.Agrees(h, scan("", ""), api.Result{Entries: m}, 0); i != 0 || ok {
		t.Errorf("Agrees of a scan that none gives: %d, %v", i, ok)
	}
}

// 18.4

func TestAMapBehindMoreHasWhatItsLastWriteSays(t *testing.T) {
	r := rand.New(rand.NewSource(184))
	for range 200 {
		h := anyHistory(r, 40, 6)
		for n := range len(h) + 1 {
			m, e := fold.Behind(h, n)
			if e != api.OK {
				t.Fatal(e)
			}
			last := map[string]api.Record{}
			for _, x := range h[:n] {
				last[x.Key] = x
			}
			for k, x := range last {
				op := get(k)
				want := api.Result{}
				if x.Other == 1 {
					want = found(x.Value)
				}
				wantAnswer(t, m, op, want, api.OK)
			}
			for _, x := range m {
				if _, ok := last[x.Key]; !ok {
					t.Errorf("%v was never written", x)
				}
			}
		}
	}
}

func TestWhatExtends(t *testing.T) {
	r := rand.New(rand.NewSource(185))
	// moved is a history with other LSNs and Epochs, and others here and there.
	moved := func(h []api.Record) []api.Record {
		h = slices.Clone(h)
		for i := range h {
			h[i].LSN, h[i].Epoch = 1+r.Intn(99), r.Intn(9)
		}
		return mixed(r, h)
	}
	for range 300 {
		h := anyHistory(r, r.Intn(20), 3)
		i := r.Intn(len(h) + 1)
		j := r.Intn(i + 1)
		a, b, c := moved(h), moved(h[:i]), moved(h[:j])
		wantExtends(t, a, a, true)
		wantExtends(t, a, b, true)
		wantExtends(t, b, c, true)
		wantExtends(t, a, c, true)
		wantExtends(t, b, a, i == len(h))
	}
	// All short ones in all threes.
	var l [][]api.Record
	for n := range 4 {
		l = append(l, rows([]api.Record{put(1, "a", "x"), put(2, "a", "x")}, n)...)
	}
	for _, a := range l {
		for _, b := range l {
			wantExtends(t, a, b, len(b) <= len(a) && slices.Equal(a[:len(b)], b))
			for _, c := range l {
				if fold.Extends(a, b) && fold.Extends(b, c) {
					wantExtends(t, a, c, true)
				}
			}
		}
	}
}

// R3 and R6

// roomy is a list with spare room, in which something stands.
func roomy[T any](l []T) []T {
	out := append(make([]T, 0, 2*len(l)+3), l...)
	if len(l) > 0 {
		out = append(out, l[0])[:len(l)]
	}
	return out
}

// wide is a copy of a list, spare room too.
func wide[T any](l []T) []T { return slices.Clone(l[:cap(l)]) }

// wipe writes over a list, spare room too.
func wipe[T any](l []T) { clear(l[:cap(l)]) }

func TestNothingIsChangedOrKept(t *testing.T) {
	h, of, m := roomy(among(abab())), roomy(abab()[:2]), roomy(entries("a", "1", "b", "2", "c", "3"))
	x := api.Result{Entries: roomy(entries("a", "z", "b", "y"))}
	h0, of0, m0, x0 := wide(h), wide(of), wide(m), wide(x.Entries)
	for range 2 { // R6: the same again
		history := fold.History(h)
		behind, _ := fold.Behind(h, 3)
		answer, _ := fold.Answer(m, scan("", ""))
		if !slices.Equal(history, abab()) || !slices.Equal(behind, entries("a", "z", "b", "y")) || !slices.Equal(answer.Entries, entries("a", "1", "b", "2", "c", "3")) {
			t.Fatalf("%v, %v, %v", history, behind, answer)
		}
		again, _ := fold.Behind(h, 3)
		scanned, _ := fold.Answer(m, scan("a", "c"))
		wantExtends(t, h, of, true)
		wantOnce(t, h, true)
		wantPlace(t, h, 3, 2, true)
		wantAgrees(t, h, scan("", ""), x, 0, 3, true)
		wipe(history)
		wipe(behind)
		wipe(answer.Entries)
		if !slices.Equal(again, entries("a", "z", "b", "y")) || !slices.Equal(scanned.Entries, entries("a", "1", "b", "2")) {
			t.Errorf("answers share: %v, %v", again, scanned)
		}
		if !slices.Equal(wide(h), h0) || !slices.Equal(wide(of), of0) || !slices.Equal(wide(m), m0) || !slices.Equal(wide(x.Entries), x0) {
			t.Fatal("what was handed in was changed")
		}
	}
	history := fold.History(h)
	behind, _ := fold.Behind(h, 3)
	answer, _ := fold.Answer(m, scan("", ""))
	wipe(h)
	wipe(m)
	if !slices.Equal(history, abab()) || !slices.Equal(behind, entries("a", "z", "b", "y")) || !slices.Equal(answer.Entries, entries("a", "1", "b", "2", "c", "3")) {
		t.Errorf("answers hang on what was handed in: %v, %v, %v", history, behind, answer)
	}
}

// What stands behind the end of a list is not looked at.
func TestNothingBehindTheEndIsRead(t *testing.T) {
	all := append(abab(), put(4, "c", "w"))
	h := all[:2]
	if len(fold.History(h)) != 2 || !fold.Once(all[:4]) || fold.Once(all) {
		t.Error("History, Once")
	}
	wantBehind(t, h, 3, nil, api.ErrArg)
	wantPlace(t, h, 3, 0, false)
	wantExtends(t, h, abab()[:3], false)
	wantExtends(t, abab()[:3], h, true)
	wantAgrees(t, h, get("a"), found("z"), 0, 0, false)
	m := entries("a", "1", "b", "2", "a", "3")
	wantAnswer(t, m[:2], scan("", ""), told("a", "1", "b", "2"), api.OK)
}

// The chapter's example.
func TestExamples(t *testing.T) {
	wantBehind(t, abab(), 2, entries("a", "x", "b", "y"), api.OK)
	wantBehind(t, abab(), 4, entries("a", "z"), api.OK)
	wantAgrees(t, abab(), get("a"), found("z"), 0, 3, true)
}
