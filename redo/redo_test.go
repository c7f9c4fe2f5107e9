package redo_test

import (
	"math"
	"math/rand"
	"slices"
	"strings"
	"testing"

	"lattice/api"
	"lattice/node"
	"lattice/page"
	"lattice/record"
	"lattice/redo"
)

// long is a text of n bytes that begins with a letter.
func long(letter string, n int) string { return letter + strings.Repeat("x", n-len(letter)) }

func same(a, b api.Node) bool {
	return a.Level == b.Level && a.LSN == b.LSN && a.Right == b.Right && a.High == b.High &&
		slices.Equal(a.Keys, b.Keys) && slices.Equal(a.Vals, b.Vals) && slices.Equal(a.Kids, b.Kids)
}

func sameSlots(a, b []redo.Slot) bool {
	return slices.EqualFunc(a, b, func(x, y redo.Slot) bool { return x.Page == y.Page && same(x.Node, y.Node) })
}

// leaf is a leaf of keys, each with a value.
func leaf(lsn int, high string, right int, entries ...string) api.Node {
	n := api.Node{LSN: lsn, Right: right, High: high}
	for i := 0; i < len(entries); i += 2 {
		n.Keys = append(n.Keys, entries[i])
		n.Vals = append(n.Vals, entries[i+1])
	}
	return n
}

// inner is an inner node of keys; its kids are 11, 12, 13 ..
func inner(lsn int, high string, right int, keys ...string) api.Node {
	n := api.Node{Level: 1, LSN: lsn, Right: right, High: high, Keys: keys}
	for i := range len(keys) + 1 {
		n.Kids = append(n.Kids, 11+i)
	}
	return n
}

// fullLeaf is a leaf without a bound that has all bytes of its page but these.
func fullLeaf(t *testing.T, lsn, room int) api.Node {
	t.Helper()
	n := leaf(lsn, "", 0, "a", long("v", 32), "b", long("v", 32), "c", long("v", 32), "d", long("v", 32), "e", long("v", 32))
	rest := api.PageSize - page.Size(n) - 5
	n.Keys, n.Vals = append(n.Keys, "f", "g"), append(n.Vals, long("v", 32), long("v", rest-5-32-room))
	if page.Check(n) != api.OK || page.Size(n) != api.PageSize-room {
		t.Fatalf("no full leaf: %d bytes", page.Size(n))
	}
	return n
}

// fullInner is an inner node that has no room for a key more.
func fullInner(t *testing.T, lsn int) api.Node {
	t.Helper()
	n := inner(lsn, "", 0, "m")
	for c := byte('a'); ; c++ {
		next, e := node.Post(n, string([]byte{c, 'x', 'x', 'x', 'x', 'x'}), 7)
		if e == api.ErrFull {
			return n
		}
		if e != api.OK {
			t.Fatal(e)
		}
		n = next
	}
}

// image is the page of a node whose LSN is 0, as a record has it.
func image(n api.Node) string {
	n.LSN = 0
	b, e := page.Encode(n)
	if e != api.OK {
		panic(e)
	}
	return string(b)
}

func put(lsn, p int, k, v string) api.Record {
	return api.Record{LSN: lsn, Kind: api.RePut, Page: p, Key: k, Value: v}
}

func del(lsn, p int, k string) api.Record {
	return api.Record{LSN: lsn, Kind: api.ReDel, Page: p, Key: k}
}

func fresh(lsn, p int, n api.Node) api.Record {
	return api.Record{LSN: lsn, Kind: api.ReNew, Page: p, Value: image(n)}
}

func cut(lsn, p int, k string, other int) api.Record {
	return api.Record{LSN: lsn, Kind: api.ReCut, Page: p, Key: k, Other: other}
}

func post(lsn, p int, k string, other int) api.Record {
	return api.Record{LSN: lsn, Kind: api.RePost, Page: p, Key: k, Other: other}
}

func noop(lsn int) api.Record { return api.Record{LSN: lsn, Kind: api.ReNoop} }

func commit(lsn int) api.Record {
	return api.Record{LSN: lsn, Kind: api.ReCommit, Other: 1, Req: 9, Key: "a", Value: "x"}
}

// ofNoPage are right records that change no page.
func ofNoPage(lsn int) []api.Record {
	return []api.Record{noop(lsn), commit(lsn), {LSN: lsn, Epoch: 3, Kind: api.ReCommit, Other: 2, Req: api.MaxReq, Key: "b"}}
}

// wrongRecords are records that are not right, of each kind and of none.
func wrongRecords() []api.Record {
	l := []api.Record{{}, {LSN: 5}, {LSN: 5, Kind: -1}, {LSN: 5, Kind: 8}}
	for _, lsn := range []int{math.MinInt, -1, 0, api.MaxLSN + 1, math.MaxInt} {
		l = append(l, noop(lsn), commit(lsn), put(lsn, 1, "a", "x"), del(lsn, 1, "a"), fresh(lsn, 1, api.Node{}), cut(lsn, 1, "a", 2), post(lsn, 1, "a", 2))
	}
	for _, p := range []int{math.MinInt, -1, 0, api.MaxPages + 1, math.MaxInt} {
		l = append(l, put(5, p, "a", "x"), del(5, p, "a"), fresh(5, p, api.Node{}), cut(5, p, "a", 2), post(5, p, "a", 2), cut(5, 1, "a", p), post(5, 1, "a", p))
	}
	for _, k := range []string{"", long("k", 17)} {
		l = append(l, put(5, 1, k, "x"), del(5, 1, k), cut(5, 1, k, 2), post(5, 1, k, 2))
	}
	whole := image(api.Node{})
	dated, _ := page.Encode(api.Node{LSN: 1})
	return append(l, put(5, 1, "a", long("v", 33)), api.Record{LSN: 5, Kind: api.ReNoop, Page: 1}, api.Record{LSN: 5, Kind: api.ReCommit, Page: 1, Other: 1, Req: 1, Key: "a"},
		api.Record{LSN: 5, Kind: api.ReCommit, Other: 1, Key: "a"}, api.Record{LSN: 5, Kind: api.ReNew, Page: 1}, api.Record{LSN: 5, Kind: api.ReNew, Page: 1, Value: whole[:255]},
		api.Record{LSN: 5, Kind: api.ReNew, Page: 1, Value: whole[:255] + string([]byte{whole[255] ^ 1})}, api.Record{LSN: 5, Kind: api.ReNew, Page: 1, Value: string(dated)})
}

// wrongNodes are nodes that are not right.
func wrongNodes() []api.Node {
	long17 := long("k", 17)
	l := []api.Node{
		{Level: -1, Kids: []int{1}}, {Level: 21, Kids: []int{1}}, {LSN: -1}, {LSN: api.MaxLSN + 1}, {Right: -1}, {Right: api.MaxPages + 1}, {High: long17},
		{Keys: []string{""}, Vals: []string{""}}, {Keys: []string{"b", "a"}, Vals: []string{"", ""}}, {Keys: []string{"a", "a"}, Vals: []string{"", ""}},
		{High: "b", Keys: []string{"b"}, Vals: []string{""}}, {Keys: []string{"a"}}, {Vals: []string{""}}, {Keys: []string{"a"}, Vals: []string{long("v", 33)}},
		{Kids: []int{1}}, {Level: 1}, {Level: 1, Keys: []string{"a"}, Kids: []int{1}}, {Level: 1, Kids: []int{0}}, {Level: 1, Kids: []int{1}, Vals: []string{""}},
	}
	big := leaf(3, "", 0)
	for i := range 48 { // of 261 bytes
		big.Keys, big.Vals = append(big.Keys, string([]byte{byte(i)})), append(big.Vals, "")
	}
	return append(l, big)
}

func wantErr(t *testing.T, what string, got, want api.Errno) {
	t.Helper()
	if got != want {
		t.Errorf("%s: %v, not %v", what, got, want)
	}
}

func wantApply(t *testing.T, n api.Node, there bool, r api.Record, want api.Node, wantDone bool, wantE api.Errno) {
	t.Helper()
	m, done, e := redo.Apply(n, there, r)
	if !same(m, want) || done != wantDone || e != wantE {
		t.Errorf("Apply(%v, %v, %v): %v, %v, %v, not %v, %v, %v", n, there, r, m, done, e, want, wantDone, wantE)
	}
}

// wantRefused tells whether Apply answers an error, and nothing beside it.
func wantRefused(t *testing.T, n api.Node, there bool, r api.Record, want api.Errno) {
	t.Helper()
	wantApply(t, n, there, r, api.Node{}, false, want)
}

func wantReplay(t *testing.T, l []redo.Slot, rs []api.Record, want []redo.Slot, wantE api.Errno) {
	t.Helper()
	m, e := redo.Replay(l, rs)
	if !sameSlots(m, want) || e != wantE {
		t.Errorf("Replay(%v, %v): %v, %v, not %v, %v", l, rs, m, e, want, wantE)
	}
}

func wantFind(t *testing.T, l []redo.Slot, p int, want api.Node, wantOK bool) {
	t.Helper()
	if n, ok := redo.Find(l, p); !same(n, want) || ok != wantOK {
		t.Errorf("Find(%v, %d): %v, %v, not %v, %v", l, p, n, ok, want, wantOK)
	}
}

// 12.1

// doing is a record, with the page's node ahead of it and behind it, but for the LSNs.
type doing struct {
	name       string
	was        api.Node
	r          api.Record
	made       api.Node
	needsAPage bool
}

// doings are records of each kind that change a page, and what they do.
func doings() []doing {
	three := leaf(0, "x", 4, "a", "1", "c", "3", "e", "5")
	tree := inner(0, "x", 4, "b", "d", "f")
	posted := inner(0, "x", 4, "b", "c", "d", "f")
	posted.Kids = []int{11, 12, 99, 13, 14}
	return []doing{
		{"put a new key", three, put(0, 7, "b", "2"), leaf(0, "x", 4, "a", "1", "b", "2", "c", "3", "e", "5"), true},
		{"put a key's other value", three, put(0, 7, "c", ""), leaf(0, "x", 4, "a", "1", "c", "", "e", "5"), true},
		{"put a key as it is", three, put(0, 7, "c", "3"), three, true},
		{"put into an empty leaf", api.Node{}, put(0, 7, long("k", 16), long("v", 32)), leaf(0, "", 0, long("k", 16), long("v", 32)), true},
		{"delete a key", three, del(0, 7, "c"), leaf(0, "x", 4, "a", "1", "e", "5"), true},
		{"delete a key that is not there", three, del(0, 7, "b"), three, true},
		{"delete the last key", leaf(0, "", 0, "a", "1"), del(0, 7, "a"), api.Node{}, true},
		{"a new leaf", three, fresh(0, 7, leaf(0, "q", 9, "m", "13")), leaf(0, "q", 9, "m", "13"), false},
		{"a new empty leaf", three, fresh(0, 7, api.Node{}), api.Node{}, false},
		{"a new inner node", three, fresh(0, 7, tree), tree, false},
		{"a new node of the highest level", tree, fresh(0, 7, api.Node{Level: 20, Kids: []int{api.MaxPages}}), api.Node{Level: 20, Kids: []int{api.MaxPages}}, false},
		{"cut a leaf by a key", three, cut(0, 7, "c", 50), leaf(0, "c", 50, "a", "1"), true},
		{"cut a leaf between its keys", three, cut(0, 7, "d", 4), leaf(0, "d", 4, "a", "1", "c", "3"), true},
		{"cut a leaf ahead of its keys", three, cut(0, 7, "A", api.MaxPages), leaf(0, "A", api.MaxPages), true},
		{"cut a leaf behind its keys", three, cut(0, 7, "w", 1), leaf(0, "w", 1, "a", "1", "c", "3", "e", "5"), true},
		{"cut an inner node", tree, cut(0, 7, "d", 50), inner(0, "d", 50, "b"), true},
		{"cut an inner node by its first key", tree, cut(0, 7, "b", 50), inner(0, "b", 50), true},
		{"post a key", tree, post(0, 7, "c", 99), posted, true},
		{"post a key that is there", posted, post(0, 7, "c", 99), posted, true},
	}
}

// dated is a node of another LSN.
func dated(n api.Node, lsn int) api.Node {
	n.LSN = lsn
	return n
}

func TestRecordsAreDone(t *testing.T) {
	for _, x := range doings() {
		t.Run(x.name, func(t *testing.T) {
			for _, lsns := range [][2]int{{0, 1}, {4, 5}, {4, 900}, {0, api.MaxLSN}, {api.MaxLSN - 1, api.MaxLSN}} {
				x.r.LSN = lsns[1]
				wantApply(t, dated(x.was, lsns[0]), true, x.r, dated(x.made, lsns[1]), true, api.OK)
			}
		})
	}
}

func TestRecordsThatAreDoneAlready(t *testing.T) {
	for _, x := range doings() {
		t.Run(x.name, func(t *testing.T) {
			for _, lsns := range [][2]int{{1, 1}, {5, 5}, {6, 5}, {900, 5}, {api.MaxLSN, api.MaxLSN}, {api.MaxLSN, 1}} {
				x.r.LSN = lsns[1]
				was := dated(x.was, lsns[0])
				wantApply(t, was, true, x.r, was, false, api.OK)
			}
		})
	}
}

func TestRecordsOfAPageThatIsNotThere(t *testing.T) {
	for _, x := range doings() {
		t.Run(x.name, func(t *testing.T) {
			for _, lsns := range [][2]int{{4, 5}, {5, 5}, {6, 5}, {0, 1}, {0, api.MaxLSN}} {
				x.r.LSN = lsns[1]
				if x.needsAPage {
					wantRefused(t, dated(x.was, lsns[0]), false, x.r, api.ErrNone)
					wantRefused(t, api.Node{}, false, x.r, api.ErrNone)
				} else {
					wantApply(t, dated(x.was, lsns[0]), false, x.r, dated(x.made, lsns[1]), true, api.OK)
					wantApply(t, api.Node{}, false, x.r, dated(x.made, lsns[1]), true, api.OK)
				}
			}
		})
	}
}

func TestThePageAndTheEpochAreOfNoMatter(t *testing.T) {
	for _, x := range doings() {
		x.r.LSN = 5
		for _, p := range []int{1, 2, api.MaxPages} {
			for _, epoch := range []int{0, 1, api.MaxLSN} {
				x.r.Page, x.r.Epoch = p, epoch
				wantApply(t, dated(x.was, 4), true, x.r, dated(x.made, 5), true, api.OK)
			}
		}
	}
}

func TestRecordsThatAreNotRight(t *testing.T) {
	nodes := append(wrongNodes(), api.Node{}, leaf(4, "", 0, "a", "1"), leaf(5, "", 0, "a", "1"), leaf(api.MaxLSN, "", 0), inner(4, "", 0, "m"))
	for _, r := range wrongRecords() {
		wantErr(t, "record.Check", record.Check(r), api.ErrRecord)
		for _, n := range nodes {
			wantRefused(t, n, true, r, api.ErrRecord)
			wantRefused(t, n, false, r, api.ErrRecord)
		}
	}
}

func TestNodesThatAreNotRight(t *testing.T) {
	for _, n := range wrongNodes() {
		wantErr(t, "page.Check", page.Check(n), api.ErrPage)
		for _, x := range doings() {
			x.r.LSN = 5
			wantRefused(t, n, true, x.r, api.ErrNode)
			x.r.LSN = api.MaxLSN
			wantRefused(t, n, true, x.r, api.ErrNode)
			if x.needsAPage { // of there false the node is not looked at
				wantRefused(t, n, false, x.r, api.ErrNone)
			} else {
				wantApply(t, n, false, x.r, dated(x.made, api.MaxLSN), true, api.OK)
			}
		}
		for _, r := range ofNoPage(5) {
			wantRefused(t, n, true, r, api.ErrNode)
			wantRefused(t, n, false, r, api.ErrArg)
		}
	}
}

func TestRecordsOfNoPage(t *testing.T) {
	for _, lsn := range []int{1, 5, api.MaxLSN} {
		for _, r := range ofNoPage(lsn) {
			for _, n := range []api.Node{{}, leaf(4, "", 0, "a", "1"), leaf(5, "", 0), leaf(api.MaxLSN, "", 0), inner(6, "", 0, "m")} {
				wantRefused(t, n, true, r, api.ErrArg)
				wantRefused(t, n, false, r, api.ErrArg)
			}
		}
	}
}

func TestWhatTheNodesCallsRefuse(t *testing.T) {
	bound := leaf(4, "m", 3, "a", "1")
	tree := inner(4, "m", 3, "b", "d")
	full := fullLeaf(t, 4, 0)
	tests := []struct {
		name string
		n    api.Node
		r    api.Record
		why  api.Errno
	}{
		{"put into an inner node", tree, put(5, 1, "a", "x"), api.ErrState},
		{"put at the bound", bound, put(5, 1, "m", "x"), api.ErrSide},
		{"put beyond the bound", bound, put(5, 1, "n", "x"), api.ErrSide},
		{"put a key into a full leaf", full, put(5, 1, "h", ""), api.ErrFull},
		{"put a longer value into a full leaf", full, put(5, 1, "g", full.Vals[6]+"x"), api.ErrFull},
		{"delete of an inner node", tree, del(5, 1, "b"), api.ErrState},
		{"delete at the bound", bound, del(5, 1, "m"), api.ErrSide},
		{"delete beyond the bound", bound, del(5, 1, "z"), api.ErrSide},
		{"cut at the bound", bound, cut(5, 1, "m", 9), api.ErrSide},
		{"cut beyond the bound", tree, cut(5, 1, "q", 9), api.ErrSide},
		{"cut an inner node by no key of it", tree, cut(5, 1, "c", 9), api.ErrNone},
		{"post into a leaf", bound, post(5, 1, "b", 9), api.ErrState},
		{"post at the bound", tree, post(5, 1, "m", 9), api.ErrSide},
		{"post another kid", tree, post(5, 1, "b", 9), api.ErrForm},
		{"post into a full node", fullInner(t, 4), post(5, 1, long("k", 16), 9), api.ErrFull},
	}
	for _, x := range tests {
		t.Run(x.name, func(t *testing.T) {
			_, e := called(x.n, x.r)
			wantErr(t, "the node's call", e, x.why)
			wantRefused(t, x.n, true, x.r, api.ErrRecord)
			for _, lsn := range []int{5, 6, api.MaxLSN} { // it is done already: the call is not made
				wantApply(t, dated(x.n, lsn), true, x.r, dated(x.n, lsn), false, api.OK)
			}
			wantRefused(t, x.n, false, x.r, api.ErrNone)
		})
	}
}

// called is what the node's call for a right record tells.
func called(n api.Node, r api.Record) (api.Node, api.Errno) {
	switch r.Kind {
	case api.RePut:
		return node.Put(n, r.Key, r.Value)
	case api.ReDel:
		return node.Del(n, r.Key)
	case api.ReCut:
		return node.Left(n, r.Key, r.Other)
	case api.RePost:
		return node.Post(n, r.Key, r.Other)
	}
	return page.Decode([]byte(r.Value))
}

func TestAFullLeafTakesWhatFits(t *testing.T) {
	n := fullLeaf(t, 4, 5)
	want, _ := node.Put(n, "h", "")
	wantApply(t, n, true, put(5, 1, "h", ""), dated(want, 5), true, api.OK)
	wantRefused(t, n, true, put(5, 1, "h", "x"), api.ErrRecord)
}

// The chapter names no error where node.Left tells none, so a leaf that its new bound makes too long is told as it is; it is refused as a node that is not right from then on.
func TestALeafThatItsBoundMakesTooLong(t *testing.T) {
	n := fullLeaf(t, 4, 0)
	want := dated(n, 5)
	want.High, want.Right = "z", 9
	wantErr(t, "page.Check", page.Check(want), api.ErrPage)
	wantApply(t, n, true, cut(5, 1, "z", 9), want, true, api.OK)
	wantReplay(t, []redo.Slot{{1, n}}, []api.Record{cut(5, 1, "z", 9)}, []redo.Slot{{1, want}}, api.OK)
	wantReplay(t, []redo.Slot{{1, n}}, []api.Record{cut(5, 1, "z", 9), noop(6), del(7, 1, "a")}, nil, api.ErrNode)
	wantReplay(t, []redo.Slot{{1, want}}, nil, nil, api.ErrNode)
}

// modelApply is Apply in the chapter's words, one behind the other.
func modelApply(n api.Node, there bool, r api.Record) (api.Node, bool, api.Errno) {
	ofNoPage := r.Kind == api.ReNoop || r.Kind == api.ReCommit
	switch {
	case record.Check(r) != api.OK:
		return api.Node{}, false, api.ErrRecord
	case there && page.Check(n) != api.OK:
		return api.Node{}, false, api.ErrNode
	case ofNoPage:
		return api.Node{}, false, api.ErrArg
	case there && !(n.LSN < r.LSN):
		return n, false, api.OK
	case !there && r.Kind != api.ReNew:
		return api.Node{}, false, api.ErrNone
	}
	m, e := called(n, r)
	if e != api.OK {
		return api.Node{}, false, api.ErrRecord
	}
	m.LSN = r.LSN
	return m, true, api.OK
}

// anyText is a text of so many bytes at random, of few letters.
func anyText(g *rand.Rand, least, most int) string {
	b := make([]byte, least+g.Intn(most-least+1))
	for i := range b {
		b[i] = "\x00ab\xff"[g.Intn(4)]
	}
	return string(b)
}

// anyNode is a node at random, nearly always a right one.
func anyNode(g *rand.Rand, lsn int) api.Node {
	n := api.Node{LSN: lsn}
	if g.Intn(2) == 0 {
		n = api.Node{Level: 1 + g.Intn(20), LSN: lsn, Kids: []int{1 + g.Intn(9)}}
	}
	if g.Intn(3) == 0 {
		n.High, n.Right = anyText(g, 1, 3), 1+g.Intn(9)
	}
	for range g.Intn(12) {
		k := anyText(g, 1, 3)
		var m api.Node
		var e api.Errno
		if n.Level == 0 {
			m, e = node.Put(n, k, anyText(g, 0, 32))
		} else {
			m, e = node.Post(n, k, 1+g.Intn(9))
		}
		if e == api.OK {
			n = m
		}
	}
	if g.Intn(20) == 0 {
		return wrongNodes()[g.Intn(len(wrongNodes()))]
	}
	return n
}

// anyRecord is a record at random, nearly always a right one.
func anyRecord(g *rand.Rand, lsn, p int) api.Record {
	k := anyText(g, 1, 3)
	switch g.Intn(13) {
	case 0:
		return noop(lsn)
	case 1:
		return commit(lsn)
	case 2:
		l := wrongRecords()
		return l[g.Intn(len(l))]
	case 3, 4:
		for {
			if n := anyNode(g, 0); page.Check(n) == api.OK {
				return fresh(lsn, p, n)
			}
		}
	case 5, 6:
		return del(lsn, p, k)
	case 7, 8:
		return cut(lsn, p, k, 1+g.Intn(9))
	case 9, 10:
		return post(lsn, p, k, 1+g.Intn(9))
	}
	return put(lsn, p, k, anyText(g, 0, 32))
}

func TestApplyOfAnything(t *testing.T) {
	g := rand.New(rand.NewSource(121))
	for range 30000 {
		n, r, there := anyNode(g, g.Intn(6)), anyRecord(g, 1+g.Intn(6), 1+g.Intn(3)), g.Intn(4) > 0
		m, done, e := modelApply(n, there, r)
		wantApply(t, n, there, r, m, done, e)
		if t.Failed() {
			return
		}
	}
}

// 12.2

func TestReplay(t *testing.T) {
	l := []redo.Slot{{1, leaf(0, "", 0, "a", "1")}, {4, inner(3, "", 0, "m")}}
	tests := []struct {
		name string
		rs   []api.Record
		want []redo.Slot
	}{
		{"nothing", nil, l},
		{"records of no page", append(ofNoPage(1), ofNoPage(9)...), l},
		{"one page", []api.Record{put(1, 1, "b", "2"), put(2, 1, "c", "3"), del(3, 1, "a")}, []redo.Slot{{1, leaf(3, "", 0, "b", "2", "c", "3")}, l[1]}},
		{"the last page", []api.Record{post(4, 4, "q", 13)}, []redo.Slot{l[0], {4, inner(4, "", 0, "m", "q")}}},
		{"what was done already", []api.Record{post(3, 4, "q", 13), post(2, 4, "r", 13)}, l},
		{"a page ahead", []api.Record{fresh(5, 2, leaf(0, "", 0, "x", "y"))}, []redo.Slot{l[0], {2, leaf(5, "", 0, "x", "y")}, l[1]}},
		{"pages behind", []api.Record{fresh(5, api.MaxPages, api.Node{}), fresh(6, 5, api.Node{})}, []redo.Slot{l[0], l[1], {5, leaf(6, "", 0)}, {api.MaxPages, leaf(5, "", 0)}}},
		{"a page anew", []api.Record{fresh(1, 1, inner(0, "", 0, "k"))}, []redo.Slot{{1, inner(1, "", 0, "k")}, l[1]}},
		{"a new page and its changes", []api.Record{fresh(5, 3, api.Node{}), noop(6), put(7, 3, "k", "v"), commit(8), put(9, 1, "z", "26"), put(10, 3, "l", "w"), cut(11, 3, "l", 9)},
			[]redo.Slot{{1, leaf(9, "", 0, "a", "1", "z", "26")}, {3, leaf(11, "l", 9, "k", "v")}, l[1]}},
		{"records whose LSNs fall", []api.Record{put(5, 1, "b", "2"), put(4, 1, "c", "3"), put(5, 1, "d", "4"), put(6, 1, "e", "5")}, []redo.Slot{{1, leaf(6, "", 0, "a", "1", "b", "2", "e", "5")}, l[1]}},
	}
	for _, x := range tests {
		t.Run(x.name, func(t *testing.T) { wantReplay(t, l, x.rs, x.want, api.OK) })
	}
}

func TestReplayOfNoPages(t *testing.T) {
	for _, l := range [][]redo.Slot{nil, {}} {
		wantReplay(t, l, nil, nil, api.OK)
		wantReplay(t, l, []api.Record{}, nil, api.OK)
		wantReplay(t, l, ofNoPage(1), nil, api.OK)
		wantReplay(t, l, []api.Record{put(1, 1, "a", "x")}, nil, api.ErrNone)
		wantReplay(t, l, []api.Record{fresh(1, 9, api.Node{}), put(2, 9, "a", "x"), fresh(3, 1, inner(0, "", 0))}, []redo.Slot{{1, inner(3, "", 0)}, {9, leaf(2, "", 0, "a", "x")}}, api.OK)
	}
}

func TestPagesThatDoNotRise(t *testing.T) {
	slots := func(pages ...int) []redo.Slot {
		var l []redo.Slot
		for _, p := range pages {
			l = append(l, redo.Slot{Page: p, Node: leaf(p&7, "", 0, "a", "1")})
		}
		return l
	}
	wrong := [][]int{{0}, {-1}, {math.MinInt}, {api.MaxPages + 1}, {math.MaxInt}, {1, 1}, {2, 1}, {1, 2, 2}, {1, 3, 2}, {3, 1, 2}, {0, 1}, {-1, 1}, {1, 0}, {5, api.MaxPages, api.MaxPages}, {5, api.MaxPages, api.MaxPages + 1}}
	for _, pages := range wrong {
		wantReplay(t, slots(pages...), nil, nil, api.ErrNode)
		wantReplay(t, slots(pages...), []api.Record{{}}, nil, api.ErrNode) // ahead of what is wrong in a record
	}
	for _, pages := range [][]int{{1}, {api.MaxPages}, {1, 2}, {1, api.MaxPages}, {1, 2, 3, 9, api.MaxPages - 1, api.MaxPages}} {
		wantReplay(t, slots(pages...), nil, slots(pages...), api.OK)
	}
}

func TestAllPages(t *testing.T) {
	var l []redo.Slot
	var rs []api.Record
	for p := 1; p <= api.MaxPages; p++ {
		l = append(l, redo.Slot{Page: p, Node: leaf(p, "", 0, "a", "1")})
		rs = append(rs, fresh(p, p, leaf(0, "", 0, "a", "1")))
	}
	wantReplay(t, l, nil, l, api.OK)
	wantReplay(t, nil, rs, l, api.OK)
	slices.Reverse(rs)
	wantReplay(t, nil, rs, l, api.OK)
}

func TestPagesWithANodeThatIsNotRight(t *testing.T) {
	right := leaf(1, "", 0, "a", "1")
	for _, n := range wrongNodes() {
		for _, l := range [][]redo.Slot{{{1, n}}, {{1, n}, {2, right}}, {{1, right}, {2, n}}, {{1, right}, {2, n}, {3, right}}} {
			wantReplay(t, l, nil, nil, api.ErrNode)
			wantReplay(t, l, []api.Record{fresh(9, 1, right), fresh(9, 2, right)}, nil, api.ErrNode)
			wantReplay(t, l, []api.Record{{}}, nil, api.ErrNode)
		}
	}
}

func TestAnErrorInTheMiddle(t *testing.T) {
	l := []redo.Slot{{1, leaf(0, "m", 2, "a", "1")}, {2, inner(0, "", 0, "m")}}
	good := []api.Record{put(10, 1, "b", "2"), noop(11), fresh(12, 5, api.Node{}), post(13, 2, "q", 9)}
	bad := []struct {
		r    api.Record
		want api.Errno
	}{
		{put(20, 9, "a", "x"), api.ErrNone},
		{del(20, 9, "a"), api.ErrNone},
		{cut(20, 9, "a", 1), api.ErrNone},
		{post(20, 9, "a", 1), api.ErrNone},
		{put(20, 1, "m", "x"), api.ErrRecord},
		{put(20, 2, "a", "x"), api.ErrRecord},
		{post(20, 1, "a", 3), api.ErrRecord},
		{post(20, 2, "m", 3), api.ErrRecord},
		{cut(20, 2, "n", 3), api.ErrRecord},
	}
	for _, r := range wrongRecords() {
		bad = append(bad, struct {
			r    api.Record
			want api.Errno
		}{r, api.ErrRecord})
	}
	for _, x := range bad {
		for at := range len(good) + 1 {
			rs := slices.Insert(slices.Clone(good), at, x.r)
			wantReplay(t, l, rs, nil, x.want)
			wantReplay(t, l, append(rs, api.Record{}, put(30, 9, "a", "x")), nil, x.want) // the first that tells one
		}
	}
	was := []redo.Slot{{1, leaf(0, "m", 2, "a", "1")}, {2, inner(0, "", 0, "m")}}
	if !sameSlots(l, was) {
		t.Errorf("the pages have become %v", l)
	}
}

func TestWrongRecordsOfNoPageAreErrors(t *testing.T) {
	l := []redo.Slot{{1, leaf(9, "", 0)}}
	for _, r := range []api.Record{{LSN: 5, Kind: api.ReNoop, Page: 1}, {Kind: api.ReNoop}, {LSN: 5, Kind: api.ReCommit}, {LSN: 5, Kind: api.ReCommit, Page: 1, Other: 1, Req: 1, Key: "a"}} {
		wantReplay(t, l, []api.Record{r}, nil, api.ErrRecord)
		wantReplay(t, nil, []api.Record{noop(1), r}, nil, api.ErrRecord)
	}
}

// modelReplay is Replay in the chapter's words, over a map of pages.
func modelReplay(l []redo.Slot, rs []api.Record) ([]redo.Slot, api.Errno) {
	pages := map[int]api.Node{}
	for i, s := range l {
		if s.Page < 1 || s.Page > 4096 || i > 0 && l[i-1].Page >= s.Page || page.Check(s.Node) != api.OK {
			return nil, api.ErrNode
		}
		pages[s.Page] = s.Node
	}
	for _, r := range rs {
		if record.Check(r) == api.OK && (r.Kind == api.ReNoop || r.Kind == api.ReCommit) {
			continue
		}
		n, there := pages[r.Page]
		m, _, e := modelApply(n, there, r)
		if e != api.OK {
			return nil, e
		}
		pages[r.Page] = m
	}
	var all []redo.Slot
	for p := 1; p <= 4096; p++ {
		if n, there := pages[p]; there {
			all = append(all, redo.Slot{Page: p, Node: n})
		}
	}
	return all, api.OK
}

// anySlots are pages at random; now and then wrong ones.
func anySlots(g *rand.Rand) []redo.Slot {
	var l []redo.Slot
	for p := 1; p <= 6; p++ {
		for page.Check(anyNode(g, 0)) == api.OK && g.Intn(2) == 0 {
			if n := anyNode(g, g.Intn(9)); page.Check(n) == api.OK || g.Intn(9) == 0 {
				l = append(l, redo.Slot{Page: p, Node: n})
				break
			}
		}
	}
	if len(l) > 1 && g.Intn(20) == 0 {
		l[0], l[1] = l[1], l[0]
	}
	return l
}

// anyHistory are records with which a replay over pages comes to its end: each is tried, and left out if it is refused, or if its page would not be right behind it.
func anyHistory(g *rand.Rand, l []redo.Slot, most int) []api.Record {
	pages := map[int]api.Node{}
	for _, s := range l {
		pages[s.Page] = s.Node
	}
	var rs []api.Record
	for lsn := 1; lsn <= most; lsn++ {
		r := anyRecord(g, max(1, lsn-g.Intn(3)*g.Intn(3)), 1+g.Intn(6))
		n, there := pages[r.Page]
		m, _, e := modelApply(n, there, r)
		switch {
		case e == api.ErrArg:
			rs = append(rs, r)
		case e == api.OK && page.Check(m) == api.OK:
			rs, pages[r.Page] = append(rs, r), m
		}
	}
	return rs
}

func TestReplayOfAnything(t *testing.T) {
	g := rand.New(rand.NewSource(122))
	for range 2000 {
		l := anySlots(g)
		rs := anyHistory(g, l, 40)
		if g.Intn(3) == 0 {
			rs = slices.Insert(rs, g.Intn(len(rs)+1), anyRecord(g, 1+g.Intn(40), 1+g.Intn(6)))
		}
		want, e := modelReplay(l, rs)
		wantReplay(t, l, rs, want, e)
		if t.Failed() {
			return
		}
	}
}

func TestFind(t *testing.T) {
	one, two, wrong := leaf(1, "", 0, "a", "1"), inner(2, "x", 7, "m"), api.Node{Level: -1, Keys: []string{""}, Kids: []int{0}}
	l := []redo.Slot{{1, one}, {4, two}, {api.MaxPages, api.Node{}}}
	wantFind(t, l, 1, one, true)
	wantFind(t, l, 4, two, true)
	wantFind(t, l, api.MaxPages, api.Node{}, true)
	for _, p := range []int{math.MinInt, -1, 0, 2, 3, 5, api.MaxPages - 1, api.MaxPages + 1, math.MaxInt} {
		wantFind(t, l, p, api.Node{}, false)
		wantFind(t, nil, p, api.Node{}, false)
		wantFind(t, []redo.Slot{}, p, api.Node{}, false)
	}
	any := []redo.Slot{{9, one}, {3, two}, {9, two}, {3, one}, {0, wrong}, {-5, two}, {math.MaxInt, one}} // lists that no replay would take
	wantFind(t, any, 9, one, true)
	wantFind(t, any, 3, two, true)
	wantFind(t, any, 0, wrong, true)
	wantFind(t, any, -5, two, true)
	wantFind(t, any, math.MaxInt, one, true)
	wantFind(t, any, 1, api.Node{}, false)
}

// 12.3

// right are pages that are right, at random.
func right(g *rand.Rand) []redo.Slot {
	for {
		l := anySlots(g)
		if _, e := modelReplay(l, nil); e == api.OK {
			return l
		}
	}
}

// replay is a replay that must come to its end.
func replay(t *testing.T, l []redo.Slot, rs []api.Record) []redo.Slot {
	t.Helper()
	m, e := redo.Replay(l, rs)
	if e != api.OK {
		t.Fatalf("Replay(%v, %v): %v", l, rs, e)
	}
	return m
}

func TestOnce(t *testing.T) {
	g := rand.New(rand.NewSource(123))
	for range 600 {
		l := right(g)
		rs := anyHistory(g, l, 60)
		all := replay(t, l, rs)
		wantReplay(t, all, rs, all, api.OK)
		from := g.Intn(len(rs) + 1)
		to := from + g.Intn(len(rs)+1-from)
		wantReplay(t, all, rs[from:to], all, api.OK)
		wantReplay(t, l, append(slices.Clone(rs), rs...), all, api.OK)
		some := replay(t, l, rs[:to])
		wantReplay(t, some, rs[from:], all, api.OK) // as behind a crash: some of them are done, from some point on all are replayed
		wantReplay(t, some, rs, all, api.OK)
		if t.Failed() {
			return
		}
	}
}

func TestADoneRecordIsDoneOnce(t *testing.T) {
	for _, x := range doings() {
		x.r.LSN = 5
		m, done, e := redo.Apply(dated(x.was, 4), true, x.r)
		if !done || e != api.OK {
			t.Fatalf("%s: %v, %v", x.name, done, e)
		}
		wantApply(t, m, true, x.r, m, false, api.OK)
	}
}

// 12.4

// byPage are the records of each page, in their order.
func byPage(rs []api.Record) map[int][]api.Record {
	m := map[int][]api.Record{}
	for _, r := range rs {
		m[r.Page] = append(m[r.Page], r)
	}
	return m
}

func TestByPage(t *testing.T) {
	g := rand.New(rand.NewSource(124))
	for range 600 {
		l := right(g)
		rs := anyHistory(g, l, 60)
		all := replay(t, l, rs)
		one := l
		rows := byPage(rs)
		for _, p := range g.Perm(7) {
			one = replay(t, one, rows[p])
		}
		if !sameSlots(one, all) {
			t.Fatalf("page by page: %v, not %v (%v, %v)", one, all, l, rs)
		}
		for p, row := range rows { // a page with its own records alone
			if p == 0 {
				continue
			}
			var mine []redo.Slot
			if n, there := redo.Find(l, p); there {
				mine = []redo.Slot{{p, n}}
			}
			n, there := redo.Find(all, p)
			if !there {
				t.Fatalf("page %d is not there", p)
			}
			wantReplay(t, mine, row, []redo.Slot{{p, n}}, api.OK)
		}
		if t.Failed() {
			return
		}
	}
}

func TestRecordsOfOnePageDoNothingToOthers(t *testing.T) {
	g := rand.New(rand.NewSource(125))
	for range 600 {
		l := right(g)
		p := 1 + g.Intn(6)
		var rs []api.Record
		for _, r := range anyHistory(g, l, 60) {
			if r.Page == p || r.Page == 0 {
				rs = append(rs, r)
			}
		}
		all := replay(t, l, rs)
		isMine := func(s redo.Slot) bool { return s.Page == p }
		if !sameSlots(slices.DeleteFunc(slices.Clone(all), isMine), slices.DeleteFunc(slices.Clone(l), isMine)) {
			t.Fatalf("records of page %d: %v has become %v", p, l, all)
		}
	}
}

// R2

func TestNothingIsNilOrEmpty(t *testing.T) {
	bare, empty := api.Node{}, api.Node{Keys: []string{}, Vals: []string{}, Kids: []int{}}
	for _, n := range []api.Node{bare, empty} {
		wantApply(t, n, true, put(5, 1, "a", "x"), leaf(5, "", 0, "a", "x"), true, api.OK)
		wantApply(t, dated(n, 5), true, put(5, 1, "a", "x"), leaf(5, "", 0), false, api.OK)
		wantReplay(t, []redo.Slot{{1, n}}, []api.Record{}, []redo.Slot{{1, bare}}, api.OK)
		wantFind(t, []redo.Slot{{1, n}}, 1, bare, true)
	}
}

// R3

// roomy is a node with spare room behind its lists that is filled.
func roomy(n api.Node) api.Node {
	n.Keys = append(slices.Clone(n.Keys), "spare", "keys")[:len(n.Keys)]
	n.Vals = append(slices.Clone(n.Vals), "spare", "vals")[:len(n.Vals)]
	n.Kids = append(slices.Clone(n.Kids), -7, -8)[:len(n.Kids)]
	return n
}

// roomySlots are pages with spare room behind them, and behind their nodes' lists, that is filled.
func roomySlots(l []redo.Slot) []redo.Slot {
	var m []redo.Slot
	for _, s := range l {
		m = append(m, redo.Slot{Page: s.Page, Node: roomy(s.Node)})
	}
	spare := redo.Slot{Page: 5000, Node: roomy(leaf(1, "", 0, "spare", "slot"))}
	return append(m, spare, spare, spare)[:len(l)]
}

// whole is a node with its lists' spare room, in lists of its own.
func whole(n api.Node) api.Node {
	n.Keys, n.Vals, n.Kids = slices.Clone(n.Keys[:cap(n.Keys)]), slices.Clone(n.Vals[:cap(n.Vals)]), slices.Clone(n.Kids[:cap(n.Kids)])
	return n
}

func wholeSlots(l []redo.Slot) []redo.Slot {
	l = slices.Clone(l[:cap(l)])
	for i := range l {
		l[i].Node = whole(l[i].Node)
	}
	return l
}

// scribble writes over all of a list, its spare room too.
func scribble[T any](l []T, x T) {
	l = l[:cap(l)]
	for i := range l {
		l[i] = x
	}
}

func scribbleNode(n api.Node) {
	scribble(n.Keys, "scribble")
	scribble(n.Vals, "scribble")
	scribble(n.Kids, 99)
}

func scribbleSlots(l []redo.Slot) {
	l = l[:cap(l)]
	for i := range l {
		scribbleNode(l[i].Node)
		l[i] = redo.Slot{Page: -3}
	}
}

// copied is a node in lists of its own.
func copied(n api.Node) api.Node {
	n.Keys, n.Vals, n.Kids = slices.Clone(n.Keys), slices.Clone(n.Vals), slices.Clone(n.Kids)
	return n
}

func copiedSlots(l []redo.Slot) []redo.Slot {
	l = slices.Clone(l)
	for i := range l {
		l[i].Node = copied(l[i].Node)
	}
	return l
}

func TestApplySharesNothing(t *testing.T) {
	for _, x := range doings() {
		for _, lsn := range []int{4, 5, 6} { // to be done, and done already
			x.r.LSN = 5
			n := roomy(dated(x.was, lsn))
			was := whole(n)
			one, _, e := redo.Apply(n, true, x.r)
			two, _, _ := redo.Apply(n, true, x.r)
			wantErr(t, x.name, e, api.OK)
			want := copied(one)
			if !same(whole(n), was) {
				t.Fatalf("%s: the node has become %v", x.name, whole(n))
			}
			scribbleNode(one)
			if !same(whole(n), was) {
				t.Fatalf("%s: the answer shares memory with the node", x.name)
			}
			scribbleNode(n)
			if !same(two, want) {
				t.Fatalf("%s: two answers, or an answer and its node, share memory: %v, not %v", x.name, two, want)
			}
			scribble(two.Keys, "scribble")
			if !slices.Equal(two.Vals, want.Vals) {
				t.Fatalf("%s: Keys and Vals share memory", x.name)
			}
		}
	}
}

func TestReplaySharesNothing(t *testing.T) {
	g := rand.New(rand.NewSource(3))
	for i := range 400 {
		l := roomySlots(right(g))
		rs := anyHistory(g, l, i%40)
		rs = append(slices.Clone(rs), api.Record{LSN: 1, Kind: 77}, api.Record{})[:len(rs)]
		was, wasRs := wholeSlots(l), slices.Clone(rs[:cap(rs)])
		one, two := replay(t, l, rs), replay(t, l, rs)
		if !sameSlots(wholeSlots(l), was) || !slices.Equal(rs[:cap(rs)], wasRs) {
			t.Fatalf("what was handed in has become %v, %v", wholeSlots(l), rs[:cap(rs)])
		}
		want := copiedSlots(one)
		scribbleSlots(one)
		if !sameSlots(wholeSlots(l), was) {
			t.Fatal("the answer shares memory with the pages")
		}
		scribbleSlots(l)
		scribble(rs, api.Record{})
		if !sameSlots(two, want) {
			t.Fatalf("two answers, or an answer and what was handed in, share memory: %v, not %v", two, want)
		}
	}
}

// Pages that share their lists with each other are handed in; no two of the answer do.
func TestPagesOfAnAnswerShareNothing(t *testing.T) {
	n := roomy(leaf(1, "", 0, "a", "1", "b", "2"))
	keys := n.Keys
	both := api.Node{Keys: keys, Vals: keys} // one list in two fields
	l := []redo.Slot{{1, n}, {2, n}, {3, both}}
	for _, rs := range [][]api.Record{nil, {put(9, 2, "c", "3")}, {del(9, 1, "a")}} {
		m := replay(t, l, rs)
		for i := range m {
			want := copiedSlots(m)
			scribbleNode(m[i].Node)
			want[i] = m[i]
			if !sameSlots(m, want) {
				t.Fatalf("page %d shares memory with another one: %v, not %v", m[i].Page, m, want)
			}
		}
		m = replay(t, l, rs)
		scribble(m[2].Node.Keys, "scribble")
		if !slices.Equal(m[2].Node.Vals, keys) {
			t.Fatal("Keys and Vals share memory")
		}
	}
}

func TestFindSharesNothing(t *testing.T) {
	for _, n := range []api.Node{leaf(1, "x", 2, "a", "1", "b", "2"), inner(2, "", 0, "m", "q"), {Keys: []string{"b", "a"}, Vals: []string{"x"}, Kids: []int{0}}} {
		l := roomySlots([]redo.Slot{{1, n}, {1, n}})
		was := wholeSlots(l)
		one, _ := redo.Find(l, 1)
		two, _ := redo.Find(l, 1)
		scribbleNode(one)
		if !sameSlots(wholeSlots(l), was) {
			t.Fatal("the answer shares memory with the list")
		}
		scribbleSlots(l)
		if !same(two, n) {
			t.Fatalf("two answers, or an answer and the list, share memory: %v", two)
		}
	}
	keys := []string{"a", "b"}
	n, _ := redo.Find([]redo.Slot{{1, api.Node{Keys: keys, Vals: keys}}}, 1)
	scribble(n.Keys, "scribble")
	if !slices.Equal(n.Vals, keys) {
		t.Fatal("Keys and Vals share memory")
	}
}

// R6

func TestTheSameIsToldAgain(t *testing.T) {
	g := rand.New(rand.NewSource(6))
	for range 300 {
		l := anySlots(g)
		rs := append(anyHistory(g, l, 20), anyRecord(g, 9, 1))
		m, e := redo.Replay(l, rs)
		wantReplay(t, l, rs, m, e)
	}
}

// P1

func TestAnyArguments(t *testing.T) {
	huge := strings.Repeat("x", 1<<20)
	nodes := append(wrongNodes(), api.Node{}, api.Node{High: huge}, api.Node{Keys: []string{huge}, Vals: []string{huge}}, api.Node{Level: math.MinInt, LSN: math.MinInt, Right: math.MinInt}, api.Node{Level: math.MaxInt, LSN: math.MaxInt, Right: math.MaxInt, Kids: make([]int, 9999)})
	numbers := []int{math.MinInt, -1, 0, 1, api.MaxPages, api.MaxLSN, math.MaxInt}
	for _, n := range nodes {
		for _, a := range numbers {
			for _, b := range numbers {
				for kind := -1; kind <= 8; kind++ {
					for _, s := range []string{"", "a", huge} {
						r := api.Record{LSN: a, Epoch: b, Kind: kind, Page: b, Other: a, Req: b, Key: s, Value: s}
						redo.Apply(n, true, r)
						redo.Apply(n, false, r)
						redo.Replay([]redo.Slot{{a, n}, {b, n}}, []api.Record{r, r})
						redo.Replay([]redo.Slot{{1, api.Node{}}}, []api.Record{r, r})
						redo.Find([]redo.Slot{{a, n}, {b, n}}, b)
					}
				}
			}
		}
	}
}

// The chapter's own example.

func TestExample(t *testing.T) {
	r := put(5, 1, "k", "v")
	wantApply(t, leaf(5, "", 0, "a", "1"), true, r, leaf(5, "", 0, "a", "1"), false, api.OK)
	wantApply(t, leaf(4, "", 0, "a", "1"), true, r, leaf(5, "", 0, "a", "1", "k", "v"), true, api.OK)
}
