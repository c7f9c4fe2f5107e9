package blink_test

import (
	"math"
	"math/rand"
	"slices"
	"strings"
	"testing"

	"lattice/api"
	"lattice/blink"
	"lattice/page"
	"lattice/redo"
)

// long is a text of n bytes that begins with a letter.
func long(letter string, n int) string { return letter + strings.Repeat("x", n-len(letter)) }

func same(a, b api.Node) bool {
	return a.Level == b.Level && a.LSN == b.LSN && a.Right == b.Right && a.High == b.High &&
		slices.Equal(a.Keys, b.Keys) && slices.Equal(a.Vals, b.Vals) && slices.Equal(a.Kids, b.Kids)
}

func sameSlots(a, b []redo.Slot) bool {
	return slices.EqualFunc(a, b, func(x, y redo.Slot) bool { return x.Page == y.Page && same(x.Node, y.Node) })
}

// copied are pages that share nothing with others.
func copied(l []redo.Slot) []redo.Slot {
	l = slices.Clone(l)
	for i, s := range l {
		l[i].Node.Keys, l[i].Node.Vals, l[i].Node.Kids = slices.Clone(s.Node.Keys), slices.Clone(s.Node.Vals), slices.Clone(s.Node.Kids)
	}
	return l
}

// leaf is a leaf of keys; the value of each is v and the key.
func leaf(high string, right int, keys ...string) api.Node {
	n := api.Node{High: high, Right: right, Keys: keys}
	for _, k := range keys {
		n.Vals = append(n.Vals, "v"+k)
	}
	return n
}

// inner is an inner node of a level.
func inner(level int, high string, right int, kids []int, keys ...string) api.Node {
	return api.Node{Level: level, High: high, Right: right, Kids: kids, Keys: keys}
}

// entries are what leaves of these keys have.
func entries(keys ...string) []api.Entry {
	var l []api.Entry
	for _, k := range keys {
		l = append(l, api.Entry{Key: k, Value: "v" + k})
	}
	return l
}

// sample is a tree of three levels: 9 is a page of its row of leaves, but no kid, and 12 is in no row.
func sample() []redo.Slot {
	return []redo.Slot{
		{Page: 1, Node: inner(2, "", 0, []int{2, 3}, "m")},
		{Page: 2, Node: inner(1, "m", 3, []int{4, 5}, "f")},
		{Page: 3, Node: inner(1, "", 0, []int{6, 7}, "r")},
		{Page: 4, Node: leaf("c", 9, "a", "b")},
		{Page: 5, Node: leaf("m", 6, "f", "g")},
		{Page: 6, Node: leaf("r", 7)},
		{Page: 7, Node: leaf("", 0, "r", "z")},
		{Page: 9, Node: leaf("f", 5, "c", "d")},
		{Page: 12, Node: leaf("a", 1)},
	}
}

// at is the slot of a page.
func at(l []redo.Slot, p int) *api.Node {
	for i := range l {
		if l[i].Page == p {
			return &l[i].Node
		}
	}
	panic("no such page")
}

// without are pages without one.
func without(l []redo.Slot, p int) []redo.Slot {
	return slices.DeleteFunc(l, func(s redo.Slot) bool { return s.Page == p })
}

// image is the page of a node whose LSN is 0, as a record has it.
func image(n api.Node) string {
	n.LSN = 0
	b, e := page.Encode(n)
	if e != api.OK {
		panic(e)
	}
	return string(b)
}

func put(p int, k, v string) api.Record {
	return api.Record{Kind: api.RePut, Page: p, Key: k, Value: v}
}

func del(p int, k string) api.Record { return api.Record{Kind: api.ReDel, Page: p, Key: k} }

func fresh(p int, n api.Node) api.Record {
	return api.Record{Kind: api.ReNew, Page: p, Value: image(n)}
}

func cut(p int, k string, other int) api.Record {
	return api.Record{Kind: api.ReCut, Page: p, Key: k, Other: other}
}

func post(p int, k string, other int) api.Record {
	return api.Record{Kind: api.RePost, Page: p, Key: k, Other: other}
}

func noop() api.Record { return api.Record{Kind: api.ReNoop} }

func commit() api.Record {
	return api.Record{Kind: api.ReCommit, Other: 1, Req: 9, Key: "a", Value: "x"}
}

func treeOf(t *testing.T, l []redo.Slot) *blink.Tree {
	t.Helper()
	x, e := blink.Of(l)
	if e != api.OK || x == nil {
		t.Fatalf("Of(%v): %v, %v", l, x, e)
	}
	return x
}

func mustSay(t *testing.T, x *blink.Tree, rs ...api.Record) {
	t.Helper()
	for _, r := range rs {
		want := r
		want.LSN = x.Last() + 1
		if got, e := x.Say(r); got != want || e != api.OK || x.Last() != want.LSN {
			t.Fatalf("Say(%v): %v, %v, Last %d", r, got, e, x.Last())
		}
	}
}

// wantTree tells whether all calls take pages for a tree of these entries.
func wantTree(t *testing.T, what string, l []redo.Slot, want []api.Entry) {
	t.Helper()
	if e := blink.Check(l); e != api.OK {
		t.Errorf("%s: Check: %v", what, e)
	}
	if got, e := blink.Entries(l); !slices.Equal(got, want) || e != api.OK {
		t.Errorf("%s: Entries: %v, %v, not %v", what, got, e, want)
	}
	x, e := blink.Of(l)
	if x == nil || e != api.OK || !sameSlots(x.Pages(), l) {
		t.Errorf("%s: Of: %v, %v", what, x.Pages(), e)
	}
	if got := x.Scan("", "", math.MaxInt); !slices.Equal(got, want) {
		t.Errorf("%s: Scan: %v, not %v", what, got, want)
	}
}

// wantNone tells whether all calls take pages for no tree.
func wantNone(t *testing.T, what string, l []redo.Slot) {
	t.Helper()
	if e := blink.Check(l); e != api.ErrTree {
		t.Errorf("%s: Check: %v", what, e)
	}
	if got, e := blink.Entries(l); got != nil || e != api.ErrTree {
		t.Errorf("%s: Entries: %v, %v", what, got, e)
	}
	if x, e := blink.Of(l); x != nil || e != api.ErrTree {
		t.Errorf("%s: Of: %v, %v", what, x, e)
	}
}

// 13.1

func TestTrees(t *testing.T) {
	wantTree(t, "the sample", sample(), entries("a", "b", "c", "d", "f", "g", "r", "z"))
	wantTree(t, "an empty leaf", []redo.Slot{{Page: 1}}, nil)
	wantTree(t, "a leaf", []redo.Slot{{Page: 1, Node: leaf("", 0, "a", "b")}}, entries("a", "b"))
	wantTree(t, "the chapter's", []redo.Slot{
		{Page: 1, Node: inner(1, "", 0, []int{2})}, {Page: 2, Node: leaf("m", 3, "a")}, {Page: 3, Node: leaf("", 0, "m", "n")},
	}, entries("a", "m", "n"))
	wantTree(t, "inner pages that are no kids", []redo.Slot{
		{Page: 1, Node: inner(2, "", 0, []int{8})}, {Page: 2, Node: leaf("m", 3, "a")}, {Page: 3, Node: leaf("", 0, "m", "n")},
		{Page: 7, Node: inner(1, "", 0, []int{3})}, {Page: 8, Node: inner(1, "m", 7, []int{2})},
	}, entries("a", "m", "n"))
	wantTree(t, "the greatest page and the greatest LSN", []redo.Slot{
		{Page: 1, Node: api.Node{Level: 1, LSN: api.MaxLSN, Kids: []int{api.MaxPages}}}, {Page: api.MaxPages, Node: leaf("", 0, "a")},
	}, entries("a"))
	wantTree(t, "a leaf's key at its low end", []redo.Slot{
		{Page: 1, Node: inner(1, "", 0, []int{2, 3}, "m")}, {Page: 2, Node: leaf("m", 3)}, {Page: 3, Node: leaf("", 0, "m")},
	}, entries("m"))
	later := sample()
	at(later, 2).Kids[0] = 9
	wantTree(t, "a row that begins later, its first page having no low end", later, entries("c", "d", "f", "g", "r", "z"))
	wantTree(t, "bytes in their order", []redo.Slot{
		{Page: 1, Node: inner(1, "", 0, []int{2, 3}, "\x80")}, {Page: 2, Node: leaf("\x80", 3, "\x00", "a", "aa")}, {Page: 3, Node: leaf("", 0, "\x80\x00", "\xff")},
	}, entries("\x00", "a", "aa", "\x80\x00", "\xff"))
}

func TestATreeOfAllLevels(t *testing.T) {
	l := []redo.Slot{}
	for p := range 20 {
		l = append(l, redo.Slot{Page: p + 1, Node: inner(20-p, "", 0, []int{p + 2})})
	}
	l = append(l, redo.Slot{Page: 21, Node: leaf("", 0, "a")})
	wantTree(t, "21 levels", l, entries("a"))
	for p := range l {
		m := copied(l)
		m[p].Node.Level++
		wantNone(t, "a level too many", m)
	}
}

func TestATreeOfAllPages(t *testing.T) {
	keys := make([]string, api.MaxPages)
	for i := range keys {
		keys[i] = string([]byte{byte(1 + i/100), byte(1 + i%100)})
	}
	l := []redo.Slot{{Page: 1, Node: inner(1, "", 0, []int{2})}}
	for p := 2; p < api.MaxPages; p++ {
		l = append(l, redo.Slot{Page: p, Node: leaf(keys[p], p+1, keys[p-1])})
	}
	l = append(l, redo.Slot{Page: api.MaxPages, Node: leaf("", 0, keys[api.MaxPages-1])})
	wantTree(t, "all pages", l, entries(keys[1:]...))
	for _, p := range []int{1, 2, 3, api.MaxPages - 1, api.MaxPages} {
		m := copied(l)
		at(m, api.MaxPages).Right, at(m, api.MaxPages).High = p, "\xff"
		wantNone(t, "all pages, that go round", m)
	}
}

func TestPagesInNoRowSayNothing(t *testing.T) {
	all := entries("a", "b", "c", "d", "f", "g", "r", "z")
	for _, n := range []api.Node{leaf("", 0, "a"), leaf("a", 1), leaf("z", 4000, "y"), inner(1, "", 0, []int{4}), inner(20, "", 12, []int{12, 12}, "a"), inner(2, "", 0, []int{1})} {
		l := sample()
		*at(l, 12) = n
		wantTree(t, "a page in no row", l, all)
	}
	wantTree(t, "without it", without(sample(), 12), all)
}

func TestWhatIsNoTree(t *testing.T) {
	for _, x := range []struct {
		what   string
		change func(l []redo.Slot) []redo.Slot
	}{
		{"no pages", func(l []redo.Slot) []redo.Slot { return nil }},
		{"page 0", func(l []redo.Slot) []redo.Slot { return append([]redo.Slot{{Page: 0}}, l...) }},
		{"page -1", func(l []redo.Slot) []redo.Slot { return append([]redo.Slot{{Page: -1}}, l...) }},
		{"a page too great", func(l []redo.Slot) []redo.Slot { return append(l, redo.Slot{Page: api.MaxPages + 1}) }},
		{"the greatest number", func(l []redo.Slot) []redo.Slot { return append(l, redo.Slot{Page: math.MaxInt}) }},
		{"a page twice", func(l []redo.Slot) []redo.Slot { return append(l, l[8]) }},
		{"the root twice", func(l []redo.Slot) []redo.Slot { return append(l[:1:1], l...) }},
		{"pages that fall", func(l []redo.Slot) []redo.Slot { l[7], l[8] = l[8], l[7]; return l }},
		{"a node in no row that is not right", func(l []redo.Slot) []redo.Slot { at(l, 12).LSN = -1; return l }},
		{"a leaf that is not right", func(l []redo.Slot) []redo.Slot { at(l, 4).Keys[0] = "b"; return l }},
		{"an inner node that is not right", func(l []redo.Slot) []redo.Slot { at(l, 2).Kids = nil; return l }},
		{"a root that is not right", func(l []redo.Slot) []redo.Slot { at(l, 1).Level = 21; return l }},
		{"no root", func(l []redo.Slot) []redo.Slot { return without(l, 1) }},
		{"no root, but a leaf", func(l []redo.Slot) []redo.Slot { return []redo.Slot{{Page: 2}} }},
		{"a root with a Right", func(l []redo.Slot) []redo.Slot { at(l, 1).Right = 12; *at(l, 12) = inner(2, "", 0, []int{7}); return l }},
		{"a root with a Right and a High", func(l []redo.Slot) []redo.Slot {
			at(l, 1).Right, at(l, 1).High = 12, "r"
			*at(l, 12) = inner(2, "", 0, []int{3})
			return l
		}},
		{"a root with a Right that would fit", func(l []redo.Slot) []redo.Slot {
			return []redo.Slot{{Page: 1, Node: leaf("m", 2, "a")}, {Page: 2, Node: leaf("", 0, "m")}}
		}},
		{"a root with a High", func(l []redo.Slot) []redo.Slot { at(l, 1).High = "zz"; return l }},
		{"a root that is its Right", func(l []redo.Slot) []redo.Slot { at(l, 1).Right, at(l, 1).High = 1, "zz"; return l }},
		{"a root whose Right is not there", func(l []redo.Slot) []redo.Slot { at(l, 1).Right = 11; return l }},
		{"a leaf that is not there", func(l []redo.Slot) []redo.Slot { return without(l, 9) }},
		{"a last leaf that is not there", func(l []redo.Slot) []redo.Slot { return without(l, 7) }},
		{"a first leaf that is not there", func(l []redo.Slot) []redo.Slot { return without(l, 4) }},
		{"an inner page that is not there", func(l []redo.Slot) []redo.Slot { return without(l, 3) }},
		{"a first inner page that is not there", func(l []redo.Slot) []redo.Slot { return without(l, 2) }},
		{"a first kid that is not there", func(l []redo.Slot) []redo.Slot { at(l, 2).Kids[0] = 99; return l }},
		{"a leaf in an inner row", func(l []redo.Slot) []redo.Slot { at(l, 2).Right = 7; return l }},
		{"an inner page in the leaves' row", func(l []redo.Slot) []redo.Slot { *at(l, 9) = inner(1, "f", 5, []int{4}); return l }},
		{"an inner page at the end of the leaves' row", func(l []redo.Slot) []redo.Slot { at(l, 5).Right, at(l, 5).High = 3, "m"; return l }},
		{"a row that begins with a leaf", func(l []redo.Slot) []redo.Slot { at(l, 1).Kids[0] = 4; return l }},
		{"a row that begins with a page of its own level", func(l []redo.Slot) []redo.Slot { at(l, 2).Kids[0] = 2; return l }},
		{"a row that begins with the root", func(l []redo.Slot) []redo.Slot { at(l, 1).Kids[0] = 1; return l }},
		{"a level that is left out", func(l []redo.Slot) []redo.Slot { at(l, 1).Level = 3; return l }},
		{"a page of a row ahead", func(l []redo.Slot) []redo.Slot { at(l, 9).Right = 2; return l }},
		{"the root in a row", func(l []redo.Slot) []redo.Slot { at(l, 9).Right = 1; return l }},
		{"a leaf that is its own Right", func(l []redo.Slot) []redo.Slot { at(l, 6).Right = 6; return l }},
		{"leaves that go round", func(l []redo.Slot) []redo.Slot { at(l, 6).Right = 9; return l }},
		{"leaves that go round to the first", func(l []redo.Slot) []redo.Slot { at(l, 7).Right, at(l, 7).High = 4, "zz"; return l }},
		{"empty leaves that go round", func(l []redo.Slot) []redo.Slot {
			return []redo.Slot{{Page: 1, Node: inner(1, "", 0, []int{2})}, {Page: 2, Node: leaf("m", 3)}, {Page: 3, Node: leaf("m", 2)}}
		}},
		{"inner pages that go round", func(l []redo.Slot) []redo.Slot { at(l, 3).Right, at(l, 3).High = 2, "zz"; return l }},
		{"High empty in the middle of the leaves", func(l []redo.Slot) []redo.Slot { at(l, 9).High = ""; return l }},
		{"High empty at the first leaf", func(l []redo.Slot) []redo.Slot { at(l, 4).High = ""; return l }},
		{"High empty in the middle of an inner row", func(l []redo.Slot) []redo.Slot { at(l, 2).High = ""; return l }},
		{"High not empty at the leaves' end", func(l []redo.Slot) []redo.Slot { at(l, 7).High = "zz"; return l }},
		{"High not empty at an inner row's end", func(l []redo.Slot) []redo.Slot { at(l, 3).High = "zz"; return l }},
		{"a leaf's key below its low end", func(l []redo.Slot) []redo.Slot { at(l, 9).Keys[0] = "bz"; return l }},
		{"a last leaf's key below its low end", func(l []redo.Slot) []redo.Slot { at(l, 7).Keys[0] = "qz"; return l }},
		{"a first leaf's key beyond the next one's", func(l []redo.Slot) []redo.Slot { at(l, 4).High = "d"; return l }},
		{"an inner page's key below its low end", func(l []redo.Slot) []redo.Slot { at(l, 3).Keys[0] = "a"; return l }},
		{"an inner page's key at its low end", func(l []redo.Slot) []redo.Slot {
			*at(l, 3) = inner(1, "", 0, []int{6, 6, 7}, "m", "r")
			return l
		}},
		{"a kid that is not there", func(l []redo.Slot) []redo.Slot { at(l, 2).Kids[1] = 99; return l }},
		{"a kid of another level", func(l []redo.Slot) []redo.Slot { at(l, 2).Kids[1] = 3; return l }},
		{"a kid that is in no row", func(l []redo.Slot) []redo.Slot { at(l, 2).Kids[1] = 12; return l }},
		{"a kid whose low end is another one", func(l []redo.Slot) []redo.Slot { at(l, 2).Kids[1] = 9; return l }},
		{"a kid with a key that is not its low end", func(l []redo.Slot) []redo.Slot { at(l, 2).Keys[0] = "e"; return l }},
		{"a first kid whose low end is another one", func(l []redo.Slot) []redo.Slot { at(l, 3).Kids[0] = 5; return l }},
		{"a first kid whose low end is none", func(l []redo.Slot) []redo.Slot { at(l, 3).Kids[0] = 4; return l }},
		{"a second kid whose low end is none", func(l []redo.Slot) []redo.Slot { at(l, 2).Kids[1] = 4; return l }},
		{"a root's kid whose low end is another one", func(l []redo.Slot) []redo.Slot { at(l, 1).Keys[0] = "n"; return l }},
		{"a root's kid twice", func(l []redo.Slot) []redo.Slot { at(l, 1).Kids[1] = 2; return l }},
	} {
		l := x.change(copied(sample()))
		if isTree(l) {
			t.Errorf("%s: the model takes it", x.what)
		}
		wantNone(t, x.what, l)
	}
}

// isTree is the chapter's text, sentence by sentence, and what 13.4 asks besides: in no row a High is below the one ahead of it.
func isTree(l []redo.Slot) bool {
	nodes, last := map[int]api.Node{}, 0
	for _, s := range l {
		if s.Page <= last || s.Page > api.MaxPages || page.Check(s.Node) != api.OK {
			return false
		}
		nodes[s.Page], last = s.Node, s.Page
	}
	top, ok := nodes[1]
	if !ok || top.Right != 0 || top.High != "" {
		return false
	}
	rowOf, lowOf := map[int]int{}, map[int]string{} // of each page that is in a row: the level, and the low end
	first := 1
	for level := top.Level; level >= 0; level-- {
		low := ""
		for p := first; ; p = nodes[p].Right {
			n, there := nodes[p]
			_, already := rowOf[p]
			if !there || n.Level != level || already || (n.High == "") != (n.Right == 0) || n.High != "" && n.High < low {
				return false
			}
			for _, k := range n.Keys {
				if level == 0 && k < low || level > 0 && k <= low {
					return false
				}
			}
			rowOf[p], lowOf[p] = level, low
			low = n.High
			if n.Right == 0 {
				break
			}
		}
		if level > 0 {
			first = nodes[first].Kids[0]
		}
	}
	for p, level := range rowOf {
		for i, kid := range nodes[p].Kids {
			want := lowOf[p]
			if i > 0 {
				want = nodes[p].Keys[i-1]
			}
			below, there := rowOf[kid]
			if !there || below != level-1 || lowOf[kid] != want {
				return false
			}
		}
	}
	return true
}

// modelEntries are the entries of a tree, from its first leaf on.
func modelEntries(l []redo.Slot) []api.Entry {
	p := 1
	for len(at(l, p).Kids) > 0 {
		p = at(l, p).Kids[0]
	}
	var all []api.Entry
	for ; p != 0; p = at(l, p).Right {
		for i, k := range at(l, p).Keys {
			all = append(all, api.Entry{Key: k, Value: at(l, p).Vals[i]})
		}
	}
	return all
}

// span is a page of a row that is being made, and its low end.
type span struct {
	page int
	low  string
}

// randomTree is a tree of some levels with keys of some letters, in which some pages are no kids, and some are in no row.
func randomTree(rd *rand.Rand, levels int) []redo.Slot { return pagesOf(rd, randomRows(rd, levels)) }

// randomRows are the low ends of a tree's rows, from the leaves' up to the root's, rising: those of each row are some of the row below.
func randomRows(rd *rand.Rand, levels int) [][]string {
	row := append([]string{""}, randomKeys(rd, 1+rd.Intn(4)*levels)...)
	var rows [][]string
	for range levels - 1 {
		rows = append(rows, slices.Clone(row))
		row = slices.DeleteFunc(row, func(s string) bool { return s != "" && rd.Intn(2) == 0 })
	}
	return append(rows, []string{""})
}

// pagesOf are pages of rows of such low ends, which need not rise; and some that are in no row.
func pagesOf(rd *rand.Rand, rows [][]string) []redo.Slot {
	free := rd.Perm(60)
	take := func() int { p := free[0] + 2; free = free[1:]; return p }
	var l []redo.Slot
	var below []span
	for level, row := range rows {
		var made []span
		for i, low := range row {
			p := 1
			if level < len(rows)-1 {
				p = take()
			}
			made = append(made, span{p, low})
			n := api.Node{Level: level, LSN: rd.Intn(9)}
			if i+1 < len(row) {
				n.High = row[i+1]
			}
			if level == 0 {
				fillLeaf(rd, &n, low)
			} else {
				fillInner(rd, &n, low, below)
			}
			l = append(l, redo.Slot{Page: p, Node: n})
		}
		for i := range made[1:] {
			at(l, made[i].page).Right = made[i+1].page
		}
		below = made
	}
	for range rd.Intn(3) {
		l = append(l, redo.Slot{Page: take(), Node: leaf("q", rd.Intn(9), randomKeys(rd, 1)...)})
		if page.Check(l[len(l)-1].Node) != api.OK {
			l = l[:len(l)-1]
		}
	}
	slices.SortFunc(l, func(a, b redo.Slot) int { return a.Page - b.Page })
	return l
}

// randomKeys are different keys, rising.
func randomKeys(rd *rand.Rand, n int) []string {
	var l []string
	for range n {
		k := make([]byte, 1+rd.Intn(3))
		for i := range k {
			k[i] = "abcd"[rd.Intn(4)]
		}
		l = append(l, string(k))
	}
	slices.Sort(l)
	return slices.Compact(l)
}

// fillLeaf has a leaf have some keys between its low end and its High.
func fillLeaf(rd *rand.Rand, n *api.Node, low string) {
	for _, k := range randomKeys(rd, rd.Intn(8)) {
		if k >= low && (n.High == "" || k < n.High) {
			n.Keys, n.Vals = append(n.Keys, k), append(n.Vals, "v"+k)
		}
	}
}

// fillInner has an inner node have a page of the row below with its low end, and some whose low ends follow, below its High.
func fillInner(rd *rand.Rand, n *api.Node, low string, below []span) {
	byLow := slices.Clone(below)
	rd.Shuffle(len(byLow), func(i, j int) { byLow[i], byLow[j] = byLow[j], byLow[i] }) // of those of one low end any may be the kid
	slices.SortStableFunc(byLow, func(a, b span) int { return strings.Compare(a.low, b.low) })
	last := ""
	for _, s := range byLow {
		switch {
		case s.low == low && n.Kids == nil:
			n.Kids = []int{s.page}
		case s.low > low && s.low > last && (n.High == "" || s.low < n.High) && rd.Intn(3) > 0:
			n.Keys, n.Kids = append(n.Keys, s.low), append(n.Kids, s.page)
			last = s.low
		}
	}
}

// spoilt are the pages of a tree of which one thing is another one.
func spoilt(rd *rand.Rand, l []redo.Slot) []redo.Slot {
	l = copied(l)
	n := &l[rd.Intn(len(l))].Node
	other := l[rd.Intn(len(l))]
	keys := randomKeys(rd, 1)
	switch rd.Intn(11) {
	case 0:
		n.Right = other.Page
	case 1:
		n.Right = 0
	case 2:
		n.High = keys[0]
	case 3:
		n.High = ""
	case 4:
		n.Level = rd.Intn(3)
	case 5:
		if len(n.Keys) > 0 {
			n.Keys[rd.Intn(len(n.Keys))] = keys[0]
		}
	case 6:
		if len(n.Kids) > 0 {
			n.Kids[rd.Intn(len(n.Kids))] = other.Page
		}
	case 7:
		*n = other.Node
	case 8:
		return without(l, other.Page)
	case 9:
		if len(n.Kids) > 1 {
			n.Kids, n.Keys = n.Kids[:len(n.Kids)-1], n.Keys[:len(n.Keys)-1]
		}
	case 10:
		n.High, n.Keys, n.Vals = other.Node.High, nil, nil
		n.Kids = n.Kids[:min(1, len(n.Kids))]
	}
	return l
}

func TestRandomPagesAgainstTheChaptersText(t *testing.T) {
	rd := rand.New(rand.NewSource(1))
	trees, others := 0, 0
	for range 4000 {
		l := randomTree(rd, 1+rd.Intn(4))
		if !isTree(l) {
			t.Fatalf("the test's own tree is none: %v", l)
		}
		wantTree(t, "a random tree", l, modelEntries(l))
		for range min(8, len(l)) {
			l = spoilt(rd, l)
			if isTree(l) {
				trees++
				wantTree(t, "a changed tree", l, modelEntries(l))
			} else {
				others++
				wantNone(t, "a spoilt tree", l)
			}
		}
		if t.Failed() {
			t.Fatalf("pages: %v", l)
		}
	}
	if trees < 1000 || others < 1000 {
		t.Errorf("%d trees and %d others are too few", trees, others)
	}
}

// 13.4 holds only where no row goes back: a page that has no keys, so that these say nothing of its High, must not end below its low end. Where High is the low end, the chapter's text takes it, and nothing is lost.

// rowsThatGoBack are pages that would be a tree, but that in one row a High is below the one ahead of it.
func rowsThatGoBack() map[string][]redo.Slot {
	under := func(leaves ...redo.Slot) []redo.Slot {
		return append([]redo.Slot{{Page: 1, Node: inner(1, "", 0, []int{2})}}, leaves...)
	}
	above := func(rows ...redo.Slot) []redo.Slot { // leaves that rise
		return slices.Concat([]redo.Slot{{Page: 1, Node: inner(2, "", 0, []int{2})}}, rows, []redo.Slot{
			{Page: 6, Node: leaf("c", 7, "a")}, {Page: 7, Node: leaf("d", 8, "c")}, {Page: 8, Node: leaf("m", 9, "d", "k")}, {Page: 9, Node: leaf("", 0, "m", "n")},
		})
	}
	return map[string][]redo.Slot{
		"k and d":                 under(redo.Slot{Page: 2, Node: leaf("m", 3, "k")}, redo.Slot{Page: 3, Node: leaf("c", 4)}, redo.Slot{Page: 4, Node: leaf("", 0, "d")}),
		"d alone":                 under(redo.Slot{Page: 2, Node: leaf("m", 3)}, redo.Slot{Page: 3, Node: leaf("c", 4)}, redo.Slot{Page: 4, Node: leaf("", 0, "d")}),
		"d twice":                 under(redo.Slot{Page: 2, Node: leaf("m", 3, "d")}, redo.Slot{Page: 3, Node: leaf("c", 4)}, redo.Slot{Page: 4, Node: leaf("", 0, "d")}),
		"keys that rise":          under(redo.Slot{Page: 2, Node: leaf("m", 3, "a")}, redo.Slot{Page: 3, Node: leaf("c", 4)}, redo.Slot{Page: 4, Node: leaf("", 0, "n")}),
		"no keys at all":          under(redo.Slot{Page: 2, Node: leaf("m", 3)}, redo.Slot{Page: 3, Node: leaf("c", 4)}, redo.Slot{Page: 4, Node: leaf("", 0)}),
		"back and on again":       under(redo.Slot{Page: 2, Node: leaf("m", 3, "k")}, redo.Slot{Page: 3, Node: leaf("c", 4)}, redo.Slot{Page: 4, Node: leaf("m", 5, "d")}, redo.Slot{Page: 5, Node: leaf("", 0, "n")}),
		"back behind a stop":      under(redo.Slot{Page: 2, Node: leaf("m", 3, "k")}, redo.Slot{Page: 3, Node: leaf("m", 4)}, redo.Slot{Page: 4, Node: leaf("c", 5)}, redo.Slot{Page: 5, Node: leaf("", 0, "d")}),
		"back to a beginning":     under(redo.Slot{Page: 2, Node: leaf("ma", 3, "k")}, redo.Slot{Page: 3, Node: leaf("m", 4)}, redo.Slot{Page: 4, Node: leaf("", 0, "m")}),
		"back by a byte from 128": under(redo.Slot{Page: 2, Node: leaf("\x80", 3, "k")}, redo.Slot{Page: 3, Node: leaf("\x7f", 4)}, redo.Slot{Page: 4, Node: leaf("", 0, "\x7f")}),
		"leaves that are kids": {
			{Page: 1, Node: inner(1, "", 0, []int{2, 4, 3}, "c", "m")}, {Page: 2, Node: leaf("m", 3, "k")}, {Page: 3, Node: leaf("c", 4)}, {Page: 4, Node: leaf("", 0, "d")},
		},
		"a leaf with a key below its low end": under(redo.Slot{Page: 2, Node: leaf("m", 3, "k")}, redo.Slot{Page: 3, Node: leaf("c", 4, "b")}, redo.Slot{Page: 4, Node: leaf("", 0, "d")}),
		"a leaf with a key beyond its High":   under(redo.Slot{Page: 2, Node: leaf("m", 3, "k")}, redo.Slot{Page: 3, Node: leaf("c", 4, "n")}, redo.Slot{Page: 4, Node: leaf("", 0, "d")}),
		"an inner page without keys": above(
			redo.Slot{Page: 2, Node: inner(1, "m", 3, []int{6, 7, 8}, "c", "d")}, redo.Slot{Page: 3, Node: inner(1, "c", 4, []int{9})}, redo.Slot{Page: 4, Node: inner(1, "", 0, []int{7, 9}, "m")}),
		"inner pages without keys": above(
			redo.Slot{Page: 2, Node: inner(1, "m", 3, []int{6})}, redo.Slot{Page: 3, Node: inner(1, "c", 4, []int{9})}, redo.Slot{Page: 4, Node: inner(1, "", 0, []int{7})}),
		"an inner page with a key below its low end": above(
			redo.Slot{Page: 2, Node: inner(1, "m", 3, []int{6})}, redo.Slot{Page: 3, Node: inner(1, "d", 4, []int{9, 7}, "c")}, redo.Slot{Page: 4, Node: inner(1, "", 0, []int{8})}),
		"an inner page with a key beyond its High": above(
			redo.Slot{Page: 2, Node: inner(1, "d", 3, []int{6})}, redo.Slot{Page: 3, Node: inner(1, "c", 4, []int{8, 9}, "m")}, redo.Slot{Page: 4, Node: inner(1, "", 0, []int{7})}),
		"both rows": {
			{Page: 1, Node: inner(2, "", 0, []int{2})},
			{Page: 2, Node: inner(1, "m", 3, []int{6})}, {Page: 3, Node: inner(1, "c", 4, []int{7})}, {Page: 4, Node: inner(1, "", 0, []int{8})},
			{Page: 6, Node: leaf("m", 7, "k")}, {Page: 7, Node: leaf("c", 8)}, {Page: 8, Node: leaf("", 0, "d")},
		},
	}
}

func TestRowsThatGoBack(t *testing.T) {
	for what, l := range rowsThatGoBack() {
		if isTree(l) {
			t.Errorf("%s: the model takes it", what)
		}
		wantNone(t, what, l)
	}
}

func TestPagesToWhichNoKeyBelongs(t *testing.T) {
	leaves := func() []redo.Slot {
		return []redo.Slot{
			{Page: 1, Node: inner(1, "", 0, []int{2, 3}, "m")}, {Page: 2, Node: leaf("m", 3, "a")},
			{Page: 3, Node: leaf("m", 4)}, {Page: 4, Node: leaf("m", 5)}, {Page: 5, Node: leaf("", 0, "m", "n")},
		}
	}
	for _, kid := range []int{3, 4, 5} { // all have the low end m
		l := leaves()
		at(l, 1).Kids[1] = kid
		wantTree(t, "leaves whose High is their low end", l, entries("a", "m", "n"))
	}
	wantTree(t, "an inner page whose High is its low end", []redo.Slot{
		{Page: 1, Node: inner(2, "", 0, []int{2, 3}, "m")},
		{Page: 2, Node: inner(1, "m", 3, []int{5})}, {Page: 3, Node: inner(1, "m", 4, []int{6})}, {Page: 4, Node: inner(1, "", 0, []int{6})},
		{Page: 5, Node: leaf("m", 6, "a")}, {Page: 6, Node: leaf("", 0, "m", "n")},
	}, entries("a", "m", "n"))
	l := leaves()
	*at(l, 3) = leaf("m", 4, "m")
	wantNone(t, "one that has a key nevertheless", l)
	l = leaves()
	*at(l, 4) = leaf("m", 5, "l")
	wantNone(t, "one that has a key below its low end", l)
}

// 13.2

func TestNew(t *testing.T) {
	x := blink.New()
	if l := x.Pages(); !sameSlots(l, []redo.Slot{{Page: 1}}) {
		t.Errorf("Pages: %v", l)
	}
	if n, ok := x.Page(1); !same(n, api.Node{}) || !ok {
		t.Errorf("Page(1): %v, %v", n, ok)
	}
	if x.Last() != 0 {
		t.Errorf("Last: %d", x.Last())
	}
	if l := x.Scan("", "", 9); len(l) != 0 {
		t.Errorf("Scan: %v", l)
	}
	mustSay(t, x, put(1, "a", "x"))
	if y := blink.New(); len(y.Scan("", "", 9)) != 0 || y.Last() != 0 {
		t.Error("two new trees are one")
	}
}

func TestPage(t *testing.T) {
	x := treeOf(t, sample())
	for p := -1; p <= 14; p++ {
		want, there := redo.Find(sample(), p)
		if n, ok := x.Page(p); !same(n, want) || ok != there {
			t.Errorf("Page(%d): %v, %v, not %v, %v", p, n, ok, want, there)
		}
	}
	for _, p := range []int{math.MinInt, api.MaxPages, api.MaxPages + 1, math.MaxInt} {
		if n, ok := x.Page(p); !same(n, api.Node{}) || ok {
			t.Errorf("Page(%d): %v, %v", p, n, ok)
		}
	}
	if p, e := x.Take(); p != 8 || e != api.OK {
		t.Fatalf("Take: %d, %v", p, e)
	}
	if _, ok := x.Page(8); ok || !sameSlots(x.Pages(), sample()) {
		t.Error("a page that was taken is there")
	}
	mustSay(t, x, fresh(8, leaf("x", 3, "c")))
	want := leaf("x", 3, "c")
	want.LSN = 1
	if n, ok := x.Page(8); !same(n, want) || !ok {
		t.Errorf("Page(8): %v, %v", n, ok)
	}
	pages := []int{}
	for _, s := range x.Pages() {
		pages = append(pages, s.Page)
	}
	if !slices.Equal(pages, []int{1, 2, 3, 4, 5, 6, 7, 8, 9, 12}) {
		t.Errorf("Pages: %v", pages)
	}
}

func TestLast(t *testing.T) {
	l := sample()
	at(l, 12).LSN, at(l, 1).LSN, at(l, 7).LSN = 9, 4, 8
	x := treeOf(t, l)
	if x.Last() != 9 {
		t.Errorf("Last: %d", x.Last())
	}
	mustSay(t, x, noop(), commit(), put(4, "a", "y"), noop())
	if x.Last() != 13 {
		t.Errorf("Last: %d", x.Last())
	}
	if n, _ := x.Page(4); n.LSN != 12 {
		t.Errorf("the page's LSN: %d", n.LSN)
	}
	// the records of no page are not in the pages
	if y := treeOf(t, x.Pages()); y.Last() != 12 {
		t.Errorf("Last: %d", y.Last())
	}
	mustSay(t, x, fresh(12, leaf("", 0)))
	if x.Last() != 14 {
		t.Errorf("Last behind a page that lost the greatest LSN: %d", x.Last())
	}
}

func TestTakeTakesTheLeast(t *testing.T) {
	x := treeOf(t, sample())
	for _, want := range []int{8, 10, 11, 13, 14} {
		if p, e := x.Take(); p != want || e != api.OK {
			t.Errorf("Take: %d, %v, not %d", p, e, want)
		}
	}
	// pages that come without having been taken
	mustSay(t, x, fresh(15, leaf("", 0)), fresh(17, leaf("", 0)), fresh(10, leaf("", 0)))
	for _, want := range []int{16, 18, 19} {
		if p, e := x.Take(); p != want || e != api.OK {
			t.Errorf("Take: %d, %v, not %d", p, e, want)
		}
	}
	// a record that is refused takes nothing
	for _, r := range []api.Record{put(20, "a", "x"), del(20, "a"), cut(20, "a", 1), post(20, "a", 1), {Kind: api.ReNew, Page: 20}} {
		if _, e := x.Say(r); e == api.OK {
			t.Errorf("Say(%v): %v", r, e)
		}
	}
	if p, e := x.Take(); p != 20 || e != api.OK {
		t.Errorf("Take: %d, %v", p, e)
	}
}

func TestTakeOfAllPages(t *testing.T) {
	x := blink.New()
	mustSay(t, x, fresh(api.MaxPages, leaf("", 0)), fresh(77, leaf("", 0)))
	for want := 2; want < api.MaxPages; want++ {
		if want == 77 {
			continue
		}
		if p, e := x.Take(); p != want || e != api.OK {
			t.Fatalf("Take: %d, %v, not %d", p, e, want)
		}
	}
	for range 3 {
		if p, e := x.Take(); p != 0 || e != api.ErrFull {
			t.Errorf("Take: %d, %v", p, e)
		}
	}
	if len(x.Pages()) != 3 {
		t.Errorf("Pages: %v", x.Pages())
	}
	l := []redo.Slot{{Page: 1}}
	for p := 2; p <= api.MaxPages; p++ {
		l = append(l, redo.Slot{Page: p})
	}
	if p, e := treeOf(t, l).Take(); p != 0 || e != api.ErrFull {
		t.Errorf("Take with all pages there: %d, %v", p, e)
	}
	y := treeOf(t, without(l, api.MaxPages))
	if p, e := y.Take(); p != api.MaxPages || e != api.OK {
		t.Errorf("Take with one page left: %d, %v", p, e)
	}
	if p, e := y.Take(); p != 0 || e != api.ErrFull {
		t.Errorf("Take with none left: %d, %v", p, e)
	}
}

// 13.3

func TestSayOfEachKind(t *testing.T) {
	x := treeOf(t, sample())
	began := x.Pages()
	said := []api.Record{
		{LSN: 1, Kind: api.ReNoop},
		{LSN: 2, Epoch: 7, Kind: api.RePut, Page: 4, Key: "aa", Value: "1"},
		{LSN: 3, Kind: api.RePut, Page: 4, Key: "aa", Value: "2"},
		{LSN: 4, Epoch: 1, Kind: api.ReDel, Page: 4, Key: "b"},
		{LSN: 5, Kind: api.ReDel, Page: 4, Key: "bb"},
		{LSN: 6, Kind: api.ReNew, Page: 8, Value: image(leaf("", 0, "z"))},
		{LSN: 7, Kind: api.ReCut, Page: 7, Key: "t", Other: 8},
		{LSN: 8, Kind: api.RePost, Page: 3, Key: "t", Other: 8},
		{LSN: 9, Kind: api.ReCommit, Other: 2, Req: 3, Key: "z"},
		{LSN: 10, Epoch: api.MaxLSN, Kind: api.ReCommit, Other: 1, Req: 4, Key: "z", Value: "v"},
	}
	for i, want := range said {
		r := want
		r.LSN = []int{0, -1, 99, want.LSN, math.MaxInt}[i%5] // whatever it says
		if got, e := x.Say(r); got != want || e != api.OK {
			t.Errorf("Say(%v): %v, %v, not %v", r, got, e, want)
		}
		if x.Last() != i+1 {
			t.Errorf("Last behind %v: %d", r, x.Last())
		}
		if l, e := redo.Replay(began, said[:i+1]); !sameSlots(x.Pages(), l) || e != api.OK {
			t.Errorf("behind %v: %v, not %v (%v)", r, x.Pages(), l, e)
		}
	}
	want := []api.Entry{{Key: "a", Value: "va"}, {Key: "aa", Value: "2"}, {Key: "c", Value: "vc"}, {Key: "d", Value: "vd"}, {Key: "f", Value: "vf"}, {Key: "g", Value: "vg"}, {Key: "r", Value: "vr"}, {Key: "z", Value: "vz"}}
	if got := x.Scan("", "", 99); !slices.Equal(got, want) {
		t.Errorf("Scan: %v, not %v", got, want)
	}
}

// fullLeaf is a leaf without a bound that has no room for a value more.
func fullLeaf() api.Node {
	n := leaf("", 0)
	for _, k := range []string{"a", "b", "c", "d", "e", "f"} {
		n.Keys, n.Vals = append(n.Keys, k), append(n.Vals, long("v", 32))
	}
	return n
}

// fullInner is an inner node that has no room for a key of 16 bytes more.
func fullInner() api.Node {
	n := inner(1, "", 0, []int{2})
	for _, c := range "abcdefghij" {
		n.Keys, n.Kids = append(n.Keys, long(string(c), 16)), append(n.Kids, 2)
	}
	return n
}

func TestSayOfEachError(t *testing.T) {
	x := treeOf(t, sample())
	mustSay(t, x, fresh(10, fullLeaf()), fresh(11, fullInner()), noop())
	pages, last := x.Pages(), x.Last()
	torn := image(leaf("", 0))
	torn = torn[:255] + string([]byte{torn[255] ^ 1})
	dated, _ := page.Encode(api.Node{LSN: 1})
	for _, c := range []struct {
		r    api.Record
		want api.Errno
	}{
		{api.Record{}, api.ErrRecord},
		{api.Record{LSN: 5, Kind: 8}, api.ErrRecord},
		{api.Record{LSN: 5, Kind: -1}, api.ErrRecord},
		{api.Record{Kind: api.ReNoop, Page: 1}, api.ErrRecord},
		{api.Record{Kind: api.ReNoop, Epoch: -1}, api.ErrRecord},
		{api.Record{Kind: api.ReNoop, Epoch: api.MaxLSN + 1}, api.ErrRecord},
		{api.Record{Kind: api.ReCommit, Other: 1, Key: "a"}, api.ErrRecord},
		{api.Record{Kind: api.ReCommit, Other: 3, Req: 1, Key: "a"}, api.ErrRecord},
		{put(0, "a", "x"), api.ErrRecord},
		{put(api.MaxPages+1, "a", "x"), api.ErrRecord},
		{put(4, "", "x"), api.ErrRecord},
		{put(4, long("a", 17), "x"), api.ErrRecord},
		{put(4, "a", long("x", 33)), api.ErrRecord},
		{put(99, "", "x"), api.ErrRecord}, // ahead of there being no page
		{del(4, ""), api.ErrRecord},
		{cut(4, "a", 0), api.ErrRecord},
		{post(2, "a", 0), api.ErrRecord},
		{api.Record{Kind: api.ReNew, Page: 8}, api.ErrRecord},
		{api.Record{Kind: api.ReNew, Page: 8, Value: torn}, api.ErrRecord},
		{api.Record{Kind: api.ReNew, Page: 8, Value: string(dated)}, api.ErrRecord},
		{put(99, "a", "x"), api.ErrNone},
		{del(99, "a"), api.ErrNone},
		{cut(99, "a", 1), api.ErrNone},
		{post(99, "a", 1), api.ErrNone},
		{put(4, "c", "x"), api.ErrRecord},                    // it belongs further right
		{put(2, "c", "x"), api.ErrRecord},                    // no leaf
		{put(10, "g", long("v", 32)), api.ErrRecord},         // no room
		{del(4, "c"), api.ErrRecord},                         // further right
		{del(2, "a"), api.ErrRecord},                         // no leaf
		{cut(4, "c", 9), api.ErrRecord},                      // further right
		{cut(2, "c", 9), api.ErrRecord},                      // no key of it
		{post(4, "b", 9), api.ErrRecord},                     // a leaf
		{post(2, "m", 9), api.ErrRecord},                     // further right
		{post(2, "f", 9), api.ErrRecord},                     // another kid
		{post(11, long("k", 16), 9), api.ErrRecord},          // no room
		{fresh(4, leaf("", 0, "a")), api.OK},                 // the last one is right
		{api.Record{Kind: 9, Page: 1}, api.ErrRecord},        // and behind it
		{api.Record{Kind: api.ReNoop, Other: 1}, 90},         // by its number
		{api.Record{Kind: api.RePut, Page: 98, Key: "a"}, 6}, // by its number
	} {
		if c.want == api.OK {
			mustSay(t, x, c.r)
			pages, last = x.Pages(), x.Last()
			continue
		}
		if r, e := x.Say(c.r); r != (api.Record{}) || e != c.want {
			t.Errorf("Say(%v): %v, %v, not %v", c.r, r, e, c.want)
		}
		if !sameSlots(x.Pages(), pages) || x.Last() != last {
			t.Errorf("Say(%v) was refused, but changed something", c.r)
		}
	}
	if p, e := x.Take(); p != 8 || e != api.OK {
		t.Errorf("Take: %d, %v", p, e)
	}
}

func TestSayAtTheLastLSN(t *testing.T) {
	x := treeOf(t, []redo.Slot{{Page: 1, Node: api.Node{LSN: api.MaxLSN - 1}}})
	mustSay(t, x, put(1, "a", "x"))
	for _, r := range []api.Record{put(1, "a", "y"), noop(), commit(), fresh(2, leaf("", 0))} {
		r.LSN = 1
		if got, e := x.Say(r); got != (api.Record{}) || e != api.ErrRecord {
			t.Errorf("Say(%v): %v, %v", r, got, e)
		}
	}
	if v, ok := x.Get("a"); v != "x" || !ok || x.Last() != api.MaxLSN {
		t.Errorf("Get: %q, %v; Last: %d", v, ok, x.Last())
	}
}

// A cut may give a page a bound with which it does not fit any more (chapter 7): the pages are no tree then, and no record is done to that page.
func TestSayToAPageThatIsNotRight(t *testing.T) {
	n := leaf("", 0)
	for _, k := range []string{"a", "b", "c", "d", "e", "f"} {
		n.Keys, n.Vals = append(n.Keys, k), append(n.Vals, long("v", 32))
	}
	x := treeOf(t, []redo.Slot{{Page: 1, Node: n}})
	mustSay(t, x, cut(1, long("f", 16), 2))
	last := x.Last()
	for _, r := range []api.Record{put(1, "a", "x"), del(1, "a"), fresh(1, leaf("", 0)), cut(1, "b", 2), post(1, "b", 2)} {
		if got, e := x.Say(r); got != (api.Record{}) || e != api.ErrNode {
			t.Errorf("Say(%v): %v, %v", r, got, e)
		}
	}
	if x.Last() != last {
		t.Errorf("Last: %d", x.Last())
	}
	if v, ok := x.Get("a"); v != "" || ok || len(x.Scan("", "", 9)) != 0 {
		t.Errorf("Get: %q, %v", v, ok)
	}
	mustSay(t, x, noop(), fresh(2, leaf("", 0)))
}

func TestGet(t *testing.T) {
	x := treeOf(t, sample())
	for _, k := range []string{"a", "b", "c", "d", "f", "g", "r", "z"} {
		if v, ok := x.Get(k); v != "v"+k || !ok {
			t.Errorf("Get(%s): %q, %v", k, v, ok)
		}
	}
	for _, k := range []string{"", "aa", "A", "e", "m", "n", "y", "zz", "\xff", long("a", 17), long("z", 500)} {
		if v, ok := x.Get(k); v != "" || ok {
			t.Errorf("Get(%q): %q, %v", k, v, ok)
		}
	}
	mustSay(t, x, put(6, "m", ""))
	if v, ok := x.Get("m"); v != "" || !ok {
		t.Errorf("Get of an empty value: %q, %v", v, ok)
	}
	mustSay(t, x, del(6, "m"), put(4, "a", "new"))
	if _, ok := x.Get("m"); ok {
		t.Error("Get finds what was deleted")
	}
	if v, _ := x.Get("a"); v != "new" {
		t.Errorf("Get(a): %q", v)
	}
}

func TestScan(t *testing.T) {
	x := treeOf(t, sample())
	all := []string{"a", "b", "c", "d", "f", "g", "r", "z"}
	bounds := []string{"", "A", "a", "aa", "b", "c", "cz", "d", "e", "f", "m", "q", "r", "z", "zz", "\xff", long("c", 40)}
	for _, from := range bounds {
		for _, below := range bounds {
			var want []string
			for _, k := range all {
				if k >= from && (below == "" || k < below) {
					want = append(want, k)
				}
			}
			for _, most := range []int{math.MinInt, -1, 0, 1, 2, 3, 7, 8, 9, 1000, math.MaxInt} {
				w := entries(want[:max(0, min(most, len(want)))]...)
				if got := x.Scan(from, below, most); !slices.Equal(got, w) {
					t.Errorf("Scan(%q, %q, %d): %v, not %v", from, below, most, got, w)
				}
			}
		}
	}
}

func TestPagesThatAreNoTreeAnyMore(t *testing.T) {
	for _, rs := range [][]api.Record{
		{put(9, "a", "x")},                                    // below its low end
		{fresh(9, leaf("", 0, "c"))},                          // the row ends
		{fresh(7, leaf("zz", 0, "r"))},                        // a High at the end
		{fresh(1, leaf("a", 0))},                              // the root has a High
		{cut(7, "t", 99)},                                     // a page that is not there
		{fresh(4, leaf("c", 4, "a"))},                         // the row goes round
		{post(3, "s", 9)},                                     // a kid of another low end
		{fresh(2, inner(2, "m", 3, []int{4, 5}, "f"))},        // another level
		{fresh(8, leaf("f", 5, "d")), fresh(9, leaf("b", 8))}, // the row of leaves goes back
		{fresh(10, inner(1, "m", 3, []int{5})), fresh(8, inner(1, "f", 10, []int{6})), fresh(2, inner(1, "m", 8, []int{4, 5}, "f"))}, // an inner row does
	} {
		x := treeOf(t, sample())
		mustSay(t, x, rs...)
		if e := blink.Check(x.Pages()); e != api.ErrTree {
			t.Errorf("%v: Check: %v", rs, e)
		}
		for _, k := range []string{"a", "d", "r", ""} {
			if v, ok := x.Get(k); v != "" || ok {
				t.Errorf("%v: Get(%s): %q, %v", rs, k, v, ok)
			}
		}
		if l := x.Scan("", "", 99); len(l) != 0 {
			t.Errorf("%v: Scan: %v", rs, l)
		}
	}
	// and a tree again
	x := treeOf(t, sample())
	mustSay(t, x, put(9, "a", "x"), del(9, "a"))
	if v, ok := x.Get("d"); v != "vd" || !ok {
		t.Errorf("Get(d): %q, %v", v, ok)
	}
}

func TestANilTree(t *testing.T) {
	var x *blink.Tree
	for _, r := range []api.Record{noop(), commit(), put(1, "a", "x"), del(1, "a"), fresh(1, leaf("", 0)), cut(1, "a", 2), post(1, "a", 2)} {
		if got, e := x.Say(r); got != (api.Record{}) || e != api.ErrNone {
			t.Errorf("Say(%v): %v, %v", r, got, e)
		}
		r.Epoch = -1
		if got, e := x.Say(r); got != (api.Record{}) || e != api.ErrRecord {
			t.Errorf("Say(%v): %v, %v", r, got, e)
		}
	}
	if _, e := x.Say(api.Record{}); e != api.ErrRecord {
		t.Errorf("Say of nothing: %v", e)
	}
	if l := x.Pages(); len(l) != 0 {
		t.Errorf("Pages: %v", l)
	}
	if n, ok := x.Page(1); !same(n, api.Node{}) || ok {
		t.Errorf("Page: %v, %v", n, ok)
	}
	if p, e := x.Take(); p != 0 || e != api.ErrFull || x.Last() != 0 {
		t.Errorf("Take: %d, %v; Last: %d", p, e, x.Last())
	}
	if v, ok := x.Get("a"); v != "" || ok || len(x.Scan("", "", 9)) != 0 {
		t.Errorf("Get: %q, %v", v, ok)
	}
}

// 13.4

// wantRisingAndFound tells whether the entries of pages that are taken for a tree rise, and Get and Scan tell what they say.
func wantRisingAndFound(t *testing.T, rd *rand.Rand, l []redo.Slot) {
	t.Helper()
	x := treeOf(t, l)
	all, _ := blink.Entries(l)
	for i := range all[min(1, len(all)):] {
		if all[i].Key >= all[i+1].Key {
			t.Fatalf("the keys do not rise: %v", all)
		}
	}
	for _, k := range append(randomKeys(rd, 20), "", "z") {
		i := slices.IndexFunc(all, func(e api.Entry) bool { return e.Key == k })
		v, ok := x.Get(k)
		if ok != (i >= 0) || ok && v != all[i].Value || !ok && v != "" {
			t.Fatalf("Get(%s): %q, %v of %v", k, v, ok, all)
		}
	}
	bounds := append(randomKeys(rd, 4), "")
	from, below, most := bounds[rd.Intn(len(bounds))], bounds[rd.Intn(len(bounds))], rd.Intn(9)
	var want []api.Entry
	for _, e := range all {
		if e.Key >= from && (below == "" || e.Key < below) && len(want) < most {
			want = append(want, e)
		}
	}
	if got := x.Scan(from, below, most); !slices.Equal(got, want) {
		t.Fatalf("Scan(%s, %s, %d): %v, not %v", from, below, most, got, want)
	}
}

func TestEntriesRiseAndAreFound(t *testing.T) {
	rd := rand.New(rand.NewSource(2))
	notKids := 0
	for range 3000 {
		l := randomTree(rd, 1+rd.Intn(4))
		wantRisingAndFound(t, rd, l)
		kids := 0
		for _, s := range l {
			kids += len(s.Node.Kids)
		}
		if kids+1 < len(l) {
			notKids++
		}
	}
	if notKids < 1000 {
		t.Errorf("only %d trees have a page that is no kid", notKids)
	}
}

// repeated are rows in which some low ends come again: beside themselves, so that High is the low end, or further on, so that the row goes back.
func repeated(rd *rand.Rand, rows [][]string) [][]string {
	for i, row := range rows[:len(rows)-1] {
		for range rd.Intn(3) {
			if len(row) > 1 {
				from := 1 + rd.Intn(len(row)-1)
				to := from
				if rd.Intn(3) == 0 {
					to = 1 + rd.Intn(len(row))
				}
				row = slices.Insert(row, to, row[from])
			}
		}
		rows[i] = row
	}
	return rows
}

func TestWhateverIsTakenForATreeHasKeysThatRise(t *testing.T) {
	rd := rand.New(rand.NewSource(4))
	stop, back := 0, 0
	for range 6000 {
		rows := repeated(rd, randomRows(rd, 2+rd.Intn(3)))
		l := pagesOf(rd, rows)
		if blink.Check(l) == api.OK {
			wantRisingAndFound(t, rd, l)
		}
		switch {
		case slices.ContainsFunc(rows, func(row []string) bool { return !slices.IsSorted(row) }):
			back++
			wantNone(t, "a row that goes back", l)
		case slices.ContainsFunc(rows, func(row []string) bool { return len(slices.Compact(slices.Clone(row))) < len(row) }):
			stop++
			wantTree(t, "a row with a page to which no key belongs", l, modelEntries(l))
		}
		if t.Failed() {
			t.Fatalf("pages: %v", l)
		}
	}
	if stop < 1000 || back < 1000 {
		t.Errorf("%d rows with such a page, %d that go back: too few", stop, back)
	}
}

// 13.5

// randomRecord is a record of any kind, of pages that are there or not; often one that is refused.
func randomRecord(rd *rand.Rand) api.Record {
	p, q, k := 1+rd.Intn(14), 1+rd.Intn(14), randomKeys(rd, 1)[0]
	switch rd.Intn(8) {
	case 0:
		return noop()
	case 1:
		return commit()
	case 2:
		return del(p, k)
	case 3:
		n := leaf("", rd.Intn(3), randomKeys(rd, rd.Intn(6))...)
		if rd.Intn(2) == 0 {
			n = inner(1, "", 0, []int{p, q}, k)
		}
		return fresh(p, n)
	case 4:
		return cut(p, k, q)
	case 5:
		return post(p, k, q)
	case 6:
		return api.Record{Kind: rd.Intn(9), Page: p, Other: rd.Intn(2), Key: k}
	}
	return put(p, k, strings.Repeat("w", rd.Intn(34)))
}

func TestWhatWasSaidReplayedComesToThePages(t *testing.T) {
	rd := rand.New(rand.NewSource(3))
	trees, refused := 0, 0
	for range 300 {
		began := sample()
		if rd.Intn(2) == 0 {
			began = randomTree(rd, 1+rd.Intn(3))
		}
		x := treeOf(t, began)
		last := x.Last()
		var said []api.Record
		for range 40 {
			r := randomRecord(rd)
			pages := x.Pages()
			got, e := x.Say(r)
			if e != api.OK {
				refused++
				if !sameSlots(x.Pages(), pages) || x.Last() != last {
					t.Fatalf("Say(%v): %v, but something changed", r, e)
				}
				continue
			}
			last++
			r.LSN = last
			if got != r || x.Last() != last {
				t.Fatalf("Say: %v, not %v; Last %d", got, r, x.Last())
			}
			said = append(said, got)
			l, e := redo.Replay(began, said)
			if e != api.OK || !sameSlots(l, x.Pages()) {
				t.Fatalf("replayed: %v, %v, not %v", l, e, x.Pages())
			}
			wantWhatPagesSay(t, x)
			if isTree(l) {
				trees++
			}
		}
	}
	if trees < 1000 || refused < 1000 {
		t.Errorf("%d trees and %d that were refused are too few", trees, refused)
	}
}

// wantWhatPagesSay tells whether Get and Scan are what a tree's pages say, by the chapter's text.
func wantWhatPagesSay(t *testing.T, x *blink.Tree) {
	t.Helper()
	l := x.Pages()
	var want []api.Entry
	if isTree(l) {
		want = modelEntries(l)
	}
	if got := x.Scan("", "", 9999); !slices.Equal(got, want) {
		t.Fatalf("Scan of %v: %v, not %v", l, got, want)
	}
	for _, s := range l {
		for _, k := range s.Node.Keys {
			i := slices.IndexFunc(want, func(e api.Entry) bool { return e.Key == k })
			if v, ok := x.Get(k); ok != (i >= 0) || ok && v != want[i].Value {
				t.Fatalf("Get(%s) of %v: %q, %v", k, l, v, ok)
			}
		}
	}
}

// R3, R6

// scribble writes over all that lists have, spare room too.
func scribble(l []redo.Slot) {
	l = l[:cap(l)]
	for i := range l {
		n := &l[i].Node
		for _, texts := range [][]string{n.Keys[:cap(n.Keys)], n.Vals[:cap(n.Vals)]} {
			for j := range texts {
				texts[j] = "scribble"
			}
		}
		kids := n.Kids[:cap(n.Kids)]
		for j := range kids {
			kids[j] = -7
		}
		l[i] = redo.Slot{Page: -9, Node: api.Node{Level: 99}}
	}
}

// roomy are pages with spare room in all their lists.
func roomy(l []redo.Slot) []redo.Slot {
	l = append(make([]redo.Slot, 0, len(l)+5), l...)
	for i := range l {
		n := &l[i].Node
		n.Keys, n.Vals, n.Kids = append(make([]string, 0, len(n.Keys)+4), n.Keys...), append(make([]string, 0, len(n.Vals)+4), n.Vals...), append(make([]int, 0, len(n.Kids)+4), n.Kids...)
	}
	return l
}

func TestNothingIsShared(t *testing.T) {
	l := roomy(sample())
	whole := l[:cap(l)]
	spare := copied(whole)
	x := treeOf(t, l)
	blink.Check(l)
	all, _ := blink.Entries(l)
	mustSay(t, x, put(4, "aa", "1"), del(9, "c"), fresh(8, leaf("", 0, "z")), cut(7, "t", 8), post(3, "t", 8), fresh(12, leaf("", 0)))
	if !sameSlots(whole, spare) {
		t.Error("what was handed in was changed")
	}
	for i := range l {
		for _, texts := range [][]string{l[i].Node.Keys, l[i].Node.Vals} {
			for _, s := range texts[len(texts):cap(texts)] {
				if s != "" {
					t.Errorf("spare room was written to: %q", s)
				}
			}
		}
	}
	pages, scan := x.Pages(), x.Scan("", "", 99)
	scribble(l)
	if !slices.Equal(all, entries("a", "b", "c", "d", "f", "g", "r", "z")) {
		t.Errorf("Entries share memory: %v", all)
	}
	wantSame := func(what string) {
		t.Helper()
		if !sameSlots(x.Pages(), pages) || !slices.Equal(x.Scan("", "", 99), scan) {
			t.Errorf("%s: %v, not %v", what, x.Pages(), pages)
		}
	}
	wantSame("what was handed in was kept")
	told := x.Pages()
	scribble(told)
	wantSame("Pages shares memory with the tree, or with another answer")
	for _, s := range pages {
		n, _ := x.Page(s.Page)
		scribble([]redo.Slot{{Page: s.Page, Node: n}})
	}
	wantSame("Page shares memory with the tree")
	es := x.Scan("", "", 99)
	es = es[:cap(es)]
	for i := range es {
		es[i] = api.Entry{Key: "scribble"}
	}
	wantSame("Scan shares memory")
	mustSay(t, x, put(4, "ab", "1"), put(9, "e", "2"))
	if _, ok := redo.Find(pages, 4); !ok || slices.Contains(pages[3].Node.Keys, "ab") {
		t.Error("what was told changes with the tree")
	}
}

func TestListsOfOneAnswerShareNothing(t *testing.T) {
	x := treeOf(t, sample())
	for i := range x.Pages() {
		l := x.Pages()
		scribble(l[i : i+1 : i+1])
		for j, s := range l {
			if j != i && !same(s.Node, sample()[j].Node) {
				t.Errorf("page %d shares memory with page %d", s.Page, sample()[i].Page)
			}
		}
	}
}

func TestTreesOfTheSamePagesAreTheirOwn(t *testing.T) {
	l := sample()
	x, y := treeOf(t, l), treeOf(t, l)
	mustSay(t, x, put(4, "aa", "1"), fresh(8, leaf("", 0)))
	if !sameSlots(y.Pages(), sample()) || y.Last() != 0 {
		t.Error("two trees share their pages")
	}
	if p, _ := y.Take(); p != 8 {
		t.Errorf("Take: %d", p)
	}
}

// The chapter's examples.

func TestExamples(t *testing.T) {
	x := blink.New()
	mustSay(t, x, put(1, "a", "x"))
	if v, ok := x.Get("a"); v != "x" || !ok {
		t.Errorf("Get(a): %q, %v", v, ok)
	}
	l := []redo.Slot{{Page: 1, Node: inner(1, "", 0, []int{2})}, {Page: 2, Node: leaf("m", 3, "a")}, {Page: 3, Node: leaf("", 0, "n")}}
	wantTree(t, "3 is no kid", l, entries("a", "n"))
}
