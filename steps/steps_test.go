package steps_test

import (
	"fmt"
	"maps"
	"math"
	"math/rand"
	"slices"
	"strings"
	"testing"

	"lattice/api"
	"lattice/blink"
	"lattice/node"
	"lattice/page"
	"lattice/redo"
	"lattice/steps"
)

// long is a text of n bytes that begins with a letter.
func long(letter string, n int) string { return letter + strings.Repeat("x", n-len(letter)) }

// big is a value of which six fit in a leaf.
var big = long("v", 32)

// wide is a key of 16 bytes: all of them are the same up to their ends, so that keys between them are as long.
func wide(i int) string { return fmt.Sprintf("wide-key-%07d", i) }

func same(a, b api.Node) bool {
	return a.Level == b.Level && a.LSN == b.LSN && a.Right == b.Right && a.High == b.High &&
		slices.Equal(a.Keys, b.Keys) && slices.Equal(a.Vals, b.Vals) && slices.Equal(a.Kids, b.Kids)
}

func sameSlots(a, b []redo.Slot) bool {
	return slices.EqualFunc(a, b, func(x, y redo.Slot) bool { return x.Page == y.Page && same(x.Node, y.Node) })
}

func sameResult(a, b steps.Result) bool {
	return a.Failed == b.Failed && a.Found == b.Found && a.Value == b.Value && slices.Equal(a.Entries, b.Entries)
}

func get(k string) api.Op            { return api.Op{Kind: api.OpGet, Key: k} }
func put(k, v string) api.Op         { return api.Op{Kind: api.OpPut, Key: k, Value: v} }
func del(k string) api.Op            { return api.Op{Kind: api.OpDel, Key: k} }
func scan(from, below string) api.Op { return api.Op{Kind: api.OpScan, Key: from, Value: below} }

// leaf is a leaf of keys with big values.
func leaf(high string, right int, keys ...string) api.Node {
	n := api.Node{High: high, Right: right, Keys: keys}
	for range keys {
		n.Vals = append(n.Vals, big)
	}
	return n
}

func inner(level int, high string, right int, kids []int, keys ...string) api.Node {
	return api.Node{Level: level, High: high, Right: right, Kids: kids, Keys: keys}
}

// letters are the letters of a text, each a key.
func letters(s string) []string { return strings.Split(s, "") }

// fullRoot is a tree whose root is a leaf without room for another big value.
func fullRoot() []redo.Slot { return []redo.Slot{{Page: 1, Node: leaf("", 0, letters("bdfhjl")...)}} }

// twoFull is a tree of two full leaves under its root.
func twoFull() []redo.Slot {
	return []redo.Slot{
		{Page: 1, Node: inner(1, "", 0, []int{2, 3}, "m")},
		{Page: 2, Node: leaf("m", 3, letters("bdfhj")...)},
		{Page: 3, Node: leaf("", 0, letters("mprtvx")...)},
	}
}

// image is the page of a node whose LSN is 0, as a record has it.
func image(n api.Node) string {
	n.LSN = 0
	b, e := page.Encode(n)
	if e != api.OK {
		panic(e)
	}
	return string(b)
}

func treeOf(t *testing.T, l []redo.Slot) *blink.Tree {
	t.Helper()
	x, e := blink.Of(l)
	if e != api.OK {
		t.Fatalf("Of(%v): %v", l, e)
	}
	return x
}

// exhaust takes all pages of a tree but so many.
func exhaust(t *testing.T, x *blink.Tree, left int) {
	t.Helper()
	free := api.MaxPages - len(x.Pages())
	for range free - left {
		if _, e := x.Take(); e != api.OK {
			t.Fatal(e)
		}
	}
}

func rePut(lsn, p int, k, v string) api.Record {
	return api.Record{LSN: lsn, Kind: api.RePut, Page: p, Key: k, Value: v}
}

func reDel(lsn, p int, k string) api.Record {
	return api.Record{LSN: lsn, Kind: api.ReDel, Page: p, Key: k}
}

func reNew(lsn, p int, n api.Node) api.Record {
	return api.Record{LSN: lsn, Kind: api.ReNew, Page: p, Value: image(n)}
}

func reCut(lsn, p int, k string, other int) api.Record {
	return api.Record{LSN: lsn, Kind: api.ReCut, Page: p, Key: k, Other: other}
}

func rePost(lsn, p int, k string, other int) api.Record {
	return api.Record{LSN: lsn, Kind: api.RePost, Page: p, Key: k, Other: other}
}

func found(is bool) steps.Result { return steps.Result{Result: api.Result{Found: is}} }

func failed() steps.Result { return steps.Result{Failed: true} }

func told(keys ...string) steps.Result {
	var r steps.Result
	for _, k := range keys {
		r.Entries = append(r.Entries, api.Entry{Key: k, Value: big})
	}
	return r
}

// script steps machines by hand.
type script struct {
	t    *testing.T
	tree *blink.Tree
	s    *steps.Steps
}

func begin(t *testing.T, l []redo.Slot) script {
	t.Helper()
	x := treeOf(t, l)
	return script{t, x, steps.New(x)}
}

func (c script) begin(op api.Op) int {
	c.t.Helper()
	id, e := c.s.Begin(op)
	if e != api.OK {
		c.t.Fatalf("Begin(%v): %v", op, e)
	}
	return id
}

// says does a step and tells whether it said just this, and whether the machine is over behind it.
func (c script) says(id int, isOver bool, want ...api.Record) {
	c.t.Helper()
	got, e := c.s.Step(id)
	if !slices.Equal(got, want) || e != api.OK {
		c.t.Fatalf("Step(%d): %v, %v, not %v", id, got, e, want)
	}
	if slices.Contains(c.s.Running(), id) == isOver {
		c.t.Fatalf("Running behind a step of %d: %v", id, c.s.Running())
	}
	if e := blink.Check(c.tree.Pages()); e != api.OK {
		c.t.Fatalf("behind a step of %d: %v: %v", id, e, c.tree.Pages())
	}
}

// moves are steps that say nothing and end nothing.
func (c script) moves(id, n int) {
	c.t.Helper()
	for range n {
		c.says(id, false)
	}
}

func (c script) has(id int, want steps.Result) {
	c.t.Helper()
	if got, ok := c.s.Result(id); !sameResult(got, want) || !ok {
		c.t.Errorf("Result(%d): %v, %v, not %v", id, got, ok, want)
	}
}

func (c script) hasNone(id int) {
	c.t.Helper()
	if got, ok := c.s.Result(id); !sameResult(got, steps.Result{}) || ok {
		c.t.Errorf("Result(%d): %v, %v", id, got, ok)
	}
}

// holds tells whether the tree's entries have just these keys.
func (c script) holds(keys ...string) {
	c.t.Helper()
	var got []string
	for _, e := range c.tree.Scan("", "", math.MaxInt) {
		got = append(got, e.Key)
	}
	if !slices.Equal(got, keys) {
		c.t.Errorf("the tree holds %v, not %v", got, keys)
	}
}

// 14.1

func TestWrongOperations(t *testing.T) {
	c := begin(t, fullRoot())
	long16, long17 := long("k", 16), long("k", 17)
	for _, op := range []api.Op{
		{}, {Kind: 0, Key: "a"}, {Kind: 5, Key: "a"}, {Kind: -1, Key: "a"}, {Kind: math.MaxInt, Key: "a"}, {Kind: math.MinInt, Key: "a"},
		get(""), get(long17), {Kind: api.OpGet, Key: "a", Value: "x"},
		put("", "x"), put(long17, "x"), put("a", long("v", 33)), put("", long("v", 33)),
		del(""), del(long17), {Kind: api.OpDel, Key: "a", Value: "x"},
		scan(long17, ""), scan("", long17), scan("a", long17), scan(long17, "a"), scan(long("k", 500), ""),
	} {
		if id, e := c.s.Begin(op); id != 0 || e != api.ErrArg {
			t.Errorf("Begin(%v): %d, %v", op, id, e)
		}
		if r, l, e := c.s.Do(op); !sameResult(r, steps.Result{}) || l != nil || e != api.ErrArg {
			t.Errorf("Do(%v): %v, %v, %v", op, r, l, e)
		}
	}
	if l := c.s.Running(); len(l) != 0 {
		t.Errorf("Running: %v", l)
	}
	for want, op := range []api.Op{
		get("a"), get(long16), put("a", ""), put(long16, long("v", 32)), del(long16), scan("", ""), scan(long16, long16), scan("b", "a"),
	} {
		if id, e := c.s.Begin(op); id != want || e != api.OK {
			t.Errorf("Begin(%v): %d, %v, not %d", op, id, e, want)
		}
	}
}

func TestEightMachinesAndNoMore(t *testing.T) {
	if steps.MaxRunning != 8 {
		t.Errorf("MaxRunning: %d", steps.MaxRunning)
	}
	c := begin(t, fullRoot())
	for want := range 8 {
		if id := c.begin(put("a", "x")); id != want {
			t.Errorf("Begin: %d, not %d", id, want)
		}
	}
	wantFull := func() {
		t.Helper()
		if id, e := c.s.Begin(get("a")); id != 0 || e != api.ErrFull {
			t.Errorf("Begin: %d, %v", id, e)
		}
		if r, l, e := c.s.Do(get("a")); !sameResult(r, steps.Result{}) || l != nil || e != api.ErrFull {
			t.Errorf("Do: %v, %v, %v", r, l, e)
		}
		if _, e := c.s.Begin(get("")); e != api.ErrArg {
			t.Errorf("Begin of a wrong one: %v", e)
		}
	}
	wantFull()
	c.says(3, false, rePut(1, 1, "a", "x"))
	wantFull() // a result is not yet the end
	c.says(3, true)
	if l := c.s.Running(); !slices.Equal(l, []int{0, 1, 2, 4, 5, 6, 7}) {
		t.Errorf("Running: %v", l)
	}
	if id := c.begin(get("a")); id != 8 { // one that was refused has no number
		t.Errorf("Begin: %d", id)
	}
	wantFull()
	if l := c.s.Running(); !slices.Equal(l, []int{0, 1, 2, 4, 5, 6, 7, 8}) {
		t.Errorf("Running: %v", l)
	}
	c.says(8, true)
	if r, _, e := c.s.Do(get("b")); e != api.OK || !r.Found {
		t.Errorf("Do: %v, %v", r, e)
	}
	if id := c.begin(get("a")); id != 10 { // what was done alone had a number
		t.Errorf("Begin: %d", id)
	}
}

func TestNumbersThatAreNone(t *testing.T) {
	c := begin(t, fullRoot())
	wantNone := func(id int) {
		t.Helper()
		if l, e := c.s.Step(id); l != nil || e != api.ErrNone {
			t.Errorf("Step(%d): %v, %v", id, l, e)
		}
		c.hasNone(id)
	}
	wantNone(0)
	id := c.begin(get("b"))
	c.hasNone(id)
	for _, id := range []int{math.MinInt, -1, 1, 2, 99, math.MaxInt} {
		wantNone(id)
	}
	want := steps.Result{Result: api.Result{Found: true, Value: big}}
	c.says(id, true)
	for range 2 {
		c.has(id, want)
		if l, e := c.s.Step(id); l != nil || e != api.ErrState {
			t.Errorf("Step of one that is over: %v, %v", l, e)
		}
	}
	wantNone(1)
	if c.tree.Last() != 0 {
		t.Errorf("Last: %d", c.tree.Last())
	}
}

func TestStepsOnOneLeaf(t *testing.T) {
	c := begin(t, []redo.Slot{{Page: 1}})
	a := c.begin(put("b", "x"))
	c.hasNone(a)
	c.says(a, false, rePut(1, 1, "b", "x"))
	c.has(a, found(false))
	c.says(a, true)
	c.has(a, found(false))
	b := c.begin(put("b", "y"))
	c.says(b, false, rePut(2, 1, "b", "y"))
	c.has(b, found(true))
	c.says(b, true)
	g := c.begin(get("b"))
	c.says(g, true)
	c.has(g, steps.Result{Result: api.Result{Found: true, Value: "y"}})
	h := c.begin(get("c"))
	c.says(h, true)
	c.has(h, found(false))
	d := c.begin(del("c"))
	c.says(d, false)
	c.has(d, found(false))
	c.says(d, true)
	s := c.begin(scan("", ""))
	c.says(s, true)
	c.has(s, steps.Result{Result: api.Result{Entries: []api.Entry{{Key: "b", Value: "y"}}}})
	e := c.begin(del("b"))
	c.says(e, false, reDel(3, 1, "b"))
	c.has(e, found(true))
	c.says(e, true)
	c.has(e, found(true))
	s = c.begin(scan("", ""))
	c.says(s, true)
	c.has(s, steps.Result{})
	// an empty value that is there
	p := c.begin(put("b", ""))
	c.says(p, false, rePut(4, 1, "b", ""))
	g = c.begin(get("b"))
	c.says(g, true)
	c.has(g, found(true))
}

func TestAPutThatPartsTheRoot(t *testing.T) {
	c := begin(t, fullRoot())
	a := c.begin(put("i", big))
	c.says(a, false,
		reNew(1, 2, leaf("h", 3, letters("bdf")...)), reNew(2, 3, leaf("", 0, letters("hjl")...)), reNew(3, 1, inner(1, "", 0, []int{2, 3}, "h")))
	c.hasNone(a)
	c.holds(letters("bdfhjl")...)
	c.moves(a, 1)
	c.hasNone(a)
	c.says(a, false, rePut(4, 3, "i", big))
	c.has(a, found(false))
	c.says(a, true) // the root's parts need no posts
	c.holds(letters("bdfhijl")...)
	// a value that grows may have no room either
	c = begin(t, []redo.Slot{{Page: 1, Node: leaf("", 0, letters("bdfhj")...)}})
	for i, k := range []string{"bx", "dx", "fx", "hx"} {
		c.begin(put(k, ""))
		c.says(i, false, rePut(i+1, 1, k, ""))
		c.says(i, true)
	}
	b := c.begin(put("bx", big))
	c.says(b, false, reNew(5, 2, api.Node{High: "fx", Right: 3, Keys: []string{"b", "bx", "d", "dx", "f"}, Vals: []string{big, "", big, "", big}}),
		reNew(6, 3, api.Node{Keys: []string{"fx", "h", "hx", "j"}, Vals: []string{"", big, "", big}}), reNew(7, 1, inner(1, "", 0, []int{2, 3}, "fx")))
	c.moves(b, 1)
	c.says(b, false, rePut(8, 2, "bx", big))
	c.has(b, found(true))
}

func TestAPutThatPartsALeaf(t *testing.T) {
	for _, x := range []struct {
		key     string
		goRight int
		on      int
	}{{"c", 0, 2}, {"k", 1, 4}} {
		l := twoFull()
		l[1].Node = leaf("m", 3, letters("bdfhjl")...)
		c := begin(t, l)
		a := c.begin(put(x.key, big))
		c.moves(a, 1)
		c.says(a, false, reNew(1, 4, leaf("m", 3, letters("hjl")...)), reCut(2, 2, "h", 4))
		c.hasNone(a)
		c.holds(letters("bdfhjlmprtvx")...)
		c.moves(a, x.goRight)
		c.says(a, false, rePut(3, x.on, x.key, big))
		c.has(a, found(false))
		c.says(a, true, rePost(4, 1, "h", 4))
		c.has(a, found(false))
		if n, _ := c.tree.Page(1); !same(n, api.Node{Level: 1, LSN: 4, Keys: letters("hm"), Kids: []int{2, 4, 3}}) {
			t.Errorf("the root: %v", n)
		}
	}
}

func TestAPutThatPartsALeafAtItsEnd(t *testing.T) {
	c := begin(t, twoFull())
	a := c.begin(put("z", big))
	c.moves(a, 1)
	c.says(a, false, reNew(1, 4, leaf("", 0, letters("tvx")...)), reCut(2, 3, "t", 4))
	c.moves(a, 1)
	c.says(a, false, rePut(3, 4, "z", big))
	c.says(a, true, rePost(4, 1, "t", 4))
	c.holds(letters("bdfhjmprtvxz")...)
}

// tower is a tree in which all pages one above the other, from the first leaf to the root, are full, so that a put of a key of 16 bytes parts them all.
func tower(t *testing.T, top int) []redo.Slot {
	t.Helper()
	text := func(level, i int) string { return fmt.Sprintf("tower-key-%03d-%02d", level, i) }
	keys := make([][]string, top+1) // of the first page of each level
	for level := 1; level <= top; level++ {
		for i := range 9 {
			keys[level] = append(keys[level], text(level, i))
		}
	}
	keys[top] = append(keys[top], text(top, 9)) // the root has no High, but room for a key more
	numbers, next := map[string]int{}, 1
	number := func(level int, low string) int { // of the page of a level with a low end
		at := fmt.Sprint(level, low)
		if numbers[at] == 0 {
			numbers[at] = next
			next++
		}
		return numbers[at]
	}
	var l []redo.Slot
	for level := top; level >= 0; level-- {
		lows := []string{""}
		for above := level + 1; above <= top; above++ {
			lows = append(lows, keys[above]...)
		}
		for i, low := range lows {
			n := api.Node{Level: level}
			p := number(level, low)
			if i+1 < len(lows) {
				n.High, n.Right = lows[i+1], number(level, lows[i+1])
			}
			switch {
			case level > 0:
				n.Kids = []int{number(level-1, low)}
				if i == 0 {
					n.Keys = keys[level]
					for _, k := range keys[level] {
						n.Kids = append(n.Kids, number(level-1, k))
					}
				}
			case i == 0:
				for j := range 4 {
					n.Keys, n.Vals = append(n.Keys, text(0, j*2)), append(n.Vals, big)
				}
			}
			l = append(l, redo.Slot{Page: p, Node: n})
		}
	}
	slices.SortFunc(l, func(a, b redo.Slot) int { return a.Page - b.Page })
	if e := blink.Check(l); e != api.OK {
		t.Fatalf("no tower: %v", e)
	}
	return l
}

func TestAPutThatPartsPagesOneAboveTheOther(t *testing.T) {
	for top := 1; top <= 6; top++ {
		c := begin(t, tower(t, top))
		before := len(c.tree.Pages())
		keys := slices.Collect(func(yield func(string) bool) {
			for _, e := range c.tree.Scan("", "", math.MaxInt) {
				yield(e.Key)
			}
		})
		id := c.begin(put("tower-key-000-01", big))
		kinds := map[int]int{}
		for slices.Contains(c.s.Running(), id) {
			l, e := c.s.Step(id)
			if e != api.OK {
				t.Fatal(e)
			}
			for _, r := range l {
				kinds[r.Kind]++
			}
			if e := blink.Check(c.tree.Pages()); e != api.OK {
				t.Fatalf("%d levels: %v behind %v", top, e, l)
			}
		}
		c.has(id, found(false))
		// each level but the root's is cut and posted, and the root stands above two new pages
		if want := map[int]int{api.RePut: 1, api.ReNew: top + 3, api.ReCut: top, api.RePost: top}; !maps.Equal(kinds, want) {
			t.Errorf("%d levels: %v, not %v", top, kinds, want)
		}
		if got := len(c.tree.Pages()); got != before+top+2 {
			t.Errorf("%d levels: %d pages, not %d", top, got, before+top+2)
		}
		if n, _ := c.tree.Page(1); n.Level != top+1 || len(n.Keys) != 1 {
			t.Errorf("%d levels: the root is %v", top, n)
		}
		kids := 0
		for _, s := range c.tree.Pages() {
			kids += len(s.Node.Kids)
		}
		if kids != len(c.tree.Pages())-1 {
			t.Errorf("%d levels: %d kids of %d pages", top, kids, len(c.tree.Pages()))
		}
		c.holds(slices.Insert(keys, 1, "tower-key-000-01")...)
	}
}

// A root of level 20 cannot be parted, as there is no level above: who posts there gives up, and all is found nevertheless.
func TestARootOfTheLastLevel(t *testing.T) {
	c := begin(t, tower(t, 20))
	root, _ := c.tree.Page(1)
	r, l, e := c.s.Do(put("tower-key-000-01", big))
	if !sameResult(r, found(false)) || e != api.OK || len(c.s.Running()) != 0 {
		t.Fatalf("Do: %v, %v", r, e)
	}
	if last := l[len(l)-1]; last.Kind != api.RePost {
		t.Errorf("the last one: %v", last)
	}
	if n, _ := c.tree.Page(1); !same(n, root) {
		t.Errorf("the root: %v", n)
	}
	c.holds("tower-key-000-00", "tower-key-000-01", "tower-key-000-02", "tower-key-000-04", "tower-key-000-06")
	if e := blink.Check(c.tree.Pages()); e != api.OK {
		t.Error(e)
	}
}

func TestAnInnerPageIsParted(t *testing.T) {
	x := blink.New()
	c := script{t, x, steps.New(x)}
	var keys []string
	seen := map[string]int{}
	for i := range 400 {
		k := wide(i * 7919 % 400)
		r, l, e := c.s.Do(put(k, big))
		if !sameResult(r, found(false)) || e != api.OK {
			t.Fatalf("Do: %v, %v", r, e)
		}
		for _, r := range l {
			if n, ok := x.Page(r.Page); ok && r.Kind == api.ReCut {
				seen[fmt.Sprint("cut ", n.Level)]++
			}
			if r.Kind == api.ReNew && r.Page == 1 {
				seen["root"]++
			}
		}
		keys = append(keys, k)
	}
	slices.Sort(keys)
	c.holds(keys...)
	if seen["root"] < 3 || seen["cut 0"] < 50 || seen["cut 1"] < 5 {
		t.Errorf("too few pages were parted: %v", seen)
	}
	// nobody was in the way: each page is a kid
	kids := 0
	for _, s := range x.Pages() {
		kids += len(s.Node.Kids)
	}
	if kids != len(x.Pages())-1 {
		t.Errorf("%d kids of %d pages", kids, len(x.Pages()))
	}
}

// Machines that meet what others have parted.

func TestAPageThatIsPartedBetweenTwoSteps(t *testing.T) {
	l := twoFull()
	l[1].Node = leaf("m", 3, letters("bdfhjl")...)
	c := begin(t, l)
	ids := []int{c.begin(get("j")), c.begin(del("l")), c.begin(put("h", "new")), c.begin(scan("d", "")), c.begin(put("k", "x")), c.begin(get("b"))}
	for _, id := range ids {
		c.moves(id, 1) // all look for the leaf 2
	}
	a := c.begin(put("a", big))
	c.moves(a, 1)
	c.says(a, false, reNew(1, 4, leaf("m", 3, letters("hjl")...)), reCut(2, 2, "h", 4))
	c.moves(ids[0], 1)
	c.says(ids[0], true)
	c.has(ids[0], steps.Result{Result: api.Result{Found: true, Value: big}})
	c.moves(ids[1], 1)
	c.says(ids[1], false, reDel(3, 4, "l"))
	c.has(ids[1], found(true))
	c.moves(ids[2], 1)
	c.says(ids[2], false, rePut(4, 4, "h", "new"))
	c.has(ids[2], found(true))
	c.moves(ids[3], 2)
	c.says(ids[3], true)
	want := told(letters("dfhjmprtvx")...)
	want.Entries[2].Value = "new"
	c.has(ids[3], want)
	c.moves(ids[4], 1)
	c.says(ids[4], false, rePut(5, 4, "k", "x"))
	c.says(ids[5], true)
	c.has(ids[5], steps.Result{Result: api.Result{Found: true, Value: big}})
	c.says(a, false, rePut(6, 2, "a", big))
	c.says(a, true, rePost(7, 1, "h", 4))
	for _, id := range []int{1, 2, 4} {
		c.says(id, true)
	}
	c.holds(letters("abdfhjkmprtvx")...)
}

func TestARootThatIsPartedBetweenTwoSteps(t *testing.T) {
	c := begin(t, fullRoot())
	a, b, g, s := c.begin(put("a", big)), c.begin(put("z", big)), c.begin(get("l")), c.begin(scan("", "h"))
	c.says(a, false, reNew(1, 2, leaf("h", 3, letters("bdf")...)), reNew(2, 3, leaf("", 0, letters("hjl")...)), reNew(3, 1, inner(1, "", 0, []int{2, 3}, "h")))
	c.moves(b, 1)
	c.says(b, false, rePut(4, 3, "z", big))
	c.moves(g, 1)
	c.says(g, true)
	c.moves(s, 1)
	c.says(s, true)
	c.has(s, told(letters("bdf")...))
	c.moves(a, 1)
	c.says(a, false, rePut(5, 2, "a", big))
	c.says(a, true)
	c.says(b, true)
}

// Two that find one leaf full both part it, and post what they parted, in any order.
func TestALeafThatTwoMachinesPart(t *testing.T) {
	l := []redo.Slot{
		{Page: 1, Node: inner(1, "", 0, []int{2})},
		{Page: 2, Node: leaf("", 0, letters("bdfhjl")...)},
	}
	c := begin(t, l)
	a, b := c.begin(put("c", big)), c.begin(put("e", big))
	c.moves(a, 1)
	c.moves(b, 1)
	c.says(a, false, reNew(1, 3, leaf("", 0, letters("hjl")...)), reCut(2, 2, "h", 3))
	more := []string{"a", "aa"}
	for i, k := range more {
		x := c.begin(put(k, big))
		c.moves(x, 1)
		c.says(x, false, rePut(3+i, 2, k, big))
		c.says(x, true)
	}
	c.says(b, false, rePut(5, 2, "e", big))
	c.says(a, false, reNew(6, 4, leaf("h", 3, letters("def")...)), reCut(7, 2, "d", 4))
	c.says(a, false, rePut(8, 2, "c", big))
	// its posts, one behind the other, both from the root on
	c.says(a, false, rePost(9, 1, "h", 3))
	c.says(a, true, rePost(10, 1, "d", 4))
	c.says(b, true)
	if n, _ := c.tree.Page(1); !slices.Equal(n.Keys, letters("dh")) || !slices.Equal(n.Kids, []int{2, 4, 3}) {
		t.Errorf("the root: %v", n)
	}
	c.holds("a", "aa", "b", "c", "d", "e", "f", "h", "j", "l")
}

// A post goes right where the page that it is for was parted meanwhile.
func TestAPostThatGoesRight(t *testing.T) {
	c := begin(t, []redo.Slot{
		{Page: 1, Node: inner(2, "", 0, []int{2})},
		{Page: 2, Node: inner(1, "", 0, []int{3, 4, 5}, "h", "p")},
		{Page: 3, Node: leaf("h", 4)},
		{Page: 4, Node: leaf("p", 5)},
		{Page: 5, Node: leaf("", 0, letters("prtvxz")...)},
	})
	a := c.begin(put("s", big))
	c.moves(a, 2)
	c.says(a, false, reNew(1, 6, leaf("", 0, letters("vxz")...)), reCut(2, 5, "v", 6))
	c.says(a, false, rePut(3, 5, "s", big))
	c.moves(a, 1)
	for _, r := range []api.Record{reNew(0, 7, inner(1, "", 0, []int{5})), reCut(0, 2, "p", 7)} {
		if _, e := c.tree.Say(r); e != api.OK {
			t.Fatal(e)
		}
	}
	c.moves(a, 1)
	c.says(a, true, rePost(6, 7, "v", 6))
}

func TestAWalkGoesRightInInnerRows(t *testing.T) {
	// 5 is an inner page that is no kid yet
	l := []redo.Slot{
		{Page: 1, Node: inner(2, "", 0, []int{2})},
		{Page: 2, Node: inner(1, "m", 5, []int{3})},
		{Page: 3, Node: leaf("m", 4, letters("bdfh")...)},
		{Page: 4, Node: leaf("", 0, letters("mprtvx")...)},
		{Page: 5, Node: inner(1, "", 0, []int{4})},
	}
	c := begin(t, l)
	g := c.begin(get("p"))
	c.moves(g, 3) // to 2, 5, 4
	c.says(g, true)
	c.has(g, steps.Result{Result: api.Result{Found: true, Value: big}})
	a := c.begin(put("z", big))
	c.moves(a, 3)
	c.says(a, false, reNew(1, 6, leaf("", 0, letters("tvx")...)), reCut(2, 4, "t", 6))
	c.moves(a, 1)
	c.says(a, false, rePut(3, 6, "z", big))
	c.moves(a, 2) // from the root to 2 and 5
	c.says(a, true, rePost(4, 5, "t", 6))
}

// A post that stands there already is gone without a word, and so is one whose key has another kid.
func TestPostsThatWerePostedAlready(t *testing.T) {
	for _, other := range []bool{false, true} {
		l := twoFull()
		l[1].Node = leaf("m", 3, letters("bdfhjl")...)
		c := begin(t, l)
		a := c.begin(put("c", big))
		c.moves(a, 1)
		c.says(a, false, reNew(1, 4, leaf("m", 3, letters("hjl")...)), reCut(2, 2, "h", 4))
		kid := 4
		if other {
			kid = 3
		}
		if _, e := c.tree.Say(rePost(0, 1, "h", kid)); e != api.OK {
			t.Fatal(e)
		}
		if said, e := c.s.Step(a); !slices.Equal(said, []api.Record{rePut(4, 2, "c", big)}) || e != api.OK {
			t.Errorf("Step: %v, %v", said, e)
		}
		if said, e := c.s.Step(a); len(said) != 0 || e != api.OK || len(c.s.Running()) != 0 {
			t.Errorf("Step: %v, %v, %v", said, e, c.s.Running())
		}
		c.has(a, found(false))
		if c.tree.Last() != 4 {
			t.Errorf("Last: %d", c.tree.Last())
		}
	}
}

// A page that is full keeps a key that it has: nothing has to be parted for it.
func TestAPostThatStandsInAFullPage(t *testing.T) {
	l := tower(t, 1)
	c := begin(t, l)
	first := slices.IndexFunc(l, func(s redo.Slot) bool { return s.Node.Level == 0 && len(s.Node.Keys) > 0 })
	a := c.begin(put("tower-key-000-01", big))
	c.moves(a, 1)
	said, e := c.s.Step(a)
	if e != api.OK || len(said) != 2 || said[1].Kind != api.ReCut || said[1].Page != l[first].Page {
		t.Fatalf("Step: %v, %v", said, e)
	}
	s, q := said[1].Key, said[1].Other
	// by hand: the root without one key, and with the post in its place
	root, _ := c.tree.Page(1)
	root.Keys, root.Kids = append([]string{s}, root.Keys[1:]...), append([]int{root.Kids[0], q}, root.Kids[2:]...)
	if _, e := c.tree.Say(reNew(0, 1, root)); e != api.OK {
		t.Fatal(e)
	}
	if _, e := node.Post(root, "tower-key-009-99", 9); e != api.ErrFull {
		t.Fatalf("the root is not full: %v", e)
	}
	for slices.Contains(c.s.Running(), a) {
		if said, e = c.s.Step(a); e != api.OK {
			t.Fatal(e)
		}
	}
	if len(said) != 0 {
		t.Errorf("said: %v", said)
	}
	if n, _ := c.tree.Page(1); !slices.Equal(n.Keys, root.Keys) || n.Level != 1 {
		t.Errorf("the root: %v", n)
	}
}

// No page left.

func TestNoPageLeftInAPut(t *testing.T) {
	for left := range 2 { // the root needs two
		c := begin(t, fullRoot())
		exhaust(t, c.tree, left)
		a := c.begin(put("a", big))
		c.says(a, true)
		c.has(a, failed())
		c.holds(letters("bdfhjl")...)
		if p, e := c.tree.Take(); p != 0 || e != api.ErrFull { // the one that was taken stays so
			t.Errorf("Take: %d, %v", p, e)
		}
		if c.tree.Last() != 0 || len(c.tree.Pages()) != 1 {
			t.Errorf("the tree was changed: %v", c.tree.Pages())
		}
		r, l, e := c.s.Do(put("a", big))
		if !sameResult(r, failed()) || len(l) != 0 || e != api.OK {
			t.Errorf("Do: %v, %v, %v", r, l, e)
		}
		if r, _, e := c.s.Do(put("b", "x")); !sameResult(r, found(true)) || e != api.OK { // where it has room
			t.Errorf("Do: %v, %v", r, e)
		}
	}
	c := begin(t, fullRoot())
	exhaust(t, c.tree, 2)
	if r, l, e := c.s.Do(put("a", big)); !sameResult(r, found(false)) || len(l) != 4 || e != api.OK {
		t.Errorf("Do with just enough pages: %v, %v, %v", r, l, e)
	}
	// a leaf that is not the root
	c = begin(t, twoFull())
	exhaust(t, c.tree, 0)
	a := c.begin(put("z", big))
	c.moves(a, 1)
	c.says(a, true)
	c.has(a, failed())
	if _, e := c.s.Step(a); e != api.ErrState {
		t.Errorf("Step: %v", e)
	}
	c.holds(letters("bdfhjmprtvx")...)
}

// A put that has parted a leaf, and finds no page when it has to do so again, fails with its post.
func TestNoPageLeftInAPutWithPosts(t *testing.T) {
	l := twoFull()
	l[1].Node = leaf("m", 3, letters("bdfhjl")...)
	c := begin(t, l)
	exhaust(t, c.tree, 1)
	a := c.begin(put("c", big))
	c.moves(a, 1)
	q, _ := c.s.Step(a)
	if len(q) != 2 || q[0].Page != api.MaxPages {
		t.Fatalf("parted: %v", q)
	}
	for i, k := range []string{"a", "aa", "e"} {
		x := c.begin(put(k, big))
		c.moves(x, 1)
		c.says(x, false, rePut(3+i, 2, k, big))
		c.says(x, true)
	}
	c.says(a, true)
	c.has(a, failed())
	c.holds("a", "aa", "b", "d", "e", "f", "h", "j", "l", "m", "p", "r", "t", "v", "x")
	if r, _, _ := c.s.Do(get("j")); !r.Found { // on a page that is no kid
		t.Errorf("get: %v", r)
	}
}

func TestNoPageLeftInAPosting(t *testing.T) {
	for _, x := range []struct{ top, left int }{{1, 1}, {1, 2}, {2, 1}, {2, 2}, {2, 3}, {3, 2}, {3, 4}} {
		c := begin(t, tower(t, x.top))
		exhaust(t, c.tree, x.left)
		r, l, e := c.s.Do(put("tower-key-000-01", big))
		if !sameResult(r, found(false)) || e != api.OK || len(c.s.Running()) != 0 {
			t.Errorf("%v: Do: %v, %v", x, r, e)
		}
		if e := blink.Check(c.tree.Pages()); e != api.OK {
			t.Errorf("%v: %v", x, e)
		}
		if r, _, _ := c.s.Do(get("tower-key-000-01")); !r.Found {
			t.Errorf("%v: it is not found", x)
		}
		if last := l[len(l)-1]; last.Kind == api.ReNew || last.Kind == api.ReCut {
			t.Errorf("%v: the last one: %v", x, last)
		}
		if p, e := c.tree.Take(); p != 0 || e != api.ErrFull {
			t.Errorf("%v: Take: %d, %v", x, p, e)
		}
		if n, _ := c.tree.Page(1); n.Level != x.top {
			t.Errorf("%v: the root's level: %d", x, n.Level)
		}
	}
}

// Scans.

func TestScansOfAllBounds(t *testing.T) {
	x := blink.New()
	s := steps.New(x)
	var keys []string
	for i := range 60 {
		k := string([]byte{byte('a' + i/6), byte('a' + i%6*4)})
		s.Do(put(k, big))
		keys = append(keys, k)
	}
	if len(x.Pages()) < 12 {
		t.Fatalf("only %d pages", len(x.Pages()))
	}
	bounds := []string{"", "\x00", "\xff", "zz", long("d", 16)}
	for _, p := range x.Pages() {
		if p.Node.High != "" {
			bounds = append(bounds, p.Node.High, p.Node.High+"\x00")
		}
	}
	bounds = append(bounds, keys[0], keys[7], keys[30], keys[59])
	for _, from := range bounds {
		for _, below := range bounds {
			var want []string
			for _, k := range keys {
				if k >= from && (below == "" || k < below) {
					want = append(want, k)
				}
			}
			r, l, e := s.Do(scan(from, below))
			if !sameResult(r, told(want...)) || l != nil || e != api.OK {
				t.Fatalf("scan(%q, %q): %v, %v, %v, not %v", from, below, r, l, e, want)
			}
		}
	}
}

func TestAScanBesidePutsAndDeletes(t *testing.T) {
	c := begin(t, []redo.Slot{
		{Page: 1, Node: inner(1, "", 0, []int{2, 3, 4}, "h", "p")},
		{Page: 2, Node: leaf("h", 3, letters("bd")...)},
		{Page: 3, Node: leaf("p", 4, letters("hjl")...)},
		{Page: 4, Node: leaf("", 0, letters("prt")...)},
	})
	s := c.begin(scan("c", "s"))
	c.moves(s, 2)
	c.hasNone(s)
	for _, op := range []api.Op{put("c", big), del("d"), del("j"), put("k", big), del("l"), put("l", big), put("q", big), del("r"), put("s", big), put("h", "new")} {
		c.s.Do(op)
	}
	c.moves(s, 1)
	c.hasNone(s)
	for _, op := range []api.Op{del("h"), put("n", big), del("q"), put("r", big)} {
		c.s.Do(op)
	}
	c.says(s, true)
	want := told(letters("dhklpr")...)
	want.Entries[1].Value = "new"
	c.has(s, want)
}

func TestAScanEndsWhereItsBoundIs(t *testing.T) {
	for _, x := range []struct {
		from, below string
		leaves      int
		keys        string
	}{{"", "h", 1, "bd"}, {"", "ha", 2, "bdh"}, {"", "p", 2, "bdhjl"}, {"h", "", 2, "hjlprt"}, {"g", "h", 1, ""}, {"c", "b", 1, ""}, {"q", "b", 1, ""}, {"h", "h", 1, ""}, {"l", "q", 2, "lp"}} {
		c := begin(t, []redo.Slot{
			{Page: 1, Node: inner(1, "", 0, []int{2, 3, 4}, "h", "p")},
			{Page: 2, Node: leaf("h", 3, letters("bd")...)},
			{Page: 3, Node: leaf("p", 4, letters("hjl")...)},
			{Page: 4, Node: leaf("", 0, letters("prt")...)},
		})
		s := c.begin(scan(x.from, x.below))
		c.moves(s, x.leaves)
		c.says(s, true)
		c.has(s, told(strings.Fields(strings.Join(letters(x.keys), " "))...))
	}
}

// A scan that goes on at a leaf's High tells no key below it, wherever it may stand.
func TestAScanGoesOnAtHigh(t *testing.T) {
	c := begin(t, []redo.Slot{
		{Page: 1, Node: inner(1, "", 0, []int{2, 3}, "h")},
		{Page: 2, Node: leaf("h", 3, letters("bd")...)},
		{Page: 3, Node: leaf("", 0, letters("hj")...)},
	})
	s := c.begin(scan("", ""))
	c.moves(s, 2)
	for _, k := range []string{"c", "g"} {
		if _, e := c.tree.Say(rePut(0, 3, k, big)); e != api.OK {
			t.Fatal(e)
		}
	}
	if l, e := c.s.Step(s); l != nil || e != api.OK {
		t.Fatalf("Step: %v, %v", l, e)
	}
	c.has(s, told(letters("bdhj")...))
}

// 14.3, 14.4, 14.5: machines in any turns, beside a plain map.

// state is what a key has: a value, or none.
type state struct {
	value string
	there bool
}

// machine is what the test knows of a machine.
type machine struct {
	op        api.Op
	hasResult bool
	result    steps.Result
	seen      map[string][]state // of a scan: what keys had since it began
}

// run are machines on a tree, beside a plain map.
type run struct {
	script
	pages    []redo.Slot // as the records that were said make them
	plain    map[string]string
	machines []*machine
	known    map[string]int // all keys that ever were there
	events   map[string]int
}

func newRun(t *testing.T, l []redo.Slot) *run {
	t.Helper()
	r := &run{script: begin(t, l), plain: map[string]string{}, known: map[string]int{}, events: map[string]int{}}
	r.pages = r.tree.Pages()
	for _, e := range r.tree.Scan("", "", math.MaxInt) {
		r.plain[e.Key] = e.Value
		r.known[e.Key]++
	}
	return r
}

func (r *run) begin(op api.Op) int {
	r.t.Helper()
	id := r.script.begin(op)
	if id != len(r.machines) {
		r.t.Fatalf("Begin: %d, not %d", id, len(r.machines))
	}
	m := &machine{op: op, seen: map[string][]state{}}
	for k, v := range r.plain {
		m.seen[k] = []state{{v, true}}
	}
	r.machines = append(r.machines, m)
	return id
}

// step does a step, whose result must be that of the plain map, if it has one now.
func (r *run) step(id int) {
	r.t.Helper()
	said, e := r.s.Step(id)
	if e != api.OK {
		r.t.Fatalf("Step(%d): %v", id, e)
	}
	if r.pages, e = redo.Replay(r.pages, said); e != api.OK {
		r.t.Fatalf("Step(%d): %v: %v", id, said, e)
	}
	m := r.machines[id]
	got, ok := r.s.Result(id)
	if ok && !m.hasResult {
		r.settles(id, got)
		m.hasResult, m.result = true, got
	} else if ok != m.hasResult || !sameResult(got, m.result) {
		r.t.Fatalf("Result(%d): %v, %v", id, got, ok)
	}
	for _, x := range said {
		r.events[fmt.Sprint("said ", x.Kind)]++
	}
}

// settles holds a result against the plain map, and does the operation to that.
func (r *run) settles(id int, got steps.Result) {
	r.t.Helper()
	m := r.machines[id]
	if got.Failed {
		if m.op.Kind != api.OpPut || !sameResult(got, failed()) {
			r.t.Fatalf("%v failed: %v", m.op, got)
		}
		r.events["failed"]++
		return
	}
	if m.op.Kind == api.OpScan {
		r.scanned(id, got)
		return
	}
	v, there := r.plain[m.op.Key]
	want := found(there)
	switch m.op.Kind {
	case api.OpGet:
		want.Value = v
	case api.OpPut:
		r.changes(m.op.Key, state{m.op.Value, true})
	case api.OpDel:
		r.changes(m.op.Key, state{})
	}
	if !sameResult(got, want) {
		r.t.Fatalf("%v: %v, not %v", m.op, got, want)
	}
}

// changes has a key of the plain map have a value or none, which all scans that run have seen then.
func (r *run) changes(k string, s state) {
	if s.there {
		r.plain[k] = s.value
		r.known[k]++
	} else {
		delete(r.plain, k)
	}
	for _, m := range r.machines {
		if m.op.Kind == api.OpScan && !m.hasResult {
			if len(m.seen[k]) == 0 {
				m.seen[k] = []state{{}}
			}
			m.seen[k] = append(m.seen[k], s)
		}
	}
}

// scanned tells whether what a scan tells of each key was so at some moment.
func (r *run) scanned(id int, got steps.Result) {
	r.t.Helper()
	m := r.machines[id]
	of := map[string]state{}
	last := ""
	for _, e := range got.Entries {
		if e.Key <= last || e.Key < m.op.Key || m.op.Value != "" && e.Key >= m.op.Value {
			r.t.Fatalf("%v: %v", m.op, got)
		}
		of[e.Key], last = state{e.Value, true}, e.Key
	}
	for k := range r.known {
		if k < m.op.Key || m.op.Value != "" && k >= m.op.Value {
			continue
		}
		seen := m.seen[k]
		if len(seen) == 0 {
			seen = []state{{}}
		}
		if !slices.Contains(seen, of[k]) {
			r.t.Fatalf("%v tells %v of %s, which had %v", m.op, of[k], k, seen)
		}
		if len(seen) > 1 {
			r.events["a scan beside changes"]++
		}
		delete(of, k)
	}
	if got.Found || got.Value != "" || len(of) != 0 {
		r.t.Fatalf("%v: %v, of which %v never were", m.op, got, of)
	}
}

// check tells whether the tree is a tree, with the entries of the plain map, and what the records said.
func (r *run) check() {
	r.t.Helper()
	l := r.tree.Pages()
	all, e := blink.Entries(l)
	if e != api.OK || blink.Check(l) != api.OK {
		r.t.Fatalf("no tree: %v: %v", e, l)
	}
	if len(all) != len(r.plain) {
		r.t.Fatalf("%d entries, not %d", len(all), len(r.plain))
	}
	for _, e := range all {
		if v, ok := r.plain[e.Key]; !ok || v != e.Value {
			r.t.Fatalf("%s has %q, not %q (%v)", e.Key, e.Value, v, ok)
		}
	}
	if !sameSlots(l, r.pages) {
		r.t.Fatalf("the pages are not what was said: %v, not %v", l, r.pages)
	}
}

// allTurns does operations in all turns in which they can be done, and looks at the tree behind each step.
func allTurns(t *testing.T, l []redo.Slot, ops ...api.Op) int {
	t.Helper()
	rows := 0
	var turns []int
	var visit func()
	visit = func() {
		r := newRun(t, l)
		for _, op := range ops {
			r.begin(op)
		}
		for _, id := range turns {
			r.step(id)
		}
		r.check()
		running := r.s.Running()
		if len(running) == 0 {
			rows++
		}
		for _, id := range running {
			turns = append(turns, id)
			visit()
			turns = turns[:len(turns)-1]
		}
	}
	visit()
	return rows
}

func TestAllTurnsOfAFewMachines(t *testing.T) {
	oneLeaf := []redo.Slot{
		{Page: 1, Node: inner(1, "", 0, []int{2})},
		{Page: 2, Node: leaf("", 0, letters("bdfhjl")...)},
	}
	for _, x := range []struct {
		l   []redo.Slot
		ops []api.Op
	}{
		{fullRoot(), []api.Op{put("c", big), put("e", big)}},
		{fullRoot(), []api.Op{put("c", big), put("c", "y")}},
		{fullRoot(), []api.Op{put("c", big), del("h")}},
		{fullRoot(), []api.Op{put("c", big), scan("", "")}},
		{fullRoot(), []api.Op{put("c", big), put("i", big), get("l")}},
		{fullRoot(), []api.Op{put("c", big), del("c"), get("c")}},
		{oneLeaf, []api.Op{put("c", big), put("e", big)}},
		{oneLeaf, []api.Op{put("c", big), put("i", big)}},
		{oneLeaf, []api.Op{put("i", big), get("i"), get("h")}},
		{oneLeaf, []api.Op{put("c", big), del("j"), get("j")}},
		{oneLeaf, []api.Op{put("c", big), scan("c", "")}},
		{oneLeaf, []api.Op{put("h", "y"), del("h"), get("h")}},
		{twoFull(), []api.Op{put("z", big), scan("f", "")}},
		{twoFull(), []api.Op{del("m"), scan("f", ""), del("x")}},
		{tower(t, 1), []api.Op{put("tower-key-000-01", big), put("tower-key-000-05", big)}},
	} {
		if rows := allTurns(t, x.l, x.ops...); rows < 5 {
			t.Errorf("%v: only %d turns", x.ops, rows)
		}
	}
}

// randomOp is an operation on one of some keys of 16 bytes, or fewer.
func randomOp(rd *rand.Rand, keys int) api.Op {
	k := wide(rd.Intn(keys))
	if rd.Intn(5) == 0 {
		k = k[:9+rd.Intn(8)]
	}
	switch rd.Intn(10) {
	case 0, 1:
		return get(k)
	case 2, 3:
		return del(k)
	case 4:
		op := scan(k, wide(rd.Intn(keys)))
		if rd.Intn(3) == 0 {
			op.Key = ""
		}
		if rd.Intn(3) == 0 {
			op.Value = ""
		}
		return op
	}
	return put(k, strings.Repeat("v", rd.Intn(33)))
}

func TestRandomTurnsOfManyMachines(t *testing.T) {
	events := map[string]int{}
	for seed := range 24 {
		rd := rand.New(rand.NewSource(int64(seed)))
		x := blink.New()
		if seed%4 == 3 {
			exhaust(t, x, 12+seed)
		}
		r := &run{script: script{t, x, steps.New(x)}, pages: x.Pages(), plain: map[string]string{}, known: map[string]int{}, events: events}
		keys := []int{8, 60, 400}[seed%3]
		for range 2500 {
			running := r.s.Running()
			if len(running) == 0 || len(running) < steps.MaxRunning && rd.Intn(3) == 0 {
				r.begin(randomOp(rd, keys))
				continue
			}
			id := running[rd.Intn(len(running))]
			n := 1
			if rd.Intn(6) == 0 {
				n = rd.Intn(9) // some go far ahead of others
			}
			for range n {
				if slices.Contains(r.s.Running(), id) {
					r.step(id)
					r.check()
				}
			}
		}
		for _, id := range r.s.Running() {
			r.aloneToItsEnd(id)
		}
		r.check()
		if top, _ := x.Page(1); top.Level > 1 {
			events["three levels"]++
		}
	}
	for what, least := range map[string]int{"said 2": 5000, "said 3": 500, "said 4": 500, "said 5": 300, "said 6": 300, "failed": 100, "a scan beside changes": 500, "three levels": 4} {
		if events[what] < least {
			t.Errorf("%s: %d, fewer than %d", what, events[what], least)
		}
	}
}

// 14.6

// aloneToItsEnd does the steps of one machine until it is over: it looks at no page twice on a walk, and walks once for the operation and once for each post, of which each level has few.
func (r *run) aloneToItsEnd(id int) {
	r.t.Helper()
	most := 60 * (len(r.tree.Pages()) + 9)
	for slices.Contains(r.s.Running(), id) {
		if most--; most < 0 {
			r.t.Fatalf("machine %d does not come to its end", id)
		}
		r.step(id)
	}
	if _, ok := r.s.Result(id); !ok {
		r.t.Fatalf("machine %d is over without a result", id)
	}
}

func TestAMachineThatIsAloneComesToItsEnd(t *testing.T) {
	for seed := range 60 {
		rd := rand.New(rand.NewSource(int64(seed)))
		r := newRun(t, []redo.Slot{{Page: 1}})
		for range 150 + rd.Intn(150) {
			running := r.s.Running()
			if len(running) < steps.MaxRunning {
				r.begin(randomOp(rd, 100))
			} else {
				r.step(running[rd.Intn(len(running))])
			}
		}
		for _, id := range r.s.Running() {
			r.aloneToItsEnd(id)
			r.check()
		}
		if l := r.s.Running(); len(l) != 0 {
			t.Fatalf("Running: %v", l)
		}
	}
}

// A scan and a get that pass nearly all pages there can be come to their ends, too.
func TestALongWalk(t *testing.T) {
	text := func(i int) string { return fmt.Sprintf("%05d", i) }
	l := []redo.Slot{{Page: 1, Node: inner(1, "", 0, []int{2})}}
	for p := 2; p < api.MaxPages; p++ {
		l = append(l, redo.Slot{Page: p, Node: leaf(text(p), p+1, text(p-1))})
	}
	l = append(l, redo.Slot{Page: api.MaxPages, Node: leaf("", 0, text(api.MaxPages-1))})
	c := begin(t, l)
	if r, _, e := c.s.Do(get(text(api.MaxPages - 1))); !r.Found || r.Failed || e != api.OK {
		t.Errorf("get: %v, %v", r, e)
	}
	if r, _, e := c.s.Do(scan("", "")); len(r.Entries) != api.MaxPages-1 || r.Failed || e != api.OK {
		t.Errorf("scan: %d entries, %v", len(r.Entries), e)
	}
	if r, rs, e := c.s.Do(put("zz", "x")); !sameResult(r, found(false)) || len(rs) != 1 || e != api.OK {
		t.Errorf("put: %v, %v, %v", r, rs, e)
	}
	// the last leaf is parted, by the last page, behind a walk along all others
	l = l[:api.MaxPages-1]
	l[len(l)-1].Node = leaf("", 0, letters("bdfhjl")...)
	c = begin(t, l)
	if r, rs, e := c.s.Do(put("z", big)); !sameResult(r, found(false)) || len(rs) != 4 || e != api.OK {
		t.Errorf("put: %v, %v, %v", r, rs, e)
	}
}

// Rows whose Highs do not rise: what is taken for a tree keeps 14.3 to 14.5.

// rowsThatGoBack are pages in which a High is below the one ahead of it. A walk to the keys behind it would end ahead of it, or a page would be posted where its low end is known already.
func rowsThatGoBack() map[string][]redo.Slot {
	root := redo.Slot{Page: 1, Node: inner(1, "", 0, []int{2})}
	known := redo.Slot{Page: 1, Node: inner(1, "", 0, []int{2, 4, 3}, "c", "m")}
	return map[string][]redo.Slot{
		"k and d":                    {root, {Page: 2, Node: leaf("m", 3, "k")}, {Page: 3, Node: leaf("c", 4)}, {Page: 4, Node: leaf("", 0, "d")}},
		"d alone":                    {root, {Page: 2, Node: leaf("m", 3)}, {Page: 3, Node: leaf("c", 4)}, {Page: 4, Node: leaf("", 0, "d")}},
		"d twice":                    {root, {Page: 2, Node: leaf("m", 3, "d")}, {Page: 3, Node: leaf("c", 4)}, {Page: 4, Node: leaf("", 0, "d")}},
		"k and d, all kids":          {known, {Page: 2, Node: leaf("m", 3, "k")}, {Page: 3, Node: leaf("c", 4)}, {Page: 4, Node: leaf("", 0, "d")}},
		"a key below":                {root, {Page: 2, Node: leaf("m", 3, "k")}, {Page: 3, Node: leaf("c", 4, "b")}, {Page: 4, Node: leaf("", 0, "d")}},
		"a key beyond":               {root, {Page: 2, Node: leaf("m", 3, "k")}, {Page: 3, Node: leaf("c", 4, "n")}, {Page: 4, Node: leaf("", 0, "d")}},
		"an inner row":               innerRowThatGoesBack([]int{20}),
		"an inner row, a key below":  innerRowThatGoesBack([]int{20, 12}, wide(20)),
		"an inner row, a key beyond": innerRowThatGoesBack([]int{20, 20}, wide(99)),
	}
}

// innerRowThatGoesBack is a tree but for its row of level 1: page 4 of it is full and has the key at which it is parted, 6 begins with that, too, and 5 between them, of some kids and keys, goes back to it. The first leaf is full: a put there parts it and page 4, whose right part is to be posted in page 3, where its key is the low end.
func innerRowThatGoesBack(kids []int, keys ...string) []redo.Slot {
	l := []redo.Slot{
		{Page: 1, Node: inner(3, "", 0, []int{2, 3}, wide(60))},
		{Page: 2, Node: inner(2, wide(60), 3, []int{4})},
		{Page: 3, Node: inner(2, "", 0, []int{6})},
		{Page: 4, Node: inner(1, wide(95), 5, []int{10})},
		{Page: 5, Node: inner(1, wide(60), 6, kids, keys...)},
		{Page: 6, Node: inner(1, "", 0, []int{16})},
		{Page: 10, Node: leaf(wide(10), 11, letters("abcde")...)},
	}
	for i := 1; i <= 9; i++ { // page 10 + i begins with the key 10i
		l[3].Node.Keys, l[3].Node.Kids = append(l[3].Node.Keys, wide(10*i)), append(l[3].Node.Kids, 10+i)
		high := wide(10 * (i + 1))
		if i == 9 {
			high = wide(95)
		}
		l = append(l, redo.Slot{Page: 10 + i, Node: leaf(high, 11+i, wide(10*i))})
	}
	return append(l, redo.Slot{Page: 20, Node: leaf("", 0, wide(95))})
}

// wantPlainMap does operations on pages, if these are taken for a tree, and looks at the tree behind each step.
func wantPlainMap(t *testing.T, l []redo.Slot) {
	t.Helper()
	if blink.Check(l) != api.OK {
		return
	}
	r := newRun(t, l)
	alone := func(op api.Op) {
		t.Helper()
		id := r.begin(op)
		r.aloneToItsEnd(id)
		r.check()
	}
	r.check()
	entries, _ := blink.Entries(l)
	for _, e := range entries {
		alone(get(e.Key))
		alone(scan(e.Key, ""))
		alone(scan("", e.Key))
	}
	alone(scan("", ""))
	for _, k := range append(letters("abcdefgklmno"), wide(5), wide(62), wide(99)) {
		alone(put(k, big))
		alone(get(k))
		if v, ok := r.tree.Get(k); v != big || !ok {
			t.Errorf("what was put is not found: %s: %q, %v", k, v, ok)
		}
	}
	alone(scan("", ""))
	for _, e := range entries {
		alone(del(e.Key))
		alone(get(e.Key))
	}
}

func TestRowsThatGoBack(t *testing.T) {
	for what, l := range rowsThatGoBack() {
		t.Run(what, func(t *testing.T) { wantPlainMap(t, l) })
	}
}

// stalled are the pages of a tree with more pages in its rows whose High is their low end, so that no key belongs to them: such are a tree.
func stalled(rd *rand.Rand, l []redo.Slot, more int) []redo.Slot {
	free := l[len(l)-1].Page + 1
	for range more {
		i := rd.Intn(len(l))
		n := l[i].Node
		if n.Right == 0 {
			continue
		}
		between := api.Node{Level: n.Level, High: n.High, Right: n.Right}
		if n.Level > 0 {
			right, _ := redo.Find(l, n.Right)
			between.Kids = []int{right.Kids[0]}
		}
		l[i].Node.Right = free
		l = append(l, redo.Slot{Page: free, Node: between})
		free++
	}
	return l
}

func TestPagesToWhichNoKeyBelongs(t *testing.T) {
	wantPlainMap(t, []redo.Slot{
		{Page: 1, Node: inner(1, "", 0, []int{2, 3}, "m")},
		{Page: 2, Node: leaf("m", 3, "k")}, {Page: 3, Node: leaf("m", 4)}, {Page: 4, Node: leaf("", 0, "m")},
	})
	for seed := range 20 {
		rd := rand.New(rand.NewSource(int64(seed)))
		x := blink.New()
		s := steps.New(x)
		for range 150 {
			s.Do(randomOp(rd, 400))
		}
		l := stalled(rd, x.Pages(), 30)
		if e := blink.Check(l); e != api.OK {
			t.Fatalf("no tree: %v", l)
		}
		r := newRun(t, l)
		for range 800 {
			running := r.s.Running()
			if len(running) == 0 || len(running) < steps.MaxRunning && rd.Intn(3) == 0 {
				r.begin(randomOp(rd, 400))
				continue
			}
			r.step(running[rd.Intn(len(running))])
			r.check()
		}
		for _, id := range r.s.Running() {
			r.aloneToItsEnd(id)
			r.check()
		}
	}
}

// 14.2

func TestDoOfEachOperation(t *testing.T) {
	c := begin(t, twoFull())
	for i, x := range []struct {
		op   api.Op
		want steps.Result
		said []api.Record
	}{
		{get("d"), steps.Result{Result: api.Result{Found: true, Value: big}}, nil},
		{get("e"), found(false), nil},
		{put("d", "x"), found(true), []api.Record{rePut(1, 2, "d", "x")}},
		{put("a", "x"), found(false), []api.Record{rePut(2, 2, "a", "x")}},
		{del("d"), found(true), []api.Record{reDel(3, 2, "d")}},
		{del("d"), found(false), nil},
		{scan("f", "r"), told(letters("fhjmp")...), nil},
		{put("z", big), found(false), []api.Record{reNew(4, 4, leaf("", 0, letters("tvx")...)), reCut(5, 3, "t", 4), rePut(6, 4, "z", big), rePost(7, 1, "t", 4)}},
	} {
		r, l, e := c.s.Do(x.op)
		if !sameResult(r, x.want) || !slices.Equal(l, x.said) || e != api.OK {
			t.Errorf("Do(%v): %v, %v, %v, not %v, %v", x.op, r, l, e, x.want, x.said)
		}
		c.has(i, x.want)
		if _, e := c.s.Step(i); e != api.ErrState || len(c.s.Running()) != 0 {
			t.Errorf("Step(%d): %v; Running: %v", i, e, c.s.Running())
		}
	}
}

func TestDoBesideMachinesThatWait(t *testing.T) {
	c := begin(t, fullRoot())
	for range 7 {
		c.begin(put("c", big))
	}
	for id := range 7 {
		c.s.Step(id)
	}
	r, l, e := c.s.Do(put("l", "x"))
	if !sameResult(r, found(true)) || len(l) != 1 || e != api.OK {
		t.Errorf("Do: %v, %v, %v", r, l, e)
	}
	if l := c.s.Running(); !slices.Equal(l, []int{0, 1, 2, 3, 4, 5, 6}) {
		t.Errorf("Running: %v", l)
	}
}

func TestMachinesOfOneTreeBySeveral(t *testing.T) {
	x := treeOf(t, fullRoot())
	a, b := steps.New(x), steps.New(x)
	a.Do(put("c", big))
	if r, _, _ := b.Do(get("c")); !r.Found || r.Value != big {
		t.Errorf("get: %v", r)
	}
	if v, ok := x.Get("c"); v != big || !ok {
		t.Errorf("what was said was not said to the tree: %q, %v", v, ok)
	}
	if id, e := b.Begin(get("c")); id != 1 || e != api.OK {
		t.Errorf("Begin: %d, %v", id, e)
	}
}

func TestNoTreeAndNoMachines(t *testing.T) {
	var none *steps.Steps
	var zero steps.Steps
	for _, s := range []*steps.Steps{none, steps.New(nil), &zero} {
		for _, op := range []api.Op{get("a"), put("a", "x"), del("a"), scan("", "")} {
			if id, e := s.Begin(op); id != 0 || e != api.ErrFull {
				t.Errorf("Begin: %d, %v", id, e)
			}
			if r, l, e := s.Do(op); !sameResult(r, steps.Result{}) || l != nil || e != api.ErrFull {
				t.Errorf("Do: %v, %v, %v", r, l, e)
			}
		}
		for _, op := range []api.Op{{}, get(""), put("a", long("v", 33)), scan("", long("k", 17))} {
			if id, e := s.Begin(op); id != 0 || e != api.ErrArg {
				t.Errorf("Begin: %d, %v", id, e)
			}
			if r, l, e := s.Do(op); !sameResult(r, steps.Result{}) || l != nil || e != api.ErrArg {
				t.Errorf("Do: %v, %v, %v", r, l, e)
			}
		}
		for _, id := range []int{-1, 0, 1, math.MaxInt} {
			if l, e := s.Step(id); l != nil || e != api.ErrNone {
				t.Errorf("Step: %v, %v", l, e)
			}
			if r, ok := s.Result(id); !sameResult(r, steps.Result{}) || ok {
				t.Errorf("Result: %v, %v", r, ok)
			}
		}
		if l := s.Running(); len(l) != 0 {
			t.Errorf("Running: %v", l)
		}
	}
}

// Numbers of the log that come to their end: what belongs together is said whole or not at all.
func TestNoNumbersLeft(t *testing.T) {
	for left := range 3 {
		l := fullRoot()
		l[0].Node.LSN = api.MaxLSN - left
		c := begin(t, l)
		a := c.begin(put("a", big)) // the root needs three
		c.says(a, true)
		c.has(a, failed())
		if !sameSlots(c.tree.Pages(), l) {
			t.Errorf("the tree was changed: %v", c.tree.Pages())
		}
	}
	for left := range 2 {
		l := twoFull()
		l[0].Node.LSN = api.MaxLSN - left
		c := begin(t, l)
		a := c.begin(put("z", big)) // a leaf needs two
		c.moves(a, 1)
		c.says(a, true)
		c.has(a, failed())
		if !sameSlots(c.tree.Pages(), l) {
			t.Errorf("the tree was changed: %v", c.tree.Pages())
		}
	}
	l := twoFull()
	l[0].Node.LSN = api.MaxLSN - 3
	c := begin(t, l)
	if r, rs, e := c.s.Do(put("z", big)); !sameResult(r, found(false)) || len(rs) != 3 || e != api.OK { // but its post is not said
		t.Errorf("Do: %v, %v, %v", r, rs, e)
	}
	for op, want := range map[api.Op]steps.Result{
		put("b", "x"): failed(), del("b"): failed(), del("c"): found(false), get("z"): {Result: api.Result{Found: true, Value: big}}, scan("", "d"): told("b"),
	} {
		if r, rs, e := c.s.Do(op); !sameResult(r, want) || rs != nil || e != api.OK {
			t.Errorf("Do(%v): %v, %v, %v, not %v", op, r, rs, e, want)
		}
	}
	c.holds(letters("bdfhjmprtvxz")...)
}

// P1: pages that are no tree any more.

func TestWalksThatGoRoundEnd(t *testing.T) {
	for _, x := range []struct {
		what string
		rs   []api.Record
	}{
		{"a leaf that is its own Right", []api.Record{reCut(0, 1, "c", 1)}},
		{"a root that is its own kid", []api.Record{reNew(0, 1, inner(1, "", 0, []int{1}))}},
		{"two leaves that go round", []api.Record{reNew(0, 2, leaf("b", 1)), reCut(0, 1, "b", 2)}},
		{"two inner pages that go round", []api.Record{reNew(0, 2, inner(2, "", 0, []int{1})), reNew(0, 1, inner(2, "", 0, []int{2}))}},
		{"a Right that is not there", []api.Record{reCut(0, 1, "c", 9)}},
		{"a kid that is not there", []api.Record{reNew(0, 1, inner(1, "", 0, []int{9}))}},
		{"a last page with a High", []api.Record{reNew(0, 1, leaf("c", 0, "b"))}},
	} {
		for _, op := range []api.Op{get("l"), put("l", "x"), del("l"), scan("l", "")} {
			c := begin(t, fullRoot())
			for _, r := range x.rs {
				if _, e := c.tree.Say(r); e != api.OK {
					t.Fatal(e)
				}
			}
			r, l, e := c.s.Do(op)
			if !sameResult(r, failed()) || l != nil || e != api.OK || len(c.s.Running()) != 0 {
				t.Errorf("%s: Do(%v): %v, %v, %v", x.what, op, r, l, e)
			}
		}
	}
	// a scan along leaves that go round, all of which have entries for it
	c := begin(t, fullRoot())
	c.tree.Say(reCut(0, 1, "f", 1))
	if r, l, e := c.s.Do(scan("", "")); !sameResult(r, failed()) || l != nil || e != api.OK {
		t.Errorf("Do: %v, %v, %v", r, l, e)
	}
}

// A page that a cut has made too long is not right: who comes to it gives up.
func TestAPageThatIsNotRight(t *testing.T) {
	for _, op := range []api.Op{get("b"), put("b", "x"), del("b")} {
		c := begin(t, fullRoot())
		c.tree.Say(reCut(0, 1, long("l", 16), 2))
		if r, l, e := c.s.Do(op); !sameResult(r, failed()) || l != nil || e != api.OK {
			t.Errorf("Do(%v): %v, %v, %v", op, r, l, e)
		}
	}
}

// A posting in pages that are no tree any more ends, too; its operation has its result.
func TestAPostingThatIsLost(t *testing.T) {
	for _, rs := range [][]api.Record{
		{reNew(0, 1, inner(2, "", 0, []int{1}))},
		{reNew(0, 1, inner(2, "", 0, []int{9}))},
		{reNew(0, 1, leaf("", 0))},
		{reNew(0, 1, inner(1, "c", 0, []int{2}))},
		{reNew(0, 1, inner(1, "c", 1, []int{2}))},
	} {
		c := begin(t, twoFull())
		a := c.begin(put("z", big))
		for range 4 {
			if _, e := c.s.Step(a); e != api.OK {
				t.Fatal(e)
			}
		}
		c.has(a, found(false))
		for _, r := range rs {
			if _, e := c.tree.Say(r); e != api.OK {
				t.Fatal(e)
			}
		}
		for n := 0; slices.Contains(c.s.Running(), a); n++ {
			if l, e := c.s.Step(a); l != nil || e != api.OK || n > api.MaxPages {
				t.Fatalf("Step: %v, %v", l, e)
			}
		}
		c.has(a, found(false))
	}
}

// A post that is refused is gone, and the next one is tried.
func TestPostsThatAreRefused(t *testing.T) {
	c := begin(t, []redo.Slot{
		{Page: 1, Node: inner(1, "", 0, []int{2})},
		{Page: 2, Node: leaf("", 0, letters("bdfhjl")...)},
	})
	a := c.begin(put("c", big))
	c.moves(a, 1)
	c.says(a, false, reNew(1, 3, leaf("", 0, letters("hjl")...)), reCut(2, 2, "h", 3))
	for i, k := range []string{"a", "aa", "e"} {
		x := c.begin(put(k, big))
		c.moves(x, 1)
		c.says(x, false, rePut(3+i, 2, k, big))
		c.says(x, true)
	}
	c.says(a, false, reNew(6, 4, leaf("h", 3, letters("def")...)), reCut(7, 2, "d", 4))
	c.says(a, false, rePut(8, 2, "c", big))
	c.tree.Say(reNew(0, 1, leaf("", 0)))
	for _, running := range []int{1, 0} {
		if l, e := c.s.Step(a); l != nil || e != api.OK || len(c.s.Running()) != running {
			t.Errorf("Step: %v, %v; Running: %v", l, e, c.s.Running())
		}
	}
	c.has(a, found(false))
}

func TestAnyPagesAtAll(t *testing.T) {
	rd := rand.New(rand.NewSource(5))
	key := func() string { return letters("abcdefghij")[rd.Intn(10)] }
	number := func() int { return 1 + rd.Intn(6) }
	for range 400 {
		x := blink.New()
		s := steps.New(x)
		exhaust(t, x, 20)
		for range 60 {
			switch rd.Intn(12) {
			case 0:
				x.Say(reCut(0, number(), key(), number()))
			case 1:
				x.Say(rePost(0, number(), key(), number()))
			case 2:
				x.Say(reNew(0, number(), inner(1+rd.Intn(3), "", number(), []int{number(), number()}, key())))
			case 3:
				x.Say(reNew(0, number(), leaf("k", rd.Intn(7), key())))
			case 4:
				x.Say(rePut(0, number(), key(), big))
			case 5:
				s.Do([]api.Op{get(key()), put(key(), big), del(key()), scan("", key())}[rd.Intn(4)])
			case 6, 7:
				s.Begin([]api.Op{get(key()), put(key(), big), del(key()), scan("", "")}[rd.Intn(4)])
			default:
				if l := s.Running(); len(l) > 0 {
					s.Step(l[rd.Intn(len(l))])
				}
			}
		}
		for _, id := range s.Running() {
			for n := 0; slices.Contains(s.Running(), id); n++ {
				if s.Step(id); n > 1000*api.MaxPages {
					t.Fatal("a machine does not come to its end")
				}
			}
			if _, ok := s.Result(id); !ok {
				t.Fatal("a machine is over without a result")
			}
		}
	}
}

// R3

// Where answers are written over, all later ones are the same.
func TestNothingIsShared(t *testing.T) {
	play := func(spoil bool) string {
		x := blink.New()
		s := steps.New(x)
		rd := rand.New(rand.NewSource(7))
		var log strings.Builder
		records := func(l []api.Record) {
			fmt.Fprintln(&log, l)
			if spoil {
				l = l[:cap(l)]
				for i := range l {
					l[i] = api.Record{Key: "scribble"}
				}
			}
		}
		result := func(r steps.Result) {
			fmt.Fprintln(&log, r)
			if spoil {
				l := r.Entries[:cap(r.Entries)]
				for i := range l {
					l[i] = api.Entry{Key: "scribble"}
				}
			}
		}
		for range 600 {
			running := s.Running()
			id := 0
			if len(running) > 0 {
				id = running[rd.Intn(len(running))]
			}
			if spoil {
				all := running[:cap(running)]
				for i := range all {
					all[i] = -7
				}
			}
			switch rd.Intn(4) {
			case 0:
				s.Begin(randomOp(rd, 50))
			case 1:
				r, l, _ := s.Do(randomOp(rd, 50))
				result(r)
				records(l)
			default:
				l, _ := s.Step(id)
				records(l)
				for range 2 {
					r, ok := s.Result(id)
					fmt.Fprintln(&log, id, ok)
					result(r)
				}
			}
		}
		fmt.Fprintln(&log, x.Pages(), s.Running())
		return log.String()
	}
	if play(false) != play(true) {
		t.Error("what is told is shared")
	}
	if play(false) != play(false) {
		t.Error("the same calls tell something else")
	}
}

// The chapter's example.

func TestExamples(t *testing.T) {
	x := blink.New()
	s := steps.New(x)
	if r, l, e := s.Do(put("a", "x")); !sameResult(r, found(false)) || !slices.Equal(l, []api.Record{rePut(1, 1, "a", "x")}) || e != api.OK {
		t.Errorf("put a x: %v, %v, %v", r, l, e)
	}
	for _, k := range letters("bcdefghij") {
		_, l, e := s.Do(put(k, big))
		if e != api.OK {
			t.Fatal(e)
		}
		if len(l) == 1 {
			continue
		}
		var got []string
		for _, r := range l {
			got = append(got, fmt.Sprint(r.Kind, " ", r.Page))
		}
		if !slices.Equal(got, []string{"4 2", "4 3", "4 1", "2 3"}) {
			t.Errorf("the root is parted: %v", got)
		}
		return
	}
	t.Error("the root was never parted")
}
