package node_test

import (
	"math"
	"math/rand"
	"slices"
	"strings"
	"testing"

	"lattice/api"
	"lattice/node"
	"lattice/page"
)

// long is a text of n bytes that begins with a letter.
func long(letter string, n int) string { return letter + strings.Repeat("x", n-len(letter)) }

func same(a, b api.Node) bool {
	return a.Level == b.Level && a.LSN == b.LSN && a.Right == b.Right && a.High == b.High &&
		slices.Equal(a.Keys, b.Keys) && slices.Equal(a.Vals, b.Vals) && slices.Equal(a.Kids, b.Kids)
}

// leaf is a leaf of keys, each with a value.
func leaf(high string, right int, entries ...string) api.Node {
	n := api.Node{LSN: 77, Right: right, High: high}
	for i := 0; i < len(entries); i += 2 {
		n.Keys = append(n.Keys, entries[i])
		n.Vals = append(n.Vals, entries[i+1])
	}
	return n
}

// inner is an inner node of keys; its kids are 11, 12, 13 ..
func inner(high string, right int, keys ...string) api.Node {
	n := api.Node{Level: 2, LSN: 78, Right: right, High: high, Keys: keys}
	for i := range len(keys) + 1 {
		n.Kids = append(n.Kids, 11+i)
	}
	return n
}

// entry is a key with its value or its kid.
type entry struct {
	key, val string
	kid      int
}

// entries are a right node's entries.
func entries(n api.Node) []entry {
	var l []entry
	for i, k := range n.Keys {
		if n.Level == 0 {
			l = append(l, entry{key: k, val: n.Vals[i]})
		} else {
			l = append(l, entry{key: k, kid: n.Kids[i+1]})
		}
	}
	return l
}

// with is a node that has other entries; first is the first kid of an inner one.
func with(n api.Node, first int, l []entry) api.Node {
	slices.SortFunc(l, func(a, b entry) int { return strings.Compare(a.key, b.key) })
	n.Keys, n.Vals, n.Kids = nil, nil, nil
	if n.Level != 0 {
		n.Kids = []int{first}
	}
	for _, x := range l {
		n.Keys = append(n.Keys, x.key)
		if n.Level == 0 {
			n.Vals = append(n.Vals, x.val)
		} else {
			n.Kids = append(n.Kids, x.kid)
		}
	}
	return n
}

// firstKid is the kid ahead of all keys; of a leaf 0.
func firstKid(n api.Node) int {
	if n.Level == 0 {
		return 0
	}
	return n.Kids[0]
}

// size is how many bytes a node needs.
func size(n api.Node) int {
	size := 21 + len(n.High)
	if n.Level != 0 {
		size += 4
	}
	for _, x := range entries(n) {
		size += entrySize(n, x)
	}
	return size
}

func entrySize(n api.Node, x entry) int {
	if n.Level == 0 {
		return 4 + len(x.key) + len(x.val)
	}
	return 6 + len(x.key)
}

// anyText is a text of so many bytes at random; few letters, so that texts begin with each other.
func anyText(g *rand.Rand, least, most int) string {
	b := make([]byte, least+g.Intn(most-least+1))
	for i := range b {
		b[i] = "\x00ab\xff"[g.Intn(4)]
	}
	return string(b)
}

// anyRight is a node that is right, at random.
func anyRight(g *rand.Rand) api.Node {
	n := api.Node{Level: g.Intn(2) * (1 + g.Intn(20)), LSN: g.Intn(api.MaxLSN + 1), Right: g.Intn(api.MaxPages + 1)}
	most := 1 + g.Intn(api.MaxKey)
	var keys []string
	for range g.Intn(25) {
		keys = append(keys, anyText(g, 1, most))
	}
	slices.Sort(keys)
	keys = slices.Compact(keys)
	if len(keys) > 0 && g.Intn(2) == 0 {
		n.High, keys = keys[len(keys)-1], keys[:len(keys)-1]
	}
	var l []entry
	for _, k := range keys {
		x := entry{k, anyText(g, 0, g.Intn(api.MaxValue+1)), 1 + g.Intn(api.MaxPages)}
		if next := with(n, 1, append(slices.Clone(l), x)); size(next) <= api.PageSize {
			l = append(l, x)
		}
	}
	return with(n, 1+g.Intn(api.MaxPages), l)
}

// nearKey is a key of a node, its bound, one beside them, or any.
func nearKey(g *rand.Rand, n api.Node) string {
	l := append(slices.Clone(n.Keys), anyText(g, 1, api.MaxKey))
	if n.High != "" {
		l = append(l, n.High)
	}
	k := l[g.Intn(len(l))]
	switch g.Intn(4) {
	case 0:
		if len(k) < api.MaxKey {
			return k + "\x00"
		}
	case 1:
		if len(k) > 1 {
			return k[:len(k)-1]
		}
	}
	return k
}

// someNodes are nodes that are right, of all shapes.
func someNodes() []api.Node {
	return []api.Node{
		{},
		{Keys: []string{}, Vals: []string{}, Kids: []int{}},
		leaf("", 0, "m", "1"),
		leaf("x", 4, "a", "1", "b", "2", "c", "3", "d", "4"),
		leaf("", 9, "a", "", "ab", long("v", 32), "b", "x"),
		leaf(long("z", 16), api.MaxPages, long("a", 16), long("v", 32), long("b", 16), long("w", 32)),
		{Level: 1, Kids: []int{3}},
		{Level: 1, Kids: []int{3}, Keys: []string{}, Vals: []string{}, High: "m", Right: 5},
		inner("", 0, "m"),
		inner("x", 6, "b", "d", "f", "h"),
		inner("\xff", 6, "\x00", "\x00\x00", "ab"),
		{Level: 20, LSN: api.MaxLSN, Right: api.MaxPages, Kids: []int{api.MaxPages, 1}, Keys: []string{long("k", 16)}},
	}
}

// wrongNodes are nodes that are not right.
func wrongNodes() []api.Node {
	long17 := long("k", api.MaxKey+1)
	l := []api.Node{
		{Level: -1},
		{Level: -1, Kids: []int{1}},
		{Level: 21, Kids: []int{1}},
		{LSN: -1},
		{LSN: api.MaxLSN + 1},
		{Right: -1},
		{Right: api.MaxPages + 1},
		{High: long17},
		{Keys: []string{""}, Vals: []string{""}},
		{Keys: []string{long17}, Vals: []string{""}},
		{Keys: []string{"b", "a"}, Vals: []string{"", ""}},
		{Keys: []string{"a", "a"}, Vals: []string{"", ""}},
		{High: "b", Keys: []string{"a", "b"}, Vals: []string{"", ""}},
		{Keys: []string{"a", "b"}},
		{Keys: []string{"a", "b"}, Vals: []string{""}},
		{Vals: []string{""}},
		{Keys: []string{"a"}, Vals: []string{long("v", api.MaxValue+1)}},
		{Keys: []string{"a"}, Vals: []string{""}, Kids: []int{1}},
		{Level: 1},
		{Level: 1, Keys: []string{"a"}},
		{Level: 1, Keys: []string{"a", "b"}, Kids: []int{1, 2}},
		{Level: 1, Keys: []string{"a", "b"}, Kids: []int{1, 2, 3, 4}},
		{Level: 1, Keys: []string{"a", "b"}, Kids: []int{1, 0, 3}},
		{Level: 1, Keys: []string{"a", "b"}, Kids: []int{1, 2, api.MaxPages + 1}},
		{Level: 1, Keys: []string{"a", "b"}, Kids: []int{1, 2, 3}, Vals: []string{""}},
		{Level: 1, Keys: []string{"b", "a"}, Kids: []int{1, 2, 3}},
	}
	full := leaf("", 0)
	for i := range 48 { // of 261 bytes
		full.Keys, full.Vals = append(full.Keys, string([]byte{byte(i)})), append(full.Vals, "")
	}
	return append(l, full)
}

func wantErr(t *testing.T, what string, got, want api.Errno) {
	t.Helper()
	if got != want {
		t.Errorf("%s: %v, not %v", what, got, want)
	}
}

func wantGet(t *testing.T, n api.Node, k, want string, wantOK bool, wantE api.Errno) {
	t.Helper()
	if v, ok, e := node.Get(n, k); v != want || ok != wantOK || e != wantE {
		t.Errorf("Get(%v, %q): %q, %v, %v, not %q, %v, %v", n, k, v, ok, e, want, wantOK, wantE)
	}
}

func wantKid(t *testing.T, n api.Node, k string, want int, wantE api.Errno) {
	t.Helper()
	if kid, e := node.Kid(n, k); kid != want || e != wantE {
		t.Errorf("Kid(%v, %q): %d, %v, not %d, %v", n, k, kid, e, want, wantE)
	}
}

func wantSplit(t *testing.T, n api.Node, want string, wantE api.Errno) {
	t.Helper()
	if s, e := node.Split(n); s != want || e != wantE {
		t.Errorf("Split(%v): %q, %v, not %q, %v", n, s, e, want, wantE)
	}
}

// wantNode holds what a call answered against what it should have: no node beside an error.
func wantNode(t *testing.T, what string, got api.Node, e api.Errno, want api.Node, wantE api.Errno) {
	t.Helper()
	if wantE != api.OK {
		want = api.Node{}
	}
	if !same(got, want) || e != wantE {
		t.Errorf("%s: %v, %v, not %v, %v", what, got, e, want, wantE)
	}
}

func wantPut(t *testing.T, n api.Node, k, v string, want api.Node, wantE api.Errno) {
	t.Helper()
	got, e := node.Put(n, k, v)
	wantNode(t, "Put", got, e, want, wantE)
}

func wantDel(t *testing.T, n api.Node, k string, want api.Node, wantE api.Errno) {
	t.Helper()
	got, e := node.Del(n, k)
	wantNode(t, "Del", got, e, want, wantE)
}

func wantPost(t *testing.T, n api.Node, k string, kid int, want api.Node, wantE api.Errno) {
	t.Helper()
	got, e := node.Post(n, k, kid)
	wantNode(t, "Post", got, e, want, wantE)
}

func wantLeft(t *testing.T, n api.Node, k string, right int, want api.Node, wantE api.Errno) {
	t.Helper()
	got, e := node.Left(n, k, right)
	wantNode(t, "Left", got, e, want, wantE)
}

func wantRest(t *testing.T, n api.Node, k string, want api.Node, wantE api.Errno) {
	t.Helper()
	got, e := node.Rest(n, k)
	wantNode(t, "Rest", got, e, want, wantE)
}

// Each error ahead of the next one

// args are what a call is made with.
type args struct {
	n    api.Node
	k, v string
	num  int
}

// call is one of the package's functions; it tells whether all beside its error is zero.
type call struct {
	name                 string
	key, value, num      bool // what it is given beside its node
	forLeaves, forInners bool
	do                   func(a args) (bool, api.Errno)
}

func calls() []call {
	none := func(n api.Node, e api.Errno) (bool, api.Errno) { return same(n, api.Node{}), e }
	return []call{
		{name: "Get", key: true, forLeaves: true, do: func(a args) (bool, api.Errno) {
			v, ok, e := node.Get(a.n, a.k)
			return v == "" && !ok, e
		}},
		{name: "Kid", key: true, forInners: true, do: func(a args) (bool, api.Errno) {
			kid, e := node.Kid(a.n, a.k)
			return kid == 0, e
		}},
		{name: "Put", key: true, value: true, forLeaves: true, do: func(a args) (bool, api.Errno) { return none(node.Put(a.n, a.k, a.v)) }},
		{name: "Del", key: true, forLeaves: true, do: func(a args) (bool, api.Errno) { return none(node.Del(a.n, a.k)) }},
		{name: "Post", key: true, num: true, forInners: true, do: func(a args) (bool, api.Errno) { return none(node.Post(a.n, a.k, a.num)) }},
		{name: "Split", do: func(a args) (bool, api.Errno) {
			s, e := node.Split(a.n)
			return s == "", e
		}},
		{name: "Left", key: true, num: true, do: func(a args) (bool, api.Errno) { return none(node.Left(a.n, a.k, a.num)) }},
		{name: "Rest", key: true, do: func(a args) (bool, api.Errno) { return none(node.Rest(a.n, a.k)) }},
	}
}

// wanted is the first error of those that all calls share; OK, if there is none.
func wanted(c call, a args, nodeIsWrong bool) api.Errno {
	switch {
	case nodeIsWrong:
		return api.ErrNode
	case c.key && (a.k == "" || len(a.k) > 16):
		return api.ErrKey
	case c.value && len(a.v) > 32:
		return api.ErrValue
	case c.num && (a.num < 1 || a.num > 4096):
		return api.ErrArg
	case c.forLeaves && a.n.Level != 0, c.forInners && a.n.Level == 0:
		return api.ErrState
	case c.key && a.n.High != "" && a.k >= a.n.High:
		return api.ErrSide
	}
	return api.OK
}

func TestErrorsInTheirOrder(t *testing.T) {
	seen := map[api.Errno]int{}
	for _, c := range calls() {
		for _, n := range []api.Node{leaf("m", 3, "a", "1", "b", "2"), leaf("", 0, "a", "1", "b", "2"), inner("m", 3, "a", "b"), inner("", 0, "a", "b")} {
			for _, wrong := range []bool{true, false} {
				n := n
				if wrong {
					n.LSN = -1
				}
				for _, k := range []string{"a", "m", "ma", "z", "", long("a", 17), long("m", 17), long("z", 70000)} {
					for _, v := range []string{"v", long("v", 32), long("v", 33), long("v", 70000)} {
						for _, num := range []int{12, 1, 4096, 0, -1, 4097, math.MinInt, math.MaxInt} {
							a := args{n, k, v, num}
							want := wanted(c, a, wrong)
							zero, e := c.do(a)
							if want == api.OK && e == api.ErrForm && c.name == "Post" || want == api.OK && e == api.ErrNone && n.Level != 0 {
								e = api.OK // k is a key of n, or none: told by other tests
							}
							if e != want || e != api.OK && !zero {
								t.Fatalf("%s(%v): %v (nothing beside it: %v), not %v", c.name, a, e, zero, want)
							}
							seen[e]++
						}
					}
				}
			}
		}
	}
	for _, e := range []api.Errno{api.OK, api.ErrNode, api.ErrKey, api.ErrValue, api.ErrArg, api.ErrState, api.ErrSide} {
		if seen[e] == 0 {
			t.Errorf("%v was not seen", e)
		}
	}
}

func TestNodesThatAreNotRight(t *testing.T) {
	for _, n := range wrongNodes() {
		if page.Check(n) == api.OK {
			t.Fatalf("%v is right", n)
		}
		for _, c := range calls() {
			for _, a := range []args{{n, "a", "v", 1}, {n, "", long("v", 33), 0}, {n, "z", "", 2}} {
				if zero, e := c.do(a); e != api.ErrNode || !zero {
					t.Errorf("%s(%v): %v (nothing beside it: %v), not ErrNode", c.name, a, e, zero)
				}
			}
		}
	}
}

// 7.1

func TestFurther(t *testing.T) {
	for _, c := range []struct {
		high, k string
		want    bool
	}{
		{"", "", false},
		{"", "a", false},
		{"", "\xff\xff", false},
		{"", long("z", 70000), false},
		{"m", "", false},
		{"m", "a", false},
		{"m", "l\xff", false},
		{"m", "m", true},
		{"m", "m\x00", true},
		{"m", "n", true},
		{"m", "\xff", true},
		{"mm", "m", false},
		{"mm", "ml", false},
		{"mm", "mm", true},
		{"\x00", "\x00", true},
		{"\x00", "", false},
		{"\xff", "\xfe\xff", false},
		{"\xff", "\xff", true},
		{long("m", 17), long("m", 16), false},
		{long("m", 70000), long("m", 70000), true},
	} {
		for _, n := range []api.Node{
			leaf(c.high, 2, "a", "1"),
			inner(c.high, 2, "a"),
			{High: c.high},
			{Level: -5, LSN: -1, Right: -1, High: c.high, Keys: []string{"z", "", "a"}, Vals: []string{"x"}, Kids: []int{0}}, // not right
		} {
			if got := node.Further(n, c.k); got != c.want {
				t.Errorf("Further(%.60v, %.20q): %v", n, c.k, got)
			}
		}
	}
}

func TestGet(t *testing.T) {
	n := leaf("x", 4, "a", "1", "b", "", "c", "\x00\xff", "cc", long("v", 32))
	wantGet(t, n, "a", "1", true, api.OK)
	wantGet(t, n, "b", "", true, api.OK) // an empty value is one
	wantGet(t, n, "c", "\x00\xff", true, api.OK)
	wantGet(t, n, "cc", long("v", 32), true, api.OK)
	for _, k := range []string{"A", "a\x00", "aa", "bb", "ca", "ccc", "w\xff", long("c", 16)} {
		wantGet(t, n, k, "", false, api.OK)
	}
	for _, k := range []string{"x", "x\x00", "y", "\xff"} {
		wantGet(t, n, k, "", false, api.ErrSide)
	}
	wantGet(t, n, "", "", false, api.ErrKey)
	wantGet(t, n, long("a", 17), "", false, api.ErrKey)
	n.High = ""
	wantGet(t, n, "x", "", false, api.OK)
	wantGet(t, n, "\xff", "", false, api.OK)
	wantGet(t, api.Node{}, "a", "", false, api.OK)
	wantGet(t, leaf("", 0, "m", "1"), "m", "1", true, api.OK)
	wantGet(t, leaf("", 0, "m", "1"), "n", "", false, api.OK)
	wantGet(t, inner("", 0, "m"), "m", "", false, api.ErrState)
	wantGet(t, inner("m", 0, "a"), "m", "", false, api.ErrState)
}

func TestKid(t *testing.T) {
	n := inner("x", 4, "b", "d", "dd", "f")
	for _, c := range []struct {
		k    string
		want int
	}{{"\x00", 11}, {"a", 11}, {"a\xff", 11}, {"b", 12}, {"b\x00", 12}, {"c", 12}, {"d", 13}, {"dc", 13}, {"dd", 14}, {"e", 14}, {"f", 15}, {"g", 15}, {"w\xff", 15}} {
		wantKid(t, n, c.k, c.want, api.OK)
	}
	for _, k := range []string{"x", "x\x00", "y"} {
		wantKid(t, n, k, 0, api.ErrSide)
	}
	n.High = ""
	wantKid(t, n, "\xff", 15, api.OK)
	wantKid(t, n, "", 0, api.ErrKey)
	wantKid(t, n, long("a", 17), 0, api.ErrKey)
	bare := api.Node{Level: 1, Kids: []int{7}, High: "m"}
	wantKid(t, bare, "a", 7, api.OK)
	wantKid(t, bare, "l\xff", 7, api.OK)
	wantKid(t, bare, "m", 0, api.ErrSide)
	wantKid(t, api.Node{Level: 20, Kids: []int{4096}}, "\xff", 4096, api.OK)
	twice := api.Node{Level: 1, Keys: []string{"m"}, Kids: []int{5, 5}}
	wantKid(t, twice, "a", 5, api.OK)
	wantKid(t, twice, "z", 5, api.OK)
	wantKid(t, leaf("", 0, "a", "1"), "a", 0, api.ErrState)
	wantKid(t, leaf("a", 0), "z", 0, api.ErrState)
}

func TestLooksOfAnyNode(t *testing.T) {
	g := rand.New(rand.NewSource(70))
	for range 20000 {
		n := anyRight(g)
		k := nearKey(g, n)
		beyond := n.High != "" && n.High <= k
		if node.Further(n, k) != beyond {
			t.Fatalf("Further(%v, %q): %v", n, k, !beyond)
		}
		val, found, kid := "", false, firstKid(n)
		for _, x := range entries(n) {
			if x.key == k {
				val, found = x.val, true
			}
			if x.key <= k {
				kid = x.kid
			}
		}
		switch {
		case n.Level == 0 && beyond:
			wantGet(t, n, k, "", false, api.ErrSide)
			wantKid(t, n, k, 0, api.ErrState)
		case n.Level == 0:
			wantGet(t, n, k, val, found, api.OK)
			wantKid(t, n, k, 0, api.ErrState)
		case beyond:
			wantGet(t, n, k, "", false, api.ErrState)
			wantKid(t, n, k, 0, api.ErrSide)
		default:
			wantGet(t, n, k, "", false, api.ErrState)
			wantKid(t, n, k, kid, api.OK)
		}
	}
}

// 7.2

func TestPut(t *testing.T) {
	n := leaf("x", 4, "b", "1", "d", "2")
	wantPut(t, n, "a", "9", leaf("x", 4, "a", "9", "b", "1", "d", "2"), api.OK)
	wantPut(t, n, "c", "9", leaf("x", 4, "b", "1", "c", "9", "d", "2"), api.OK)
	wantPut(t, n, "w", "9", leaf("x", 4, "b", "1", "d", "2", "w", "9"), api.OK)
	wantPut(t, n, "b\x00", "", leaf("x", 4, "b", "1", "b\x00", "", "d", "2"), api.OK)
	wantPut(t, n, "b", "9", leaf("x", 4, "b", "9", "d", "2"), api.OK)
	wantPut(t, n, "d", "", leaf("x", 4, "b", "1", "d", ""), api.OK)
	wantPut(t, n, "b", "1", n, api.OK)
	wantPut(t, n, long("c", 16), long("v", 32), leaf("x", 4, "b", "1", long("c", 16), long("v", 32), "d", "2"), api.OK)
	wantPut(t, api.Node{}, "m", "1", api.Node{Keys: []string{"m"}, Vals: []string{"1"}}, api.OK)
	for _, k := range []string{"x", "x\x00", "y"} {
		wantPut(t, n, k, "9", n, api.ErrSide)
	}
	wantPut(t, n, "", "9", n, api.ErrKey)
	wantPut(t, n, long("c", 17), "9", n, api.ErrKey)
	wantPut(t, n, "c", long("v", 33), n, api.ErrValue)
	wantPut(t, inner("", 0, "m"), "a", "1", n, api.ErrState)
	n.High = ""
	wantPut(t, n, "\xff", "9", leaf("", 4, "b", "1", "d", "2", "\xff", "9"), api.OK)
}

// nearlyFull is a leaf with so many bytes of room (from 0 to 31).
func nearlyFull(room int) api.Node {
	n := leaf("z", 3, "b", long("v", 32), "d", long("v", 32), "f", long("v", 32), "h", long("v", 32), "j", long("v", 32), long("l", 13), long("v", 32))
	n.Vals[5] = n.Vals[5][room:] // it would be full
	return n
}

func TestPutUntilTheNodeIsFull(t *testing.T) {
	for room := range 32 {
		n := nearlyFull(room)
		if size(n) != api.PageSize-room || page.Check(n) != api.OK {
			t.Fatalf("%d bytes", size(n))
		}
		for _, k := range []string{"a", "e", "m", "aa"} { // a new key
			for length := range 33 {
				v := strings.Repeat("w", length)
				want := with(n, 0, append(entries(n), entry{key: k, val: v}))
				wantE := api.OK
				if 4+len(k)+length > room {
					wantE = api.ErrFull
				}
				wantPut(t, n, k, v, want, wantE)
			}
		}
		for length := range 33 { // a key that is there
			want := n
			want.Vals = append(slices.Clone(n.Vals[:5]), strings.Repeat("w", length))
			wantE := api.OK
			if length-len(n.Vals[5]) > room {
				wantE = api.ErrFull
			}
			wantPut(t, n, n.Keys[5], want.Vals[5], want, wantE)
		}
	}
	full := nearlyFull(0)
	wantPut(t, full, "b", "", with(full, 0, append(entries(full)[1:], entry{key: "b"})), api.OK)
	wantPut(t, full, "b", long("w", 32), with(full, 0, append(entries(full)[1:], entry{key: "b", val: long("w", 32)})), api.OK)
	wantPut(t, full, "zz", "", full, api.ErrSide) // ahead of ErrFull
}

func TestDel(t *testing.T) {
	n := leaf("x", 4, "a", "1", "b", "2", "c", "3")
	wantDel(t, n, "a", leaf("x", 4, "b", "2", "c", "3"), api.OK)
	wantDel(t, n, "b", leaf("x", 4, "a", "1", "c", "3"), api.OK)
	wantDel(t, n, "c", leaf("x", 4, "a", "1", "b", "2"), api.OK)
	for _, k := range []string{"A", "aa", "a\x00", "d", "w\xff", long("a", 16)} {
		wantDel(t, n, k, n, api.OK)
	}
	for _, k := range []string{"x", "x\x00", "y"} {
		wantDel(t, n, k, n, api.ErrSide)
	}
	wantDel(t, n, "", n, api.ErrKey)
	wantDel(t, n, long("a", 17), n, api.ErrKey)
	wantDel(t, leaf("", 5, "m", "1"), "m", leaf("", 5), api.OK)
	wantDel(t, leaf("", 5, "m", "1"), "\xff", leaf("", 5, "m", "1"), api.OK)
	wantDel(t, api.Node{}, "m", api.Node{}, api.OK)
	wantDel(t, inner("", 0, "m"), "m", n, api.ErrState)
}

func TestPost(t *testing.T) {
	n := inner("x", 4, "b", "d") // of kids 11 12 13
	kids := func(keys []string, kids ...int) api.Node {
		m := inner("x", 4, keys...)
		m.Kids = kids
		return m
	}
	wantPost(t, n, "a", 7, kids([]string{"a", "b", "d"}, 11, 7, 12, 13), api.OK)
	wantPost(t, n, "c", 7, kids([]string{"b", "c", "d"}, 11, 12, 7, 13), api.OK)
	wantPost(t, n, "w", 7, kids([]string{"b", "d", "w"}, 11, 12, 13, 7), api.OK)
	wantPost(t, n, "b\x00", 12, kids([]string{"b", "b\x00", "d"}, 11, 12, 12, 13), api.OK)
	wantPost(t, n, "c", 1, kids([]string{"b", "c", "d"}, 11, 12, 1, 13), api.OK)
	wantPost(t, n, "c", 4096, kids([]string{"b", "c", "d"}, 11, 12, 4096, 13), api.OK)

	wantPost(t, n, "b", 12, n, api.OK) // there already
	wantPost(t, n, "d", 13, n, api.OK)
	for _, kid := range []int{11, 13, 1, 4096} {
		wantPost(t, n, "b", kid, n, api.ErrForm)
	}
	for _, kid := range []int{0, -1, 4097, math.MinInt, math.MaxInt} {
		wantPost(t, n, "c", kid, n, api.ErrArg)
		wantPost(t, n, "b", kid, n, api.ErrArg)
	}
	for _, k := range []string{"x", "x\x00", "y"} {
		wantPost(t, n, k, 7, n, api.ErrSide)
	}
	wantPost(t, n, "", 7, n, api.ErrKey)
	wantPost(t, n, long("c", 17), 7, n, api.ErrKey)
	wantPost(t, api.Node{Level: 1, Kids: []int{3}}, "m", 4, api.Node{Level: 1, Keys: []string{"m"}, Kids: []int{3, 4}}, api.OK)
	wantPost(t, leaf("", 0, "m", "1"), "m", 4, n, api.ErrState)
	wantPost(t, leaf("m", 0), "z", 4, n, api.ErrState)
}

// A post of a key that is there is told ahead of whether there is room.
func TestPostUntilTheNodeIsFull(t *testing.T) {
	for length := 1; length <= 16; length++ {
		n := api.Node{Level: 3, High: "\xff", Kids: []int{1}}
		for i := 0; ; i++ {
			k := long(string([]byte{byte(i)}), length)
			want := with(n, 1, append(entries(n), entry{key: k, kid: i + 2}))
			if size(want) > api.PageSize {
				wantPost(t, n, k, i+2, want, api.ErrFull)
				wantPost(t, n, n.Keys[0], n.Kids[1], n, api.OK)
				wantPost(t, n, n.Keys[0], n.Kids[1]+1, n, api.ErrForm)
				break
			}
			wantPost(t, n, k, i+2, want, api.OK)
			n = want
		}
		room := api.PageSize - size(n)
		for more := 1; more <= 16; more++ {
			k := long("\xfe", more)
			wantE := api.OK
			if 6+more > room {
				wantE = api.ErrFull
			}
			wantPost(t, n, k, 9, with(n, 1, append(entries(n), entry{key: k, kid: 9})), wantE)
		}
	}
}

// modelPut is a leaf with v as k's value, in plain words.
func modelPut(n api.Node, k, v string) (api.Node, api.Errno) {
	l := slices.DeleteFunc(entries(n), func(x entry) bool { return x.key == k })
	n = with(n, 0, append(l, entry{key: k, val: v}))
	if size(n) > api.PageSize {
		return api.Node{}, api.ErrFull
	}
	return n, api.OK
}

// modelPost is an inner node with k, and kid behind it.
func modelPost(n api.Node, k string, kid int) (api.Node, api.Errno) {
	l := entries(n)
	for _, x := range l {
		if x.key == k && x.kid != kid {
			return api.Node{}, api.ErrForm
		} else if x.key == k {
			return n, api.OK
		}
	}
	n = with(n, firstKid(n), append(l, entry{key: k, kid: kid}))
	if size(n) > api.PageSize {
		return api.Node{}, api.ErrFull
	}
	return n, api.OK
}

func TestChangesOfAnyNode(t *testing.T) {
	g := rand.New(rand.NewSource(71))
	seen := map[api.Errno]int{}
	for range 20000 {
		n := anyRight(g)
		k, v, kid := nearKey(g, n), anyText(g, 0, api.MaxValue), 1+g.Intn(api.MaxPages)
		if i := slices.Index(n.Keys, k); i >= 0 && n.Level > 0 && g.Intn(2) == 0 {
			kid = n.Kids[i+1]
		}
		put, putE := modelPut(n, k, v)
		del := with(n, 0, slices.DeleteFunc(entries(n), func(x entry) bool { return x.key == k }))
		delE := api.OK
		post, postE := modelPost(n, k, kid)
		if n.High != "" && n.High <= k {
			putE, delE, postE = api.ErrSide, api.ErrSide, api.ErrSide
		}
		if n.Level == 0 {
			postE = api.ErrState
		} else {
			putE, delE = api.ErrState, api.ErrState
		}
		wantPut(t, n, k, v, put, putE)
		wantDel(t, n, k, del, delE)
		wantPost(t, n, k, kid, post, postE)
		seen[putE]++
		seen[postE]++
	}
	for _, e := range []api.Errno{api.OK, api.ErrFull, api.ErrForm, api.ErrSide, api.ErrState} {
		if seen[e] < 100 {
			t.Errorf("%v was seen %d times", e, seen[e])
		}
	}
}

// 7.3

func TestSplitOfFewKeys(t *testing.T) {
	wantSplit(t, api.Node{}, "", api.ErrState)
	wantSplit(t, leaf("", 0, "a", "1"), "", api.ErrState)
	wantSplit(t, leaf("m", 3, "a", long("v", 32)), "", api.ErrState)
	wantSplit(t, api.Node{Level: 1, Kids: []int{1}}, "", api.ErrState)
	wantSplit(t, inner("", 0, "a"), "", api.ErrState)
	wantSplit(t, leaf("", 0, "a", "1", "b", "2"), "b", api.OK)
	wantSplit(t, inner("", 0, "a", "b"), "b", api.OK)
}

func TestSplit(t *testing.T) {
	big := long("v", 32)
	wantSplit(t, leaf("x", 4, "a", "1", "b", "2", "c", "3", "d", "4"), "c", api.OK)
	wantSplit(t, leaf("", 0, "a", "1", "b", "2", "c", "3"), "c", api.OK) // 2 * 12 of 18: i is 2
	wantSplit(t, leaf("", 0, "a", big, "b", "", "c", "", "d", ""), "b", api.OK)
	wantSplit(t, leaf("", 0, "a", "", "b", big, "c", "", "d", ""), "c", api.OK)
	wantSplit(t, leaf("", 0, "a", "", "b", "", "c", "", "d", big), "d", api.OK) // at most one less than all
	wantSplit(t, leaf("", 0, "a", "", "b", big), "b", api.OK)
	wantSplit(t, leaf("", 0, "a", "12", "b", "1", "c", "", "d", "1"), "c", api.OK) // 2 * 7 of 24, 2 * 13
	wantSplit(t, leaf("", 0, "a", "12345", "b", "", "c", ""), "b", api.OK)         // 2 * 10 of 20: at least
	wantSplit(t, leaf("", 0, "a", "1234", "b", "", "c", ""), "c", api.OK)          // 2 * 9 of 19
	wantSplit(t, leaf("", 0, "abc", "1", "abde", "2"), "abd", api.OK)              // the shortest between
	wantSplit(t, leaf("", 0, "a", "1", "ab", "2"), "ab", api.OK)
	wantSplit(t, leaf("", 0, "a", "1", "b", "2", long("c", 16), "3"), "c", api.OK)
	wantSplit(t, leaf("", 0, "a", "1", "b\xff", "2", "cdef", "3"), "c", api.OK) // 2 * 6 of 22, 2 * 13
	wantSplit(t, inner("x", 4, "abc", "abde"), "abde", api.OK)                  // an inner node's key is not cut
	wantSplit(t, inner("x", 4, "b", "d", "f", "h"), "f", api.OK)
	wantSplit(t, inner("", 0, "b", "d", "f"), "f", api.OK)                          // 2 * 14 of 21
	wantSplit(t, inner("", 0, long("b", 16), "d", "e"), "d", api.OK)                // 2 * 22 of 36
	wantSplit(t, inner("", 0, "b", "d", long("e", 16)), long("e", 16), api.OK)      // i is 2, one less than all
	wantSplit(t, inner("", 0, long("b", 7), "d", "e"), "e", api.OK)                 // 2 * 13 of 27
	wantSplit(t, inner("", 0, long("b", 8), "d", "e"), "d", api.OK)                 // 2 * 14 of 28: at least
	wantSplit(t, inner("", 0, "b", "d", "e", "f", "g", long("h", 12)), "g", api.OK) // 2 * 21 of 53, 2 * 28
}

// modelSplit is the parting key, in the chapter's words.
func modelSplit(n api.Node) (string, api.Errno) {
	l := entries(n)
	if len(l) < 2 {
		return "", api.ErrState
	}
	sizes := func(l []entry) int {
		sum := 0
		for _, x := range l {
			sum += entrySize(n, x)
		}
		return sum
	}
	i := 1
	for 2*sizes(l[:i]) < sizes(l) {
		i++
	}
	i = min(i, len(l)-1)
	if n.Level != 0 {
		return l[i].key, api.OK
	}
	for length := 1; ; length++ {
		if l[i].key[:length] > l[i-1].key {
			return l[i].key[:length], api.OK
		}
	}
}

// modelParts are both parts of a node by s, in the chapter's words.
func modelParts(n api.Node, s string, right int) (api.Node, api.Node, api.Errno) {
	var left, rest []entry
	first, found := 0, false
	for _, x := range entries(n) {
		switch {
		case x.key < s:
			left = append(left, x)
		case x.key == s && n.Level != 0:
			first, found = x.kid, true
		default:
			rest = append(rest, x)
		}
	}
	if n.Level != 0 && !found {
		return api.Node{}, api.Node{}, api.ErrNone
	}
	l, r := with(n, firstKid(n), left), with(n, first, rest)
	l.High, l.Right = s, right
	return l, r, api.OK
}

func TestParts(t *testing.T) {
	n := leaf("x", 4, "a", "1", "b", "2", "c", "3", "d", "4")
	for _, c := range []struct {
		k          string
		left, rest api.Node
	}{
		{"\x00", leaf("\x00", 9), n},
		{"a", leaf("a", 9), n},
		{"a\x00", leaf("a\x00", 9, "a", "1"), leaf("x", 4, "b", "2", "c", "3", "d", "4")},
		{"b", leaf("b", 9, "a", "1"), leaf("x", 4, "b", "2", "c", "3", "d", "4")},
		{"c", leaf("c", 9, "a", "1", "b", "2"), leaf("x", 4, "c", "3", "d", "4")},
		{"d", leaf("d", 9, "a", "1", "b", "2", "c", "3"), leaf("x", 4, "d", "4")},
		{"e", leaf("e", 9, "a", "1", "b", "2", "c", "3", "d", "4"), leaf("x", 4)},
		{"w\xff", leaf("w\xff", 9, "a", "1", "b", "2", "c", "3", "d", "4"), leaf("x", 4)},
	} {
		wantLeft(t, n, c.k, 9, c.left, api.OK)
		wantRest(t, n, c.k, c.rest, api.OK)
	}
	for _, k := range []string{"x", "x\x00", "y"} {
		wantLeft(t, n, k, 9, n, api.ErrSide)
		wantRest(t, n, k, n, api.ErrSide)
	}
	open := leaf("", 0, "a", "1", "b", "2")
	wantLeft(t, open, "b", 1, leaf("b", 1, "a", "1"), api.OK)
	wantRest(t, open, "b", leaf("", 0, "b", "2"), api.OK)
	wantLeft(t, open, "\xff", 4096, leaf("\xff", 4096, "a", "1", "b", "2"), api.OK)
	wantRest(t, open, "\xff", leaf("", 0), api.OK)
	wantLeft(t, api.Node{}, "m", 2, api.Node{High: "m", Right: 2}, api.OK)
	wantRest(t, api.Node{}, "m", api.Node{}, api.OK)
}

// The chapter names no error for a left part that its bound makes too long, so it is told as it is.
func TestLeftThatDoesNotFit(t *testing.T) {
	n := nearlyFull(0)
	n.High = ""
	want := n
	want.High, want.Right = long("z", 16), 9
	wantLeft(t, n, long("z", 16), 9, want, api.OK)
	wantErr(t, "Check", page.Check(want), api.ErrPage)
}

func TestPartsOfAnInnerNode(t *testing.T) {
	n := inner("x", 4, "b", "d", "f") // of kids 11 12 13 14
	rest := func(first int, keys ...string) api.Node {
		m := inner("x", 4, keys...)
		for i := range m.Kids {
			m.Kids[i] = first + i
		}
		return m
	}
	wantLeft(t, n, "b", 9, inner("b", 9), api.OK)
	wantRest(t, n, "b", rest(12, "d", "f"), api.OK)
	wantLeft(t, n, "d", 9, inner("d", 9, "b"), api.OK)
	wantRest(t, n, "d", rest(13, "f"), api.OK)
	wantLeft(t, n, "f", 9, inner("f", 9, "b", "d"), api.OK)
	wantRest(t, n, "f", rest(14), api.OK)
	for _, k := range []string{"a", "b\x00", "c", "e", "g", "w"} {
		wantLeft(t, n, k, 9, n, api.ErrNone)
		wantRest(t, n, k, n, api.ErrNone)
	}
	wantLeft(t, n, "x", 9, n, api.ErrSide)
	wantRest(t, n, "x", n, api.ErrSide)
	wantLeft(t, n, "c", 0, n, api.ErrArg)
	bare := api.Node{Level: 1, Kids: []int{3}}
	wantLeft(t, bare, "m", 9, n, api.ErrNone)
	wantRest(t, bare, "m", n, api.ErrNone)
	one := inner("", 0, "m")
	wantLeft(t, one, "m", 9, inner("m", 9), api.OK)
	wantRest(t, one, "m", api.Node{Level: 2, LSN: 78, Kids: []int{12}}, api.OK)
}

func TestPartsOfAnyNode(t *testing.T) {
	g := rand.New(rand.NewSource(72))
	for range 20000 {
		n := anyRight(g)
		s, e := modelSplit(n)
		wantSplit(t, n, s, e)
		k, right := nearKey(g, n), 1+g.Intn(api.MaxPages)
		left, rest, e := modelParts(n, k, right)
		if n.High != "" && n.High <= k {
			e = api.ErrSide
		}
		wantLeft(t, n, k, right, left, e)
		wantRest(t, n, k, rest, e)
	}
}

// 7.4

func TestWhatWasPutIsGot(t *testing.T) {
	g := rand.New(rand.NewSource(73))
	for range 300 {
		n := api.Node{LSN: g.Intn(1000), Right: g.Intn(9), High: []string{"", "b\xff"}[g.Intn(2)]}
		head := n
		has := map[string]string{}
		for range 60 {
			k, v := anyText(g, 1, 3), anyText(g, 0, api.MaxValue)
			if node.Further(n, k) {
				continue
			}
			var next api.Node
			var e api.Errno
			if g.Intn(3) > 0 {
				if next, e = node.Put(n, k, v); e == api.OK {
					has[k] = v
				}
			} else if next, e = node.Del(n, k); e == api.OK {
				delete(has, k)
			}
			if e == api.ErrFull {
				continue // all stays as it was
			}
			n = next
			wantErr(t, "Check", page.Check(n), api.OK)
			if len(n.Keys) != len(has) || n.LSN != head.LSN || n.Right != head.Right || n.High != head.High || n.Level != 0 {
				t.Fatalf("%v, not what %v says", n, has)
			}
			for k, v := range has {
				wantGet(t, n, k, v, true, api.OK)
			}
			wantGet(t, n, "a\x00\x00a", "", false, api.OK)
		}
	}
}

// A kid that was posted is that of its key, and up to the next one; all other keys' kids stay.
func TestWhatWasPostedIsFound(t *testing.T) {
	g := rand.New(rand.NewSource(74))
	posted := 0
	for range 3000 {
		n := anyRight(g)
		k, kid := nearKey(g, n), 1+g.Intn(api.MaxPages)
		m, e := node.Post(n, k, kid)
		if e != api.OK || slices.Contains(n.Keys, k) {
			continue
		}
		posted++
		wantKid(t, m, k, kid, api.OK)
		for range 20 {
			x := nearKey(g, m)
			was, e := node.Kid(n, x)
			next := ""
			for _, y := range n.Keys {
				if y > k {
					next = y
					break
				}
			}
			if e == api.OK && x >= k && (next == "" || x < next) {
				was = kid
			}
			wantKid(t, m, x, was, e)
		}
	}
	if posted < 300 {
		t.Errorf("%d were posted", posted)
	}
}

// 7.5

func wantParted(t *testing.T, g *rand.Rand, n api.Node) {
	t.Helper()
	s, e := node.Split(n)
	wantErr(t, "Split", e, api.OK)
	left, e := node.Left(n, s, 17)
	wantErr(t, "Left", e, api.OK)
	rest, e := node.Rest(n, s)
	wantErr(t, "Rest", e, api.OK)
	wantErr(t, "Check of the left part", page.Check(left), api.OK)
	wantErr(t, "Check of the right part", page.Check(rest), api.OK)
	if len(left.Keys) == 0 || len(rest.Keys) == 0 && n.Level == 0 || len(rest.Kids) == 0 && n.Level != 0 {
		t.Errorf("a part of %v by %q is empty: %v, %v", n, s, left, rest)
	}
	if left.High != s || left.Right != 17 || rest.High != n.High || rest.Right != n.Right ||
		left.Level != n.Level || rest.Level != n.Level || left.LSN != n.LSN || rest.LSN != n.LSN {
		t.Errorf("the parts of %v by %q: %v, %v", n, s, left, rest)
	}
	keys := slices.Clone(left.Keys)
	if n.Level != 0 {
		keys = append(keys, s)
	}
	if !slices.Equal(append(keys, rest.Keys...), n.Keys) || !slices.Equal(append(slices.Clone(left.Vals), rest.Vals...), n.Vals) ||
		!slices.Equal(append(slices.Clone(left.Kids), rest.Kids...), n.Kids) {
		t.Errorf("the parts of %v by %q: %v, %v", n, s, left, rest)
	}
	for _, k := range append(slices.Clone(n.Keys), s, nearKey(g, n), nearKey(g, n)) {
		if node.Further(n, k) {
			continue
		}
		part := left
		if k >= s {
			part = rest
			if !node.Further(left, k) {
				t.Errorf("%q is not less than %q, and belongs to the left part", k, s)
			}
		}
		if n.Level != 0 {
			kid, e := node.Kid(n, k)
			wantKid(t, part, k, kid, e)
			continue
		}
		v, ok, e := node.Get(n, k)
		wantGet(t, part, k, v, ok, e)
	}
}

func TestPartedByTheirPartingKey(t *testing.T) {
	g := rand.New(rand.NewSource(75))
	parted := 0
	for range 10000 {
		if n := anyRight(g); len(n.Keys) >= 2 {
			parted++
			wantParted(t, g, n)
		}
	}
	if parted < 3000 {
		t.Errorf("%d were parted", parted)
	}
}

// Full nodes without a bound: the left part gets one, as long as a key can be.
func TestFullNodesAreParted(t *testing.T) {
	g := rand.New(rand.NewSource(76))
	head := strings.Repeat("h", 15) // so that what is between two keys is as long as they are
	for _, level := range []int{0, 1} {
		for most := 0; most <= 32; most += 4 {
			n := api.Node{Level: level}
			if level != 0 {
				n.Kids = []int{1}
			}
			for i := byte(0); ; i++ {
				next := with(n, 1, append(entries(n), entry{head + string([]byte{i}), strings.Repeat("v", most), 2}))
				if size(next) > api.PageSize {
					break
				}
				n = next
			}
			wantParted(t, g, n)
			first := with(n, 1, append([]entry{{"a", "", 3}}, entries(n)[1:]...))
			wantParted(t, g, first)
		}
	}
}

// All leaves of up to 5 entries with small, middle and great values, and all inner nodes with keys like that.
func TestPartsOfUnlikeSizes(t *testing.T) {
	g := rand.New(rand.NewSource(77))
	lengths := []int{0, 5, 10, 15}
	for many := 2; many <= 5; many++ {
		for pattern := range int(math.Pow(float64(len(lengths)), float64(many))) {
			l, in := leaf("", 3), api.Node{Level: 1, Kids: []int{1}}
			for i := range many {
				more := lengths[pattern%len(lengths)]
				pattern /= len(lengths)
				letter := string([]byte{'a' + byte(i)})
				l.Keys, l.Vals = append(l.Keys, letter), append(l.Vals, strings.Repeat("v", 2*more))
				in.Keys, in.Kids = append(in.Keys, long(letter, 1+more)), append(in.Kids, i+2)
			}
			for _, n := range []api.Node{l, in} {
				s, e := modelSplit(n)
				wantSplit(t, n, s, e)
				wantParted(t, g, n)
			}
		}
	}
}

// R3

// roomy is a node with spare room behind its lists that is filled.
func roomy(n api.Node) api.Node {
	n.Keys = append(slices.Clone(n.Keys), "spare", "keys")[:len(n.Keys)]
	n.Vals = append(slices.Clone(n.Vals), "spare", "vals")[:len(n.Vals)]
	n.Kids = append(slices.Clone(n.Kids), -7, -8)[:len(n.Kids)]
	return n
}

// whole is a node with its lists' spare room, in lists of its own.
func whole(n api.Node) api.Node {
	n.Keys, n.Vals, n.Kids = slices.Clone(n.Keys[:cap(n.Keys)]), slices.Clone(n.Vals[:cap(n.Vals)]), slices.Clone(n.Kids[:cap(n.Kids)])
	return n
}

// scribble writes over all of a list, its spare room too.
func scribble[T any](l []T, x T) {
	l = l[:cap(l)]
	for i := range l {
		l[i] = x
	}
}

func scribbleNode(n api.Node) {
	scribble(n.Keys, "scribble")
	scribble(n.Vals, "scribble")
	scribble(n.Kids, 99)
}

// change is a call that answers a node.
type change struct {
	name string
	do   func(n api.Node) (api.Node, api.Errno)
}

// changes are calls with keys of the node, beside them and beyond it.
func changes(n api.Node) []change {
	keys := append([]string{"\x00", "c", "w", "zzz", ""}, n.Keys...)
	var l []change
	for _, k := range keys {
		l = append(l,
			change{"Put", func(n api.Node) (api.Node, api.Errno) { return node.Put(n, k, "v") }},
			change{"Del", func(n api.Node) (api.Node, api.Errno) { return node.Del(n, k) }},
			change{"Post", func(n api.Node) (api.Node, api.Errno) { return node.Post(n, k, 12) }},
			change{"Left", func(n api.Node) (api.Node, api.Errno) { return node.Left(n, k, 12) }},
			change{"Rest", func(n api.Node) (api.Node, api.Errno) { return node.Rest(n, k) }})
	}
	return l
}

func TestNodesStayAsTheyWere(t *testing.T) {
	for _, n := range append(someNodes(), wrongNodes()...) {
		n = roomy(n)
		was := whole(n)
		for _, k := range append([]string{"", "c", "zz"}, n.Keys...) {
			node.Further(n, k)
			node.Get(n, k)
			node.Kid(n, k)
		}
		node.Split(n)
		for _, c := range changes(n) {
			m, _ := c.do(n)
			if !same(whole(n), was) {
				t.Fatalf("%s: %v has become %v", c.name, was, whole(n))
			}
			scribbleNode(m)
			if !same(whole(n), was) {
				t.Fatalf("%s: the answer shares memory with %v", c.name, was)
			}
		}
	}
}

func TestAnswersShareNothing(t *testing.T) {
	for _, n := range someNodes() {
		for _, c := range changes(n) {
			mine := roomy(n)
			one, _ := c.do(mine)
			two, _ := c.do(mine)
			three, _ := c.do(mine)
			want := whole(one)
			want.Keys, want.Vals, want.Kids = want.Keys[:len(one.Keys)], want.Vals[:len(one.Vals)], want.Kids[:len(one.Kids)]
			scribbleNode(mine)
			scribbleNode(one)
			if !same(two, want) {
				t.Fatalf("%s: two answers, or an answer and its node, share memory: %v, not %v", c.name, two, want)
			}
			scribble(two.Keys, "scribble")
			if !slices.Equal(two.Vals, want.Vals) {
				t.Fatalf("%s: Keys and Vals share memory", c.name)
			}
			scribble(three.Vals, "scribble")
			if !slices.Equal(three.Keys, want.Keys) {
				t.Fatalf("%s: Vals and Keys share memory", c.name)
			}
		}
	}
}

// R2

func TestNothingIsNilOrEmpty(t *testing.T) {
	for _, n := range someNodes() {
		empty, none := n, n
		if len(n.Keys) == 0 {
			empty.Keys, none.Keys = []string{}, nil
		}
		if len(n.Vals) == 0 {
			empty.Vals, none.Vals = []string{}, nil
		}
		if len(n.Kids) == 0 {
			empty.Kids, none.Kids = []int{}, nil
		}
		for _, c := range changes(n) {
			one, e := c.do(empty)
			two, e2 := c.do(none)
			wantNode(t, c.name, one, e, two, e2)
		}
		s, e := node.Split(empty)
		wantSplit(t, none, s, e)
	}
}

// R6, P1

func TestAnyArguments(t *testing.T) {
	g := rand.New(rand.NewSource(78))
	numbers := []int{math.MinInt, -1, 0, 0, 0, 1, 1, 2, 20, 21, api.MaxPages, api.MaxPages + 1, api.MaxLSN, api.MaxLSN + 1, math.MaxInt}
	some := []string{"", "a", "b", "\xff", long("k", 16), long("k", 17), long("v", 32), long("v", 33), long("v", 70000)}
	list := func() []string {
		var l []string
		for range g.Intn(4) {
			l = append(l, some[g.Intn(len(some))])
		}
		return l
	}
	for range 20000 {
		n := api.Node{Level: numbers[g.Intn(len(numbers))], LSN: numbers[g.Intn(len(numbers))], Right: numbers[g.Intn(len(numbers))], High: some[g.Intn(len(some))], Keys: list(), Vals: list()}
		for range g.Intn(4) {
			n.Kids = append(n.Kids, numbers[g.Intn(len(numbers))])
		}
		if g.Intn(2) == 0 {
			n = anyRight(g)
		}
		a := args{n, some[g.Intn(len(some))], some[g.Intn(len(some))], numbers[g.Intn(len(numbers))]}
		if node.Further(n, a.k) != (n.High != "" && n.High <= a.k) {
			t.Fatalf("Further(%.80v, %.20q)", n, a.k)
		}
		for _, c := range calls() {
			zero, e := c.do(a)
			again, e2 := c.do(a)
			want := wanted(c, a, page.Check(n) != api.OK)
			if e != e2 || zero != again || want != api.OK && e != want || e != api.OK && !zero {
				t.Fatalf("%s(%.200v): %v, %v and %v, %v, not %v", c.name, a, zero, e, again, e2, want)
			}
		}
	}
}

// The chapter's examples.

func TestExamples(t *testing.T) {
	n := api.Node{Keys: []string{"a", "b", "c", "d"}, Vals: []string{"1", "2", "3", "4"}}
	wantSplit(t, n, "c", api.OK)
	wantLeft(t, n, "c", 2, api.Node{Right: 2, High: "c", Keys: []string{"a", "b"}, Vals: []string{"1", "2"}}, api.OK)
	wantRest(t, n, "c", api.Node{Keys: []string{"c", "d"}, Vals: []string{"3", "4"}}, api.OK)
	in := api.Node{Level: 1, Keys: []string{"m"}, Kids: []int{1, 2}}
	wantKid(t, in, "a", 1, api.OK)
	wantKid(t, in, "m", 2, api.OK)
}
