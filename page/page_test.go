package page_test

import (
	"bytes"
	"encoding/binary"
	"hash/crc32"
	"math"
	"math/rand"
	"slices"
	"strings"
	"testing"

	"lattice/api"
	"lattice/page"
)

const bodySize = api.PageSize - 4

// long is a text of n bytes that begins with a letter.
func long(letter string, n int) string { return letter + strings.Repeat("x", n-len(letter)) }

// letters are n keys of one byte, rising.
func letters(n int) []string {
	l := make([]string, n)
	for i := range l {
		l[i] = string([]byte{byte(i)})
	}
	return l
}

// kids are n pages' numbers.
func kids(n int) []int {
	l := make([]int, n)
	for i := range l {
		l[i] = n - i
	}
	return l
}

// rightNodes are nodes at all edges that are right.
func rightNodes() []api.Node {
	l := []api.Node{
		{},
		{Keys: []string{}, Vals: []string{}, Kids: []int{}},
		{LSN: 258, Right: 2, High: "b", Keys: []string{"a"}, Vals: []string{"x"}},
		{LSN: 1, Keys: []string{"a", "ab", "b"}, Vals: []string{"", "\x00", "\xff\xfe"}},
		{Level: 1, Kids: []int{1}},
		{Level: 1, Kids: []int{api.MaxPages}, Vals: []string{}},
		{Level: 1, Kids: []int{7, 7}, Keys: []string{"m"}},
		{Level: 2, LSN: 77, Right: 9, High: "z\xff", Kids: []int{1, 4096, 258}, Keys: []string{"\x00", "\x00\x00"}},
		{Level: 19, Kids: []int{3}},
		{Level: 20, Kids: []int{3}, High: "\x00"},
		{LSN: api.MaxLSN - 1, Right: api.MaxPages - 1},
		{LSN: api.MaxLSN, Right: api.MaxPages},
		{Level: 20, LSN: api.MaxLSN, Right: api.MaxPages, Kids: []int{api.MaxPages}},
		{Right: 1, High: long("h", api.MaxKey), Keys: []string{long("a", api.MaxKey)}, Vals: []string{long("v", api.MaxValue)}},
		{High: "ab", Keys: []string{"a", "aa\xff"}, Vals: []string{"1", "2"}},
		{High: "a\x00", Keys: []string{"\x00", "a"}, Vals: []string{"1", "2"}},
		{Keys: letters(47), Vals: make([]string, 47)},                                  // of PageSize bytes
		{Level: 1, Keys: letters(33), Kids: kids(34)},                                  // likewise
		{Level: 1, Keys: letters(31), Kids: kids(32), High: long("z", 14)},             // likewise
		{Keys: letters(44), Vals: make([]string, 44), High: long("\xff", 15)},          // likewise
		{Keys: append(letters(45), "\xfe"), Vals: append(make([]string, 45), "vvvvv")}, // likewise
	}
	return l
}

// wrongNodes are nodes that are not right; but for one thing all would be.
func wrongNodes() map[string]api.Node {
	ab, two := []string{"a", "b"}, []string{"", ""}
	return map[string]api.Node{
		"Level below 0":             {Level: -1, Kids: []int{1}},
		"Level below 0, a leaf":     {Level: -1},
		"Level above 20":            {Level: 21, Kids: []int{1}},
		"Level of 256":              {Level: 256},
		"least Level":               {Level: math.MinInt, Kids: []int{1}},
		"greatest Level":            {Level: math.MaxInt, Kids: []int{1}},
		"LSN below 0":               {LSN: -1},
		"LSN above MaxLSN":          {LSN: api.MaxLSN + 1},
		"least LSN":                 {LSN: math.MinInt},
		"greatest LSN":              {LSN: math.MaxInt},
		"Right below 0":             {Right: -1},
		"Right above MaxPages":      {Right: api.MaxPages + 1},
		"Right of 2^32":             {Right: 1 << 32},
		"least Right":               {Right: math.MinInt},
		"High of 17 bytes":          {High: long("h", api.MaxKey+1)},
		"High of 70000 bytes":       {High: long("h", 70000)},
		"an empty key":              {Keys: []string{""}, Vals: []string{""}},
		"an empty key of many":      {Keys: []string{"", "a"}, Vals: two},
		"a key of 17 bytes":         {Keys: []string{long("k", api.MaxKey+1)}, Vals: []string{""}},
		"a key of 70000 bytes":      {Keys: []string{long("k", 70000)}, Vals: []string{""}},
		"keys that fall":            {Keys: []string{"b", "a"}, Vals: two},
		"keys that fall later":      {Keys: []string{"a", "c", "b"}, Vals: []string{"", "", ""}},
		"keys that fall at last":    {Keys: []string{"a", "b", "c", "bb"}, Vals: make([]string, 4)},
		"the same key twice":        {Keys: []string{"a", "a"}, Vals: two},
		"a key behind its longer":   {Keys: []string{"a\x00", "a"}, Vals: two},
		"a key that is High":        {High: "b", Keys: ab, Vals: two},
		"a key above High":          {High: "ab", Keys: ab, Vals: two},
		"all keys above High":       {High: "A", Keys: ab, Vals: two},
		"an inner key that is High": {Level: 1, High: "b", Keys: ab, Kids: kids(3)},
		"inner keys that fall":      {Level: 1, Keys: []string{"b", "a"}, Kids: kids(3)},
		"an empty inner key":        {Level: 1, Keys: []string{""}, Kids: kids(2)},
		"a long inner key":          {Level: 1, Keys: []string{long("k", api.MaxKey+1)}, Kids: kids(2)},
		"no Vals":                   {Keys: ab},
		"too few Vals":              {Keys: ab, Vals: []string{""}},
		"too many Vals":             {Keys: ab, Vals: []string{"", "", ""}},
		"Vals alone":                {Vals: []string{""}},
		"a value of 33 bytes":       {Keys: ab, Vals: []string{"", long("v", api.MaxValue+1)}},
		"a value of 70000 bytes":    {Keys: ab, Vals: []string{long("v", 70000), ""}},
		"a leaf with a kid":         {Keys: ab, Vals: two, Kids: []int{1}},
		"a leaf with kids":          {Keys: ab, Vals: two, Kids: kids(3)},
		"an empty leaf with a kid":  {Kids: []int{1}},
		"no Kids":                   {Level: 1},
		"as many Kids as Keys":      {Level: 1, Keys: ab, Kids: kids(2)},
		"Keys without Kids":         {Level: 1, Keys: ab},
		"too many Kids":             {Level: 1, Keys: ab, Kids: kids(4)},
		"Kids alone":                {Level: 1, Kids: kids(2)},
		"an inner one with Vals":    {Level: 1, Keys: ab, Kids: kids(3), Vals: two},
		"an inner one with a val":   {Level: 1, Kids: kids(1), Vals: []string{""}},
		"kid 0":                     {Level: 1, Kids: []int{0}},
		"kid 0 of many":             {Level: 1, Keys: ab, Kids: []int{1, 2, 0}},
		"a kid below 0":             {Level: 1, Keys: ab, Kids: []int{1, -1, 2}},
		"a kid above MaxPages":      {Level: 1, Keys: ab, Kids: []int{api.MaxPages + 1, 1, 2}},
		"a kid of 2^32 + 1":         {Level: 1, Kids: []int{1<<32 + 1}},
		"the least kid":             {Level: 1, Kids: []int{math.MinInt}},
		"the greatest kid":          {Level: 1, Kids: []int{math.MaxInt}},
		"a leaf of 257 bytes":       {Keys: letters(47), Vals: append(make([]string, 46), "v")},
		"a High of 257 bytes":       {Level: 1, Keys: letters(31), Kids: kids(32), High: long("z", 15)},
		"an inner one of 257":       {Level: 1, Keys: append(letters(32), "zz"), Kids: kids(34)},
		"a leaf of 261 bytes":       {Keys: letters(48), Vals: make([]string, 48)},
		"an inner one of 263":       {Level: 1, Keys: letters(34), Kids: kids(35)},
		"a leaf of 256 keys":        {Keys: letters(256), Vals: make([]string, 256)},
	}
}

// number lays down a number, whatever of it size bytes can have.
func number(b []byte, n uint64, size int) []byte {
	return append(b, binary.LittleEndian.AppendUint64(nil, n)[:size]...)
}

func text(b []byte, s string) []byte { return append(number(b, uint64(len(s)), 2), s...) }

// plain is the bytes of any node, in words of the chapter; count is how many keys it says that there are.
func plain(n api.Node, count int) []byte {
	b := number(nil, uint64(n.Level), 1)
	b = number(b, uint64(n.LSN), 8)
	b = number(b, uint64(n.Right), 4)
	b = number(b, uint64(count), 2)
	b = text(b, n.High)
	if n.Level != 0 && len(n.Kids) > 0 {
		b = number(b, uint64(n.Kids[0]), 4)
	}
	for i, k := range n.Keys {
		b = text(b, k)
		if n.Level == 0 && i < len(n.Vals) {
			b = text(b, n.Vals[i])
		}
		if n.Level != 0 && i+1 < len(n.Kids) {
			b = number(b, uint64(n.Kids[i+1]), 4)
		}
	}
	return b
}

// sealed is some bytes, with bytes 0 and their sum behind them: a page, if they are a node's.
func sealed(b []byte) []byte {
	body := make([]byte, bodySize)
	copy(body, b)
	return binary.LittleEndian.AppendUint32(body, crc32.ChecksumIEEE(body))
}

func same(a, b api.Node) bool {
	return a.Level == b.Level && a.LSN == b.LSN && a.Right == b.Right && a.High == b.High &&
		slices.Equal(a.Keys, b.Keys) && slices.Equal(a.Vals, b.Vals) && slices.Equal(a.Kids, b.Kids)
}

func wantErr(t *testing.T, what string, got, want api.Errno) {
	t.Helper()
	if got != want {
		t.Errorf("%s: %v, not %v", what, got, want)
	}
}

func wantSize(t *testing.T, n api.Node, want int) {
	t.Helper()
	if got := page.Size(n); got != want {
		t.Errorf("Size(%.80v): %d, not %d", n, got, want)
	}
}

func wantNode(t *testing.T, b []byte, want api.Node) {
	t.Helper()
	if n, e := page.Decode(b); e != api.OK || !same(n, want) {
		t.Errorf("Decode: %v, %v, not %v", n, e, want)
	}
}

func wantNoPage(t *testing.T, what string, b []byte) {
	t.Helper()
	if n, e := page.Decode(b); e != api.ErrPage || !same(n, api.Node{}) {
		t.Errorf("Decode of %s: %v, %v, not ErrPage alone", what, n, e)
	}
}

// encode is the page of a node that is right.
func encode(t *testing.T, n api.Node) []byte {
	t.Helper()
	b, e := page.Encode(n)
	if e != api.OK || len(b) != api.PageSize {
		t.Fatalf("Encode(%v): %d bytes, %v", n, len(b), e)
	}
	return b
}

// anyNode is a node that is right, at random.
func anyNode(g *rand.Rand) api.Node {
	n := api.Node{Level: g.Intn(3) * g.Intn(11), LSN: g.Intn(api.MaxLSN + 1), Right: g.Intn(api.MaxPages + 1)}
	anyText := func(least, most int) string {
		b := make([]byte, least+g.Intn(most-least+1))
		g.Read(b)
		return string(b)
	}
	keys := []string{}
	for range g.Intn(12) {
		keys = append(keys, anyText(1, api.MaxKey))
	}
	slices.Sort(keys)
	keys = slices.Compact(keys)
	if len(keys) > 0 && g.Intn(2) == 0 {
		n.High, keys = keys[len(keys)-1], keys[:len(keys)-1]
	}
	if n.Level != 0 {
		n.Kids = append(n.Kids, 1+g.Intn(api.MaxPages))
	}
	for _, k := range keys {
		v := anyText(0, api.MaxValue)
		if len(plain(n, 0))+4+8+len(k)+len(v) > api.PageSize {
			break
		}
		n.Keys = append(n.Keys, k)
		if n.Level == 0 {
			n.Vals = append(n.Vals, v)
		} else {
			n.Kids = append(n.Kids, 1+g.Intn(api.MaxPages))
		}
	}
	return n
}

// 6.1

func TestCheck(t *testing.T) {
	for _, n := range rightNodes() {
		if e := page.Check(n); e != api.OK {
			t.Errorf("Check(%v): %v, not OK", n, e)
		}
	}
	for what, n := range wrongNodes() {
		wantErr(t, "Check of "+what, page.Check(n), api.ErrPage)
	}
}

func TestCheckOfEachLevel(t *testing.T) {
	for level := -3; level <= 300; level++ {
		leaf, inner := api.ErrPage, api.ErrPage
		if level == 0 {
			leaf = api.OK
		} else if level > 0 && level <= 20 {
			inner = api.OK
		}
		wantErr(t, "Check of a leaf", page.Check(api.Node{Level: level, Keys: []string{"a"}, Vals: []string{"v"}}), leaf)
		wantErr(t, "Check of an inner node", page.Check(api.Node{Level: level, Keys: []string{"a"}, Kids: []int{1, 2}}), inner)
	}
}

func TestSize(t *testing.T) {
	for _, c := range []struct {
		n    api.Node
		want int
	}{
		{api.Node{}, 21},
		{api.Node{LSN: api.MaxLSN, Right: api.MaxPages}, 21},
		{api.Node{High: "abc"}, 24},
		{api.Node{Keys: []string{"a"}, Vals: []string{""}}, 26},
		{api.Node{Keys: []string{"a", "bcd"}, Vals: []string{"xy", ""}}, 35},
		{api.Node{Level: 1, Kids: []int{1}}, 25},
		{api.Node{Level: 1, Kids: []int{1, 2}, Keys: []string{"ab"}}, 33},
		{api.Node{Keys: letters(47), Vals: make([]string, 47)}, 256},
		{api.Node{Level: 1, Keys: letters(33), Kids: kids(34)}, 256},
		// of any node
		{api.Node{Keys: []string{"ab", "", "ab"}}, 31},
		{api.Node{Vals: []string{"ab", ""}}, 27},
		{api.Node{Kids: []int{1, 2, 3}}, 21},
		{api.Node{Keys: []string{"a"}, Vals: []string{"b", "cd"}, Kids: []int{1, 2, 3}}, 31},
		{api.Node{Level: 1}, 21},
		{api.Node{Level: 1, Vals: []string{"abc", "d"}}, 21},
		{api.Node{Level: 1, Keys: []string{"a", "b"}, Vals: []string{"abc"}, Kids: []int{0, -1, 5, 1 << 40}}, 43},
		{api.Node{Level: -1, Vals: []string{"abc"}, Kids: []int{1}}, 25},
		{api.Node{Level: 21, Vals: []string{"abc"}, Kids: []int{1}}, 25},
		{api.Node{Level: math.MinInt, LSN: -1, Right: -1, Kids: []int{1}}, 25},
		{api.Node{High: long("h", 70000), Keys: []string{long("k", 65536)}, Vals: []string{long("v", 80000)}}, 215561},
		{api.Node{Keys: letters(256), Vals: make([]string, 256)}, 1301},
	} {
		wantSize(t, c.n, c.want)
	}
}

func TestSizeIsThatOfTheBytes(t *testing.T) {
	g := rand.New(rand.NewSource(7))
	for range 3000 {
		n := anyNode(g)
		wantSize(t, n, len(plain(n, len(n.Keys)))+4)
	}
	for _, n := range rightNodes() {
		wantSize(t, n, len(plain(n, len(n.Keys)))+4)
	}
}

func TestSizesUpToAPage(t *testing.T) {
	for room := range 60 { // one entry more, with a value of up to 32 bytes
		n := api.Node{Keys: []string{"a", "b", "c", "d", "e", "f"}, Vals: make([]string, 6)}
		for i := range 5 {
			n.Vals[i] = long("v", 32)
		}
		n.High = long("h", 1+room%api.MaxKey)
		n.Vals[5] = strings.Repeat("v", min(room, api.MaxValue))
		want := api.OK
		if len(plain(n, 6))+4 > api.PageSize {
			want = api.ErrPage
		}
		wantErr(t, "Check", page.Check(n), want)
		b, e := page.Encode(n)
		wantErr(t, "Encode", e, want)
		if e == api.OK {
			wantNode(t, b, n)
		}
	}
}

func TestTheGreatestNodeFits(t *testing.T) {
	full := 0
	for _, n := range rightNodes() {
		if page.Size(n) == api.PageSize {
			full++
			wantNode(t, encode(t, n), n)
		}
	}
	if full < 5 {
		t.Errorf("%d nodes of PageSize bytes", full)
	}
}

// 6.2

func TestEncode(t *testing.T) {
	g := rand.New(rand.NewSource(8))
	l := rightNodes()
	for range 2000 {
		l = append(l, anyNode(g))
	}
	for _, n := range l {
		if got, want := encode(t, n), sealed(plain(n, len(n.Keys))); !bytes.Equal(got, want) {
			t.Errorf("Encode(%v):\n% x, not\n% x", n, got, want)
		}
	}
}

func TestEncodeByByte(t *testing.T) {
	n := api.Node{Level: 3, LSN: 0x0102030405, Right: 0x0607, High: "hi", Keys: []string{"a", "bc"}, Kids: []int{0x0809, 0x0A0B, 4096}}
	want := "\x03\x05\x04\x03\x02\x01\x00\x00\x00\x07\x06\x00\x00\x02\x00\x02\x00hi" +
		"\x09\x08\x00\x00\x01\x00a\x0b\x0a\x00\x00\x02\x00bc\x00\x10\x00\x00"
	if b := encode(t, n); string(b[:bodySize]) != want+strings.Repeat("\x00", bodySize-len(want)) {
		t.Errorf("Encode: % x", b)
	}
	n = api.Node{LSN: api.MaxLSN, Keys: []string{"a", "b\xff"}, Vals: []string{"xyz", ""}}
	want = "\x00\x00\x00\x00\x00\x00\x01\x00\x00\x00\x00\x00\x00\x02\x00\x00\x00\x01\x00a\x03\x00xyz\x02\x00b\xff\x00\x00"
	if b := encode(t, n); string(b[:bodySize]) != want+strings.Repeat("\x00", bodySize-len(want)) {
		t.Errorf("Encode: % x", b)
	}
}

func TestEncodeOfWhatIsNotRight(t *testing.T) {
	for what, n := range wrongNodes() {
		if b, e := page.Encode(n); len(b) != 0 || e != api.ErrPage {
			t.Errorf("Encode of %s: %d bytes, %v, not ErrPage alone", what, len(b), e)
		}
	}
}

func TestDecode(t *testing.T) {
	g := rand.New(rand.NewSource(9))
	l := rightNodes()
	for range 2000 {
		l = append(l, anyNode(g))
	}
	for _, n := range l {
		wantNode(t, sealed(plain(n, len(n.Keys))), n)
	}
}

// The sums of these pages are right, so that what the bytes say is looked at.
func TestDecodeOfNodesThatAreNotRight(t *testing.T) {
	for what, n := range wrongNodes() {
		b := plain(n, len(n.Keys))
		if n.Level < 0 || n.Level > 255 || n.Right < 0 || n.Right > math.MaxUint32 || len(n.High) > 65535 || len(b) > bodySize {
			continue // not to be written
		}
		if n.Level == 0 && (len(n.Vals) != len(n.Keys) || len(n.Kids) > 0) || n.Level != 0 && (len(n.Kids) != len(n.Keys)+1 || len(n.Vals) > 0) {
			continue // likewise
		}
		if slices.ContainsFunc(n.Kids, func(kid int) bool { return kid < 0 || kid > math.MaxUint32 }) {
			continue // likewise
		}
		wantNoPage(t, what, sealed(b))
	}
}

func TestDecodeOfNumbersBeyondTheirBounds(t *testing.T) {
	inner := api.Node{Level: 1, Keys: []string{"a"}, Kids: []int{1, 2}}
	for level := 21; level < 256; level++ {
		b := plain(inner, 1)
		b[0] = byte(level)
		wantNoPage(t, "a Level above 20", sealed(b))
	}
	for _, lsn := range []uint64{api.MaxLSN + 1, 1 << 41, math.MaxInt64, 1 << 63, math.MaxUint64} {
		b := plain(inner, 1)
		binary.LittleEndian.PutUint64(b[1:], lsn)
		wantNoPage(t, "an LSN above MaxLSN", sealed(b))
	}
	for _, n := range []uint32{api.MaxPages + 1, 65536, 1 << 31, math.MaxUint32} {
		for _, at := range []int{9, 17, 24} { // Right, and both kids
			b := plain(inner, 1)
			binary.LittleEndian.PutUint32(b[at:], n)
			wantNoPage(t, "a page's number above MaxPages", sealed(b))
			binary.LittleEndian.PutUint32(b[at:], 0)
			if at == 9 {
				wantNode(t, sealed(b), inner)
			} else {
				wantNoPage(t, "kid 0", sealed(b))
			}
		}
	}
}

func TestDecodeOfAnotherCount(t *testing.T) {
	for _, n := range []api.Node{
		{},
		{High: "z", Keys: []string{"a", "b"}, Vals: []string{"x", "y"}},
		{Level: 1, Keys: []string{"a", "b"}, Kids: []int{1, 2, 3}},
		{Keys: letters(47), Vals: make([]string, 47)},
		{Level: 1, Keys: letters(33), Kids: kids(34)},
	} {
		for _, count := range []int{0, 1, 2, 3, 46, 47, 48, 126, 255, 256, 32768, 65535} {
			b := sealed(plain(n, count))
			if count == len(n.Keys) {
				wantNode(t, b, n)
			} else {
				wantNoPage(t, "another count", b)
			}
		}
	}
}

func TestDecodeOfTextsThatGoBeyondThePage(t *testing.T) {
	for _, size := range []int{17, 33, 235, 236, 237, 256, 65535} {
		b := plain(api.Node{}, 0)
		binary.LittleEndian.PutUint16(b[15:], uint16(size))
		wantNoPage(t, "a long High", sealed(b))

		n := api.Node{Keys: []string{"a"}, Vals: []string{"v"}}
		b = plain(n, 1)
		binary.LittleEndian.PutUint16(b[17:], uint16(size))
		wantNoPage(t, "a long key", sealed(b))

		b = plain(n, 1)
		binary.LittleEndian.PutUint16(b[20:], uint16(max(size, api.MaxValue+1)))
		wantNoPage(t, "a long value", sealed(b))
	}
}

// The last entries of these nodes are cut by the sum.
func TestDecodeOfNodesThatAreCut(t *testing.T) {
	for _, n := range []api.Node{
		{Keys: letters(48), Vals: make([]string, 48)},
		{Keys: letters(47), Vals: append(make([]string, 46), "v")},
		{Level: 1, Keys: letters(34), Kids: kids(35)},
		{Level: 1, Keys: append(letters(32), "zz"), Kids: kids(34)},
	} {
		wantNoPage(t, "a node that is cut", sealed(plain(n, len(n.Keys))))
	}
}

func TestDecodeOfOtherLengths(t *testing.T) {
	wantNoPage(t, "nothing", nil)
	wantNoPage(t, "nothing", []byte{})
	b := encode(t, api.Node{LSN: 5, Keys: []string{"a"}, Vals: []string{"v"}})
	for n := range b {
		wantNoPage(t, "the beginning of a page", b[:n])
		wantNoPage(t, "the end of a page", b[n+1:])
	}
	wantNoPage(t, "a page and a byte", append(slices.Clone(b), 0))
	wantNoPage(t, "a byte and a page", append([]byte{0}, b...))
	wantNoPage(t, "a page twice", append(slices.Clone(b), b...))

	// the sums of these are right
	for _, size := range []int{0, 17, 21, 251, 253, 254, 508, 512, 65536} {
		body := make([]byte, size)
		copy(body, b[:bodySize])
		wantNoPage(t, "bytes of another length", binary.LittleEndian.AppendUint32(body, crc32.ChecksumIEEE(body)))
	}
}

func TestDecodeOfBytesBehindTheNode(t *testing.T) {
	for _, n := range []api.Node{
		{},
		{LSN: 5, Keys: []string{"a"}, Vals: []string{"v"}},
		{Level: 1, Keys: []string{"a"}, Kids: []int{1, 2}},
		{Keys: letters(46), Vals: append(make([]string, 45), "vvvv")}, // one byte is left
	} {
		b := plain(n, len(n.Keys))
		for at := len(b); at < bodySize; at++ {
			for _, x := range []byte{1, 128, 255} {
				full := make([]byte, bodySize)
				copy(full, b)
				full[at] = x
				wantNoPage(t, "a page with a byte behind its node", sealed(full))
			}
		}
	}
}

// 6.3

func TestDecodeOfEncode(t *testing.T) {
	g := rand.New(rand.NewSource(10))
	l := rightNodes()
	for range 3000 {
		l = append(l, anyNode(g))
	}
	for _, n := range l {
		wantNode(t, encode(t, n), n)
	}
}

// turnedBytes is a node's bytes with a few of them changed, so that they are a node's still, or nearly.
func turnedBytes(g *rand.Rand) []byte {
	n := anyNode(g)
	b := make([]byte, bodySize)
	copy(b, plain(n, len(n.Keys)))
	for range g.Intn(3) {
		b[g.Intn(60)] = byte([]int{0, 1, 2, 16, 17, 20, 21, 32, 33, 255, g.Intn(256)}[g.Intn(11)])
	}
	return b
}

func TestEncodeOfDecode(t *testing.T) {
	g := rand.New(rand.NewSource(11))
	taken := 0
	for range 30000 {
		b := sealed(turnedBytes(g))
		n, e := page.Decode(b)
		if e != api.OK {
			wantNoPage(t, "bytes", b)
			continue
		}
		taken++
		wantErr(t, "Check", page.Check(n), api.OK)
		if !bytes.Equal(encode(t, n), b) {
			t.Fatalf("Decode takes % x, which is not what Encode tells of it", b)
		}
	}
	if taken < 3000 || taken > 27000 {
		t.Errorf("%d of 30000 were taken", taken)
	}
}

// 6.4

func TestEachTurnedBitIsRefused(t *testing.T) {
	g := rand.New(rand.NewSource(12))
	l := rightNodes()
	for range 20 {
		l = append(l, anyNode(g))
	}
	for _, n := range l {
		b := encode(t, n)
		for at := range 8 * len(b) {
			b[at/8] ^= 1 << (at % 8)
			wantNoPage(t, "a page of which a bit is turned", b)
			b[at/8] ^= 1 << (at % 8)
		}
		wantNode(t, b, n)
	}
}

// R3

// roomy is a node with spare room behind its lists that is filled.
func roomy(n api.Node) api.Node {
	n.Keys = append(slices.Clone(n.Keys), "spare", "keys")[:len(n.Keys)]
	n.Vals = append(slices.Clone(n.Vals), "spare", "vals")[:len(n.Vals)]
	n.Kids = append(slices.Clone(n.Kids), -7, -8)[:len(n.Kids)]
	return n
}

// whole is a node with its lists' spare room.
func whole(n api.Node) api.Node {
	n.Keys, n.Vals, n.Kids = n.Keys[:cap(n.Keys)], n.Vals[:cap(n.Vals)], n.Kids[:cap(n.Kids)]
	return n
}

// copied is a node with lists of its own.
func copied(n api.Node) api.Node {
	n.Keys, n.Vals, n.Kids = slices.Clone(n.Keys), slices.Clone(n.Vals), slices.Clone(n.Kids)
	return n
}

// scribble writes over all of a list, its spare room too.
func scribble[T any](l []T, x T) {
	l = l[:cap(l)]
	for i := range l {
		l[i] = x
	}
}

func scribbleNode(n api.Node) {
	scribble(n.Keys, "scribble")
	scribble(n.Vals, "scribble")
	scribble(n.Kids, 99)
}

func TestNodesStayAsTheyWere(t *testing.T) {
	l := rightNodes()
	for _, n := range wrongNodes() {
		l = append(l, n)
	}
	for _, n := range l {
		n = roomy(n)
		was := copied(whole(n))
		page.Check(n)
		page.Size(n)
		b, _ := page.Encode(n)
		scribble(b, 0xEE)
		if !same(whole(n), was) {
			t.Errorf("%v has become %v", was, whole(n))
		}
	}
}

func TestPagesStayAsTheyWere(t *testing.T) {
	for _, n := range rightNodes() {
		good := encode(t, n)
		bad := slices.Clone(good)
		bad[40] ^= 1
		for _, b := range [][]byte{good, bad, good[:100]} {
			room := append(slices.Clone(b), "spare room"...)
			was := slices.Clone(room)
			got, _ := page.Decode(room[:len(b)])
			scribbleNode(got)
			if !bytes.Equal(room, was) {
				t.Errorf("% x has become % x", was, room)
			}
		}
	}
}

func TestPagesShareNothing(t *testing.T) {
	for _, n := range rightNodes() {
		mine := copied(n)
		one, two := encode(t, mine), encode(t, mine)
		scribbleNode(mine)
		scribble(one, 0xEE)
		wantNode(t, two, n)
		wantNode(t, encode(t, n), n)
	}
}

func TestNodesShareNothing(t *testing.T) {
	for _, n := range rightNodes() {
		b := encode(t, n)
		one, _ := page.Decode(b)
		two, _ := page.Decode(b)
		three, _ := page.Decode(b)
		scribble(b, 0xEE)
		scribbleNode(one)
		if !same(two, n) {
			t.Errorf("two answers, or an answer and the bytes, share memory: %v, not %v", two, n)
		}
		scribble(two.Keys, "scribble")
		if !slices.Equal(two.Vals, n.Vals) || !slices.Equal(two.Kids, n.Kids) {
			t.Errorf("Keys and another list share memory: %v, not %v", two, n)
		}
		scribble(three.Vals, "scribble")
		if !slices.Equal(three.Keys, n.Keys) {
			t.Errorf("Vals and Keys share memory: %v, not %v", three, n)
		}
	}
}

// R2

func TestNothingIsNilOrEmpty(t *testing.T) {
	none, empty := api.Node{}, api.Node{Keys: []string{}, Vals: []string{}, Kids: []int{}}
	wantErr(t, "Check", page.Check(none), page.Check(empty))
	wantSize(t, none, page.Size(empty))
	if !bytes.Equal(encode(t, none), encode(t, empty)) {
		t.Error("nil and empty lists differ")
	}
	inner := api.Node{Level: 1, Kids: []int{1}}
	bare := api.Node{Level: 1, Kids: []int{1}, Keys: []string{}, Vals: []string{}}
	if !bytes.Equal(encode(t, inner), encode(t, bare)) {
		t.Error("nil and empty lists differ")
	}
}

// R6, P1

func TestAnyNode(t *testing.T) {
	g := rand.New(rand.NewSource(13))
	numbers := []int{math.MinInt, -1, 0, 0, 0, 1, 1, 2, 20, 21, 255, 256, api.MaxPages, api.MaxPages + 1, api.MaxLSN, api.MaxLSN + 1, math.MaxInt}
	some := []string{"", "a", "b", "\xff", long("k", 16), long("k", 17), long("v", 32), long("v", 33), long("v", 300), long("v", 70000)}
	list := func() []string {
		var l []string
		for range g.Intn(5) {
			l = append(l, some[g.Intn(len(some))])
		}
		return l
	}
	for range 20000 {
		n := api.Node{Level: numbers[g.Intn(len(numbers))], LSN: numbers[g.Intn(len(numbers))], Right: numbers[g.Intn(len(numbers))], High: some[g.Intn(len(some))], Keys: list(), Vals: list()}
		for range g.Intn(4) {
			n.Kids = append(n.Kids, numbers[g.Intn(len(numbers))])
		}
		e := page.Check(n)
		wantErr(t, "Check", page.Check(n), e)
		wantSize(t, n, page.Size(n))
		b, e2 := page.Encode(n)
		wantErr(t, "Encode", e2, e)
		again, _ := page.Encode(n)
		if !bytes.Equal(b, again) || (len(b) == 0) == (e == api.OK) {
			t.Fatalf("Encode: %d and %d bytes, %v", len(b), len(again), e)
		}
		if e == api.OK {
			wantNode(t, b, n)
		}
	}
}

func TestAnyBytes(t *testing.T) {
	g := rand.New(rand.NewSource(14))
	for run := range 20000 {
		b := make([]byte, g.Intn(300))
		if run%4 != 0 {
			b = make([]byte, bodySize)
		}
		g.Read(b)
		if run%2 == 0 && len(b) > 17 {
			copy(b, "\x00\x01\x00\x00\x00\x00\x00\x00\x00\x01\x00\x00\x00")
		}
		n, e := page.Decode(sealed(b))
		again, e2 := page.Decode(sealed(b))
		if e != e2 || !same(n, again) {
			t.Fatalf("Decode(% x): %v, %v and %v, %v", b, n, e, again, e2)
		}
		wantNoPage(t, "any bytes", b)
	}
}

// The chapter's examples.

func TestExamples(t *testing.T) {
	b := encode(t, api.Node{})
	if string(b[:17]) != strings.Repeat("\x00", 17) || !bytes.Equal(b, sealed(nil)) {
		t.Errorf("a leaf without keys: % x", b)
	}
	wantSize(t, api.Node{}, 21)
	wantNoPage(t, "bytes 0 alone", make([]byte, api.PageSize))
}
