package record_test

import (
	"bytes"
	"encoding/binary"
	"hash/crc32"
	"math"
	"math/rand"
	"slices"
	"strings"
	"testing"

	"lattice/api"
	"lattice/page"
	"lattice/record"
)

// least is how many bytes the frame of a record without texts has.
const least = 43

// text is a text of n bytes.
func text(n int) string { return strings.Repeat("x", n) }

// pageOf is the page of a node that is right.
func pageOf(n api.Node) string {
	b, e := page.Encode(n)
	if e != api.OK {
		panic(e)
	}
	return string(b)
}

// turned is a text of which one bit is turned.
func turned(s string, bit int) string {
	b := []byte(s)
	b[bit/8] ^= 1 << (bit % 8)
	return string(b)
}

// newPages are pages of nodes whose LSN is 0.
func newPages() []string {
	return []string{
		pageOf(api.Node{}),
		pageOf(api.Node{Right: 7, High: "m", Keys: []string{"a", "b"}, Vals: []string{"", text(api.MaxValue)}}),
		pageOf(api.Node{Level: 1, Keys: []string{"m"}, Kids: []int{2, api.MaxPages}}),
		pageOf(api.Node{Level: 20, Kids: []int{1}, Right: api.MaxPages, High: text(api.MaxKey)}),
	}
}

// noNewPages are texts that are none of those.
func noNewPages() []string {
	blank := pageOf(api.Node{})
	return []string{
		"", "v", text(api.MaxValue), text(api.PageSize),
		string(make([]byte, api.PageSize)),
		blank[:api.PageSize-1], blank + "\x00", blank + blank,
		turned(blank, 0), turned(blank, 8*api.PageSize-1),
		pageOf(api.Node{LSN: 1}), pageOf(api.Node{LSN: api.MaxLSN}),
		pageOf(api.Node{LSN: 9, Level: 1, Kids: []int{1}}),
	}
}

// kindRow is a row of the chapter's table: what each field of a kind may be.
type kindRow struct {
	page, other, req func(int) bool
	key, value       func(string) bool
}

func none(n int) bool             { return n == 0 }
func aPage(n int) bool            { return n >= 1 && n <= 4096 }
func aRequest(n int) bool         { return n >= 1 && n <= 1<<40 }
func empty(s string) bool         { return s == "" }
func aKey(s string) bool          { return len(s) >= 1 && len(s) <= 16 }
func aValue(s string) bool        { return len(s) <= 32 }
func aNewPage(s string) bool      { return slices.Contains(newPages(), s) }
func number(n int) func(int) bool { return func(m int) bool { return m == n } }

// rows are the chapter's table; a commit of a put and one of a delete are a row each.
func rows(kind int) []kindRow {
	return map[int][]kindRow{
		1: {{none, none, none, empty, empty}},
		2: {{aPage, none, none, aKey, aValue}},
		3: {{aPage, none, none, aKey, empty}},
		4: {{aPage, none, none, empty, aNewPage}},
		5: {{aPage, aPage, none, aKey, empty}},
		6: {{aPage, aPage, none, aKey, empty}},
		7: {{none, number(1), aRequest, aKey, aValue}, {none, number(2), aRequest, aKey, empty}},
	}[kind]
}

// isRight is what the chapter says of a record.
func isRight(r api.Record) bool {
	if r.LSN < 1 || r.LSN > 1<<40 || r.Epoch < 0 || r.Epoch > 1<<40 {
		return false
	}
	return slices.ContainsFunc(rows(r.Kind), func(x kindRow) bool {
		return x.page(r.Page) && x.other(r.Other) && x.req(r.Req) && x.key(r.Key) && x.value(r.Value)
	})
}

// rightRecords are records at all edges that are right, of each kind.
func rightRecords() []api.Record {
	l := []api.Record{
		{LSN: 1, Epoch: 0, Kind: api.ReNoop},
		{LSN: 1, Epoch: 1, Kind: api.ReNoop},
		{LSN: api.MaxLSN, Epoch: api.MaxLSN, Kind: api.ReNoop},
		{LSN: 258, Epoch: 3, Kind: api.RePut, Page: 2, Key: "a", Value: "xy"},
		{LSN: 2, Kind: api.RePut, Page: 1, Key: "\x00"},
		{LSN: 2, Epoch: 9, Kind: api.RePut, Page: api.MaxPages, Key: text(api.MaxKey), Value: text(api.MaxValue)},
		{LSN: 3, Epoch: 1, Kind: api.ReDel, Page: 1, Key: "\xff\xfe"},
		{LSN: api.MaxLSN, Epoch: 1, Kind: api.ReDel, Page: api.MaxPages, Key: text(api.MaxKey)},
		{LSN: 5, Epoch: 2, Kind: api.ReCut, Page: 1, Other: api.MaxPages, Key: "m"},
		{LSN: 5, Epoch: 2, Kind: api.ReCut, Page: api.MaxPages, Other: 1, Key: text(api.MaxKey)},
		{LSN: 5, Epoch: 2, Kind: api.ReCut, Page: 3, Other: 3, Key: "k"},
		{LSN: 6, Epoch: 2, Kind: api.RePost, Page: 1, Other: api.MaxPages, Key: "m"},
		{LSN: 6, Epoch: 2, Kind: api.RePost, Page: api.MaxPages, Other: 1, Key: text(api.MaxKey)},
		{LSN: 7, Epoch: 2, Kind: api.ReCommit, Other: 1, Req: 1, Key: "a", Value: "x"},
		{LSN: 7, Epoch: 2, Kind: api.ReCommit, Other: 1, Req: 1, Key: "a"},
		{LSN: 7, Epoch: 2, Kind: api.ReCommit, Other: 1, Req: api.MaxReq, Key: text(api.MaxKey), Value: text(api.MaxValue)},
		{LSN: 7, Epoch: 2, Kind: api.ReCommit, Other: 2, Req: 1, Key: "a"},
		{LSN: 7, Epoch: 2, Kind: api.ReCommit, Other: 2, Req: api.MaxReq, Key: text(api.MaxKey)},
	}
	for i, p := range newPages() {
		l = append(l, api.Record{LSN: 4 + i, Epoch: i, Kind: api.ReNew, Page: 1 + i*(api.MaxPages-1)/3, Value: p})
	}
	return l
}

// laid is a number's lowest bytes, the lowest first.
func laid(b []byte, n, size int) []byte {
	return append(b, binary.LittleEndian.AppendUint64(nil, uint64(n))[:size]...)
}

// plain is the bytes of any record, in words of the chapter.
func plain(r api.Record) []byte {
	b := laid(nil, r.LSN, 8)
	b = laid(b, r.Epoch, 8)
	b = laid(b, r.Kind, 1)
	b = laid(b, r.Page, 4)
	b = laid(b, r.Other, 4)
	b = laid(b, r.Req, 8)
	b = append(laid(b, len(r.Key), 2), r.Key...)
	return append(laid(b, len(r.Value), 2), r.Value...)
}

// framed is some bytes as a frame has a record's.
func framed(b []byte) []byte {
	f := append(laid(nil, len(b), 2), b...)
	return binary.LittleEndian.AppendUint32(f, crc32.ChecksumIEEE(f))
}

// encode is the frame of a record that is right.
func encode(t *testing.T, r api.Record) []byte {
	t.Helper()
	b, e := record.Encode(r)
	if e != api.OK {
		t.Fatalf("Encode(%v): %v", r, e)
	}
	return b
}

func wantRecord(t *testing.T, b []byte, want api.Record, size int) {
	t.Helper()
	if r, n, e := record.Decode(b); r != want || n != size || e != api.OK {
		t.Errorf("Decode: %v, %d, %v, not %v, %d", r, n, e, want, size)
	}
}

func wantNoRecord(t *testing.T, what string, b []byte, want api.Errno) {
	t.Helper()
	if r, n, e := record.Decode(b); r != (api.Record{}) || n != 0 || e != want {
		t.Errorf("Decode of %s: %v, %d, %v, not %v alone", what, r, n, e, want)
	}
}

// wantChecked holds Check and Encode of any record, and Decode of its bytes, against the chapter.
func wantChecked(t *testing.T, r api.Record) {
	t.Helper()
	want := api.ErrRecord
	if isRight(r) {
		want = api.OK
	}
	if e := record.Check(r); e != want {
		t.Errorf("Check(%v): %v, not %v", r, e, want)
	}
	b, e := record.Encode(r)
	if e != want {
		t.Errorf("Encode(%v): %v, not %v", r, e, want)
	}
	f := framed(plain(r))
	if want == api.OK {
		if !bytes.Equal(b, f) {
			t.Errorf("Encode(%v): %v, not %v", r, b, f)
		}
		wantRecord(t, f, r, len(f))
	} else if len(b) != 0 {
		t.Errorf("Encode(%v): %d bytes beside an error", r, len(b))
	}
}

// 9.1

func TestRightRecords(t *testing.T) {
	for _, r := range rightRecords() {
		if !isRight(r) {
			t.Fatalf("%v is not right by the chapter's words", r)
		}
		wantChecked(t, r)
	}
}

func TestLSNAndEpoch(t *testing.T) {
	edges := []int{math.MinInt, -1, 0, 1, 2, api.MaxLSN - 1, api.MaxLSN, api.MaxLSN + 1, 1 << 41, math.MaxInt}
	for _, r := range rightRecords() {
		for _, lsn := range edges {
			for _, epoch := range edges {
				r.LSN, r.Epoch = lsn, epoch
				wantChecked(t, r)
			}
		}
	}
}

// Each field takes each of its edges, all fields in all pairings.
func TestFieldsOfAllKinds(t *testing.T) {
	kinds := []int{-1, 0, 1, 2, 3, 4, 5, 6, 7, 8, 255, 256 + api.ReNoop}
	pages := []int{-1, 0, 1, api.MaxPages, api.MaxPages + 1}
	others := []int{-1, 0, 1, 2, 3, api.MaxPages, api.MaxPages + 1}
	reqs := []int{-1, 0, 1, api.MaxReq, api.MaxReq + 1}
	keys := []string{"", "k", text(api.MaxKey), text(api.MaxKey + 1)}
	values := []string{"", "v", text(api.MaxValue), text(api.MaxValue + 1), newPages()[1], pageOf(api.Node{LSN: 1})}
	for _, r := range product(kinds, pages, others, reqs) {
		for _, r.Key = range keys {
			for _, r.Value = range values {
				want := api.ErrRecord
				if isRight(r) {
					want = api.OK
				}
				if e := record.Check(r); e != want {
					t.Errorf("Check(%v): %v, not %v", r, e, want)
				}
			}
		}
	}
}

// product is a record, without texts, of each pairing of some numbers.
func product(kinds, pages, others, reqs []int) []api.Record {
	var l []api.Record
	r := api.Record{LSN: 1}
	for _, r.Kind = range kinds {
		for _, r.Page = range pages {
			for _, r.Other = range others {
				for _, r.Req = range reqs {
					l = append(l, r)
				}
			}
		}
	}
	return l
}

// Of each record that is right each field in turn is something else.
func TestOneFieldIsAnother(t *testing.T) {
	numbers := []int{math.MinInt, -1, 0, 1, 2, 3, 4, 5, 6, 7, 8, api.MaxPages, api.MaxPages + 1, 1 << 32, 1<<32 + 1, api.MaxReq, api.MaxReq + 1, math.MaxInt}
	texts := append(noNewPages(), newPages()...)
	texts = append(texts, text(1), text(api.MaxKey), text(api.MaxKey+1), text(api.MaxValue+1), text(300), text(65535), text(70000))
	for _, right := range rightRecords() {
		for _, n := range numbers {
			for field := range 4 {
				r := right
				*[]*int{&r.Kind, &r.Page, &r.Other, &r.Req}[field] = n
				wantChecked(t, r)
			}
		}
		for _, s := range texts {
			r := right
			r.Key = s
			wantChecked(t, r)
			r = right
			r.Value = s
			wantChecked(t, r)
		}
	}
}

func TestKindsThatAreNone(t *testing.T) {
	for _, r := range rightRecords() {
		for _, r.Kind = range []int{math.MinInt, -7, -1, 0, 8, 9, 255, 256, 256 + 7, 1<<32 + 1, math.MaxInt} {
			wantChecked(t, r)
			if e := record.Check(r); e != api.ErrRecord {
				t.Errorf("Check(%v): %v", r, e)
			}
		}
	}
}

func TestNewPages(t *testing.T) {
	r := api.Record{LSN: 1, Kind: api.ReNew, Page: 1}
	for _, r.Value = range newPages() {
		if e := record.Check(r); e != api.OK {
			t.Errorf("Check of a new page: %v", e)
		}
	}
	for i, s := range noNewPages() {
		r.Value = s
		if e := record.Check(r); e != api.ErrRecord {
			t.Errorf("Check of text %d, no new page: %v", i, e)
		}
		wantNoRecord(t, "no new page", framed(plain(r)), api.ErrRecord)
	}
	for bit := range 8 * api.PageSize {
		r.Value = turned(newPages()[1], bit)
		if e := record.Check(r); e != api.ErrRecord {
			t.Errorf("Check of a page whose bit %d is turned: %v", bit, e)
		}
	}
}

func TestEncode(t *testing.T) {
	b := encode(t, api.Record{LSN: 0x0102030405, Epoch: 7, Kind: api.ReCut, Page: 0x0102, Other: 0x0304, Key: "ab"})
	want := []byte{39, 0, 5, 4, 3, 2, 1, 0, 0, 0, 7, 0, 0, 0, 0, 0, 0, 0, 5, 2, 1, 0, 0, 4, 3, 0, 0, 0, 0, 0, 0, 0, 0, 0, 0, 2, 0, 'a', 'b', 0, 0}
	if !bytes.Equal(b[:len(b)-4], want) || !bytes.Equal(b, framed(want[2:])) {
		t.Errorf("Encode: %v, not %v and the sum", b, want)
	}
}

// 9.2

func TestFewerThanTwoBytes(t *testing.T) {
	wantNoRecord(t, "nil", nil, api.ErrCut)
	wantNoRecord(t, "no bytes", []byte{}, api.ErrCut)
	for x := range 256 {
		wantNoRecord(t, "one byte", []byte{byte(x)}, api.ErrCut)
	}
}

// A frame may say any size, whatever its bytes are.
func TestSizesThatAFrameSays(t *testing.T) {
	for _, count := range []int{0, 1, 2, 36, 37, 38, 255, 256, 309, 310, 32768, 65535} {
		f := framed(make([]byte, count))
		for _, cut := range []int{2, 3, 4, 5, count, count + 1, count + 2, count + 5} {
			if cut >= 2 {
				wantNoRecord(t, "a frame that is cut", f[:cut], api.ErrCut)
			}
		}
		wantNoRecord(t, "bytes 0", f, api.ErrRecord)
		wantNoRecord(t, "bytes 0, and one behind", append(slices.Clone(f), 1), api.ErrRecord)
		f[len(f)-1] ^= 128
		wantNoRecord(t, "bytes 0 of another sum", f, api.ErrSum)
		wantNoRecord(t, "bytes 0 of another sum, cut", f[:len(f)-1], api.ErrCut)
	}
}

func TestOtherSums(t *testing.T) {
	for _, r := range rightRecords() {
		f := encode(t, r)
		end := len(f) - 4
		for _, sum := range []uint32{0, 1, math.MaxUint32, crc32.ChecksumIEEE(f[:end]) + 1, ^crc32.ChecksumIEEE(f[:end]), crc32.ChecksumIEEE(f[2:end]), crc32.ChecksumIEEE(f)} {
			wantNoRecord(t, "another sum", binary.LittleEndian.AppendUint32(f[:end:end], sum), api.ErrSum)
		}
		swapped := binary.BigEndian.AppendUint32(f[:end:end], crc32.ChecksumIEEE(f[:end]))
		wantNoRecord(t, "a sum whose highest byte is first", swapped, api.ErrSum)
	}
}

// The sum is looked at ahead of the record.
func TestWrongRecordsOfAnotherSum(t *testing.T) {
	for _, r := range rightRecords() {
		r.Kind = 8
		f := framed(plain(r))
		wantNoRecord(t, "a wrong record", f, api.ErrRecord)
		wantNoRecord(t, "a wrong record, cut", f[:len(f)-1], api.ErrCut)
		f[len(f)-3] ^= 1
		wantNoRecord(t, "a wrong record of another sum", f, api.ErrSum)
	}
}

// Bytes that are too few or too many for a record, within a right sum.
func TestTooFewAndTooManyBytes(t *testing.T) {
	for _, r := range rightRecords() {
		b := plain(r)
		for n := range b {
			wantNoRecord(t, "too few bytes", framed(b[:n]), api.ErrRecord)
		}
		for _, more := range [][]byte{{0}, {1}, {0, 0}, make([]byte, 37), b, []byte(text(300))} {
			wantNoRecord(t, "too many bytes", framed(slices.Concat(b, more)), api.ErrRecord)
		}
	}
}

// Fields that are wrong, each as far as its bytes can tell it.
func TestWrongBytes(t *testing.T) {
	put := api.Record{LSN: 1, Epoch: 1, Kind: api.RePut, Page: 1, Key: "a", Value: "x"}
	for _, c := range []struct {
		at   int
		what []byte
	}{
		{0, laid(nil, 0, 8)}, {0, laid(nil, api.MaxLSN+1, 8)}, {0, laid(nil, math.MaxInt, 8)}, {0, laid(nil, math.MinInt, 8)}, {0, laid(nil, -1, 8)}, {0, laid(nil, math.MinInt+1, 8)},
		{8, laid(nil, api.MaxLSN+1, 8)}, {8, laid(nil, -1, 8)}, {8, laid(nil, math.MinInt, 8)},
		{16, []byte{0}}, {16, []byte{8}}, {16, []byte{255}}, {16, []byte{api.ReNoop}}, {16, []byte{api.ReDel}}, {16, []byte{api.ReNew}}, {16, []byte{api.ReCut}}, {16, []byte{api.RePost}}, {16, []byte{api.ReCommit}},
		{17, laid(nil, 0, 4)}, {17, laid(nil, api.MaxPages+1, 4)}, {17, laid(nil, -1, 4)},
		{21, laid(nil, 1, 4)}, {21, laid(nil, -1, 4)},
		{25, laid(nil, 1, 8)}, {25, laid(nil, -1, 8)}, {25, laid(nil, math.MinInt, 8)},
		{33, []byte{0, 0}}, {33, []byte{2, 0}}, {33, []byte{1, 1}}, {33, []byte{255, 255}},
		{36, []byte{0, 0}}, {36, []byte{2, 0}}, {36, []byte{1, 1}}, {36, []byte{255, 255}},
	} {
		b := plain(put)
		copy(b[c.at:], c.what)
		wantNoRecord(t, "wrong bytes", framed(b), api.ErrRecord)
	}
	for _, r := range []api.Record{
		{LSN: 1, Kind: api.RePut, Page: 1, Key: text(api.MaxKey + 1)},
		{LSN: 1, Kind: api.RePut, Page: 1, Key: text(api.PageSize)},
		{LSN: 1, Kind: api.RePut, Page: 1, Key: text(api.PageSize + 1)},
		{LSN: 1, Kind: api.RePut, Page: 1, Key: "a", Value: text(api.MaxValue + 1)},
		{LSN: 1, Kind: api.RePut, Page: 1, Key: "a", Value: text(api.PageSize)},
		{LSN: 1, Kind: api.RePut, Page: 1, Key: "a", Value: text(65000)},
		{LSN: 1, Kind: api.ReNew, Page: 1, Value: text(api.PageSize)},
		{LSN: 1, Kind: api.ReNew, Page: 1, Key: "a", Value: newPages()[0]},
	} {
		wantNoRecord(t, "long texts", framed(plain(r)), api.ErrRecord)
	}
}

// 9.3

func TestAnythingBehindAFrame(t *testing.T) {
	all := rightRecords()
	for i, r := range all {
		f := encode(t, r)
		next := encode(t, all[(i+1)%len(all)])
		for _, behind := range [][]byte{nil, {0}, {255}, make([]byte, 500), f, next, next[:5], []byte(text(70000))} {
			wantRecord(t, slices.Concat(f, behind), r, len(f))
		}
	}
}

// anyText is a text of least to most bytes.
func anyText(g *rand.Rand, least, most int) string {
	b := make([]byte, least+g.Intn(most-least+1))
	g.Read(b)
	return string(b)
}

// anyRecord is a record that is right, at random.
func anyRecord(g *rand.Rand) api.Record {
	r := api.Record{LSN: 1 + g.Intn(api.MaxLSN), Epoch: g.Intn(api.MaxLSN + 1), Kind: 1 + g.Intn(7)}
	if r.Kind != api.ReNoop && r.Kind != api.ReCommit {
		r.Page = 1 + g.Intn(api.MaxPages)
	}
	if r.Kind != api.ReNoop && r.Kind != api.ReNew {
		r.Key = anyText(g, 1, api.MaxKey)
	}
	switch r.Kind {
	case api.RePut:
		r.Value = anyText(g, 0, api.MaxValue)
	case api.ReNew:
		r.Value = pageOf(api.Node{Right: g.Intn(9), Keys: []string{anyText(g, 1, api.MaxKey)}, Vals: []string{anyText(g, 0, api.MaxValue)}})
	case api.ReCut, api.RePost:
		r.Other = 1 + g.Intn(api.MaxPages)
	case api.ReCommit:
		r.Other, r.Req = 1+g.Intn(2), 1+g.Intn(api.MaxReq)
		if r.Other == 1 {
			r.Value = anyText(g, 0, api.MaxValue)
		}
	}
	return r
}

func TestDecodeOfEncode(t *testing.T) {
	g := rand.New(rand.NewSource(90))
	for range 5000 {
		r := anyRecord(g)
		f := encode(t, r)
		if !bytes.Equal(f, framed(plain(r))) {
			t.Fatalf("Encode(%v): %v", r, f)
		}
		wantRecord(t, append(f, anyText(g, 0, 100)...), r, len(f))
	}
}

// What Decode takes is the frame of its record, also where somebody made the sum right again.
func TestWhatIsTakenIsTheFrame(t *testing.T) {
	g := rand.New(rand.NewSource(91))
	taken := 0
	for range 40000 {
		b := plain(anyRecord(g))
		for range g.Intn(4) {
			b[g.Intn(len(b))] = byte(g.Intn(256) >> g.Intn(9))
		}
		f := framed(b)
		r, n, e := record.Decode(append(f, 1, 2, 3))
		if e == api.ErrRecord {
			if r != (api.Record{}) || n != 0 {
				t.Fatalf("%v, %d beside an error", r, n)
			}
			continue
		}
		taken++
		if again := encode(t, r); e != api.OK || n != len(f) || !bytes.Equal(again, f) {
			t.Fatalf("Decode of %v: %v, %d, %v", f, r, n, e)
		}
	}
	if taken < 1000 {
		t.Errorf("only %d were taken", taken)
	}
}

// 9.4

func TestFramesThatAreCut(t *testing.T) {
	for _, r := range rightRecords() {
		f := encode(t, r)
		for n := range f {
			wantNoRecord(t, "a frame that is cut", f[:n], api.ErrCut) // though the rest stands behind, as spare room
			wantNoRecord(t, "a frame that is cut", slices.Clone(f[:n]), api.ErrCut)
		}
	}
}

func TestBitsThatAreTurned(t *testing.T) {
	for _, r := range rightRecords() {
		f := encode(t, r)
		for bit := range 8 * len(f) {
			b := slices.Clone(f)
			b[bit/8] ^= 1 << (bit % 8)
			_, _, e := record.Decode(b)
			if bit >= 16 && e != api.ErrSum || e == api.OK {
				t.Errorf("bit %d of %v is turned: %v", bit, r, e)
			}
			for _, behind := range [][]byte{f, make([]byte, 70000)} {
				if got, _, e := record.Decode(slices.Concat(b, behind)); e == api.OK || got != (api.Record{}) {
					t.Errorf("bit %d of %v is turned, and something is behind: %v", bit, r, e)
				}
			}
		}
	}
}

// R3, R6

func TestBytesHandedInStay(t *testing.T) {
	for _, r := range rightRecords() {
		room := append(encode(t, r), 7, 8, 9)
		was := slices.Clone(room)
		f := room[:len(room)-3]
		got, n, e := record.Decode(f)
		if !bytes.Equal(room, was) {
			t.Fatal("Decode has changed its bytes")
		}
		for i := range room {
			room[i] = 0xEE
		}
		if got != r || n != len(f) || e != api.OK {
			t.Errorf("the record has changed with the bytes: %v", got)
		}
	}
}

func TestFramesShareNothing(t *testing.T) {
	for _, r := range rightRecords() {
		one, two := encode(t, r), encode(t, r)
		was := slices.Clone(two)
		one = one[:cap(one)]
		for i := range one {
			one[i] = 0xEE
		}
		if !bytes.Equal(two, was) || !bytes.Equal(encode(t, r), was) {
			t.Errorf("frames of %v share memory", r)
		}
	}
}

// P1

func TestAnyBytes(t *testing.T) {
	g := rand.New(rand.NewSource(92))
	for range 50000 {
		b := []byte(anyText(g, 0, 120))
		if len(b) > 1 && g.Intn(2) == 0 { // a size that the bytes have
			b[0], b[1] = byte(g.Intn(len(b))), 0
		}
		r, n, e := record.Decode(b)
		if e == api.OK || r != (api.Record{}) || n != 0 {
			t.Fatalf("Decode of %v: %v, %d, %v", b, r, n, e)
		}
		if cut := len(b) < 2 || len(b) < 6+int(b[0])+256*int(b[1]); cut != (e == api.ErrCut) {
			t.Fatalf("Decode of %v: %v", b, e)
		}
	}
}

// The chapter's own example.

func TestExample(t *testing.T) {
	f := encode(t, api.Record{LSN: 1, Epoch: 1, Kind: 1})
	if len(f) != least || !bytes.Equal(f[:10], []byte{37, 0, 1, 0, 0, 0, 0, 0, 0, 0}) {
		t.Errorf("a frame of %d bytes: %v", len(f), f)
	}
}
