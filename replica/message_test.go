package replica_test

import (
	"bytes"
	"encoding/binary"
	"hash/crc32"
	"math"
	"math/rand"
	"slices"
	"strings"
	"testing"

	"lattice/api"
	"lattice/page"
	"lattice/record"
	"lattice/replica"
)

func noop(lsn, epoch int) api.Record {
	return api.Record{LSN: lsn, Epoch: epoch, Kind: api.ReNoop}
}

func rePut(lsn, epoch, page int, k, v string) api.Record {
	return api.Record{LSN: lsn, Epoch: epoch, Kind: api.RePut, Page: page, Key: k, Value: v}
}

func reDel(lsn, epoch, page int, k string) api.Record {
	return api.Record{LSN: lsn, Epoch: epoch, Kind: api.ReDel, Page: page, Key: k}
}

// rePage is a record of a page whose leaf has a key: the longest there are.
func rePage(lsn, epoch, i int) api.Record {
	b, _ := page.Encode(api.Node{Keys: []string{"k"}, Vals: []string{"v"}})
	return api.Record{LSN: lsn, Epoch: epoch, Kind: api.ReNew, Page: i, Value: string(b)}
}

// committed says that a put is done.
func committed(lsn, epoch, req int, k, v string) api.Record {
	return api.Record{LSN: lsn, Epoch: epoch, Kind: api.ReCommit, Other: 1, Req: req, Key: k, Value: v}
}

// deleted says that a delete is done.
func deleted(lsn, epoch, req int, k string) api.Record {
	return api.Record{LSN: lsn, Epoch: epoch, Kind: api.ReCommit, Other: 2, Req: req, Key: k}
}

// anyRecord is a right record.
func anyRecord(r *rand.Rand, lsn, epoch int) api.Record {
	k, v := strings.Repeat("k", 1+r.Intn(16)), strings.Repeat("\xff", r.Intn(33))
	switch r.Intn(6) {
	case 0:
		return rePut(lsn, epoch, 1+r.Intn(api.MaxPages), k, v)
	case 1:
		return reDel(lsn, epoch, 1+r.Intn(api.MaxPages), k)
	case 2:
		return rePage(lsn, epoch, 1+r.Intn(api.MaxPages))
	case 3:
		return committed(lsn, epoch, 1+r.Intn(api.MaxReq), k, v)
	case 4:
		return deleted(lsn, epoch, 1+r.Intn(api.MaxReq), k)
	}
	return noop(lsn, epoch)
}

func frame(t *testing.T, r api.Record) []byte {
	t.Helper()
	b, e := record.Encode(r)
	if e != api.OK {
		t.Fatal(r, e)
	}
	return b
}

// text is bytes behind how many they are.
func text(b []byte) []byte {
	return append(binary.LittleEndian.AppendUint16(nil, uint16(len(b))), b...)
}

func sealed(b []byte) []byte {
	return binary.LittleEndian.AppendUint32(slices.Clone(b), crc32.ChecksumIEEE(b))
}

// body is a message's bytes, but for the sum, by the chapter's words.
func body(kind int, numbers [4]uint64, ok byte, count int, frames ...[]byte) []byte {
	b := []byte{byte(kind)}
	for _, n := range numbers {
		b = binary.LittleEndian.AppendUint64(b, n)
	}
	b = binary.LittleEndian.AppendUint16(append(b, ok), uint16(count))
	for _, f := range frames {
		b = append(b, text(f)...)
	}
	return b
}

// plain are a message's bytes by the chapter's words.
func plain(t *testing.T, m replica.Message) []byte {
	t.Helper()
	var frames [][]byte
	for _, r := range m.Records {
		frames = append(frames, frame(t, r))
	}
	ok := byte(0)
	if m.OK {
		ok = 1
	}
	return sealed(body(m.Kind, [4]uint64{uint64(m.Epoch), uint64(m.Mark.Epoch), uint64(m.Mark.LSN), uint64(m.Commit)}, ok, len(frames), frames...))
}

func sameMessage(a, b replica.Message) bool {
	return a.Kind == b.Kind && a.Epoch == b.Epoch && a.Mark == b.Mark && a.Commit == b.Commit && a.OK == b.OK && slices.Equal(a.Records, b.Records)
}

// rights are right messages, at the edges.
func rights() []replica.Message {
	l := []replica.Message{{Kind: 1}, {Kind: 2}, {Kind: 3}, {Kind: 4}, {Kind: 1, OK: true}, {Kind: 3, Epoch: 1}, {Kind: 1, Records: []api.Record{}}}
	for _, n := range []int{1, 255, 256, 1 << 32, api.MaxLSN - 1, api.MaxLSN} {
		l = append(l, replica.Message{Kind: 2, Epoch: n}, replica.Message{Kind: 3, Mark: api.Mark{Epoch: n}}, replica.Message{Kind: 4, Mark: api.Mark{LSN: n}}, replica.Message{Kind: 1, Commit: n})
		l = append(l, replica.Message{Kind: 4, Epoch: n, Mark: api.Mark{Epoch: n, LSN: n}, Commit: n, OK: true})
	}
	for _, count := range []int{1, 2, replica.MaxSend - 1, replica.MaxSend} {
		m := replica.Message{Kind: replica.Append, Epoch: 7, Mark: api.Mark{Epoch: 2, LSN: 9}, Commit: 3}
		for i := range count {
			m.Records = append(m.Records, rePage(10+i, 7, 1+i))
		}
		l = append(l, m)
	}
	for kind := replica.Append; kind <= replica.Given; kind++ { // of each kind, and none of them need follow one another
		l = append(l, replica.Message{Kind: kind, OK: kind == 2, Records: []api.Record{noop(9, 3), deleted(api.MaxLSN, 0, api.MaxReq, "k"), noop(1, api.MaxLSN), committed(4, 4, 1, "key", ""), rePut(4, 4, api.MaxPages, strings.Repeat("k", 16), strings.Repeat("v", 32))}})
	}
	return l
}

// 25.1: Encode and Decode.

func TestEncode(t *testing.T) {
	for _, m := range rights() {
		b, e := replica.Encode(m)
		if e != api.OK || !bytes.Equal(b, plain(t, m)) {
			t.Errorf("Encode(%+v): %v, %v, not %v", m, b, e, plain(t, m))
		}
		if back, e := replica.Decode(b); e != api.OK || !sameMessage(back, m) {
			t.Errorf("Decode of %+v: %+v, %v", m, back, e)
		}
	}
	r := rand.New(rand.NewSource(251))
	for range 500 {
		m := replica.Message{Kind: 1 + r.Intn(4), Epoch: r.Intn(api.MaxLSN + 1), Mark: api.Mark{Epoch: r.Intn(9), LSN: r.Intn(api.MaxLSN)}, Commit: r.Intn(300), OK: r.Intn(2) == 0}
		for range r.Intn(replica.MaxSend + 1) {
			m.Records = append(m.Records, anyRecord(r, 1+r.Intn(999), r.Intn(9)))
		}
		b, e := replica.Encode(m)
		if e != api.OK || !bytes.Equal(b, plain(t, m)) {
			t.Fatalf("Encode(%+v): %v, %v", m, b, e)
		}
		if back, e := replica.Decode(b); e != api.OK || !sameMessage(back, m) {
			t.Fatalf("Decode of %+v: %+v, %v", m, back, e)
		}
	}
}

func TestEncodeRefusesWhatIsNotRight(t *testing.T) {
	wrong := []replica.Message{{}, {Kind: -1}, {Kind: 5}, {Kind: 255}, {Kind: 257}, {Kind: math.MinInt}, {Kind: math.MaxInt}}
	for _, n := range []int{-1, api.MaxLSN + 1, math.MinInt, math.MaxInt} {
		wrong = append(wrong, replica.Message{Kind: 1, Epoch: n}, replica.Message{Kind: 1, Mark: api.Mark{Epoch: n}}, replica.Message{Kind: 1, Mark: api.Mark{LSN: n}}, replica.Message{Kind: 1, Commit: n})
	}
	many := replica.Message{Kind: 1}
	for i := range replica.MaxSend + 1 {
		many.Records = append(many.Records, noop(1+i, 1))
	}
	wrong = append(wrong, many)
	for at := range replica.MaxSend { // one that is not right, at each place
		m := replica.Message{Kind: 1, Records: slices.Clone(many.Records[:replica.MaxSend])}
		m.Records[at].Req = 1
		wrong = append(wrong, m)
	}
	wrong = append(wrong, replica.Message{Kind: 1, Records: []api.Record{{}}}, replica.Message{Kind: 1, Records: []api.Record{noop(0, 1)}}, replica.Message{Kind: 2, Records: []api.Record{noop(1, -1)}})
	for _, m := range wrong {
		if b, e := replica.Encode(m); e != api.ErrForm || len(b) != 0 {
			t.Errorf("Encode(%+v): %v, %v", m, b, e)
		}
	}
}

func wantNoMessage(t *testing.T, b []byte, why string) {
	t.Helper()
	if m, e := replica.Decode(b); e != api.ErrForm || !sameMessage(m, replica.Message{}) {
		t.Errorf("Decode of %s (%v): %+v, %v", why, b, m, e)
	}
}

func TestDecodeRefusesBytesThatAreTurned(t *testing.T) {
	for _, m := range []replica.Message{{Kind: 3, Epoch: 1}, {Kind: 2, Epoch: 9, OK: true, Mark: api.Mark{Epoch: 1, LSN: 5}}, {Kind: 1, Epoch: 4, Commit: 2, Records: []api.Record{noop(1, 4), rePut(2, 4, 1, "a", "x")}}} {
		b := plain(t, m)
		for n := range b {
			wantNoMessage(t, b[:n], "a beginning")
			wantNoMessage(t, b[n+1:], "an end")
			for x := range 255 {
				turned := slices.Clone(b)
				turned[n] += byte(x + 1)
				wantNoMessage(t, turned, "a byte that is turned")
			}
		}
		for _, more := range [][]byte{{0}, {1}, {0, 0, 0, 0}, b} {
			wantNoMessage(t, append(slices.Clone(b), more...), "more bytes")
			wantNoMessage(t, append(slices.Clone(more), b...), "bytes ahead")
		}
	}
	for _, b := range [][]byte{nil, {}, {0}, make([]byte, 4), make([]byte, 40), make([]byte, 65535)} {
		wantNoMessage(t, b, "noughts")
	}
	r := rand.New(rand.NewSource(252))
	for range 2000 {
		b := make([]byte, r.Intn(120))
		r.Read(b)
		wantNoMessage(t, b, "any bytes")
		wantNoMessage(t, sealed(b), "any bytes with their sum")
	}
}

// Bytes whose sum is right, and which are those of no right message all the same.
func TestDecodeRefusesBytesOfNoRightMessage(t *testing.T) {
	none := [4]uint64{}
	one := frame(t, noop(1, 1))
	many := slices.Repeat([][]byte{one}, replica.MaxSend+1)
	if _, e := replica.Decode(sealed(body(1, none, 1, 2, one, one))); e != api.OK {
		t.Fatal("the bytes to begin with are no message")
	}
	for why, b := range map[string][]byte{
		"Kind 0":                         body(0, none, 0, 0),
		"Kind 5":                         body(5, none, 0, 0),
		"Kind 255":                       body(255, none, 0, 0),
		"an OK of 2":                     body(1, none, 2, 0),
		"an OK of 255":                   body(1, none, 255, 0),
		"more records than are said":     body(1, none, 0, 0, one),
		"fewer records than are said":    body(1, none, 0, 2, one),
		"one more than MaxSend":          body(1, none, 0, len(many), many...),
		"many more, which are not there": body(1, none, 0, 65535),
		"a byte behind":                  append(body(1, none, 0, 1, one), 0),
		"a frame that is cut":            body(1, none, 0, 1, one[:len(one)-1]),
		"no frame":                       body(1, none, 0, 1, nil),
		"a frame with a byte behind":     body(1, none, 0, 1, append(slices.Clone(one), 0)),
		"two frames in one text":         body(1, none, 0, 1, slices.Concat(one, one)),
		"a frame of no right record":     body(1, none, 0, 1, sealed(text(make([]byte, 37)))),
		"a text that is cut":             append(body(1, none, 0, 1), 43, 0, 1),
		"a length that is cut":           append(body(1, none, 0, 1), 43),
		"nothing":                        nil,
		"a kind alone":                   {1},
		"a message without a count":      body(1, none, 0, 0)[:34],
	} {
		wantNoMessage(t, sealed(b), why)
	}
	for at := range 4 {
		for _, n := range []uint64{api.MaxLSN + 1, 1 << 41, math.MaxInt64, math.MaxInt64 + 1, math.MaxUint64} {
			numbers := none
			numbers[at] = n
			wantNoMessage(t, sealed(body(1, numbers, 0, 0)), "a number that is too great")
		}
	}
}

func TestMessagesShareNothing(t *testing.T) {
	l := append(make([]api.Record, 0, 8), noop(1, 1), rePut(2, 1, 1, "a", "x"))
	l = append(l, noop(9, 9))[:2]
	was := slices.Clone(l[:cap(l)])
	one, _ := replica.Encode(replica.Message{Kind: 1, Records: l})
	two, _ := replica.Encode(replica.Message{Kind: 1, Records: l})
	if !slices.Equal(l[:cap(l)], was) {
		t.Error("what was handed in was changed")
	}
	clear(l[:cap(l)])
	clear(one[:cap(one)])
	b := append(slices.Clone(two), 7, 7)
	m, e := replica.Decode(b[:len(two)])
	n, _ := replica.Decode(two)
	if !bytes.Equal(b, append(slices.Clone(two), 7, 7)) {
		t.Error("what was handed in was changed")
	}
	clear(b)
	clear(m.Records[:cap(m.Records)])
	if e != api.OK || !slices.Equal(n.Records, was[:2]) {
		t.Errorf("%+v, %v", n, e)
	}
}

// The chapter's example.
func TestExample(t *testing.T) {
	want := slices.Concat([]byte{3, 1}, make([]byte, 7), make([]byte, 24), []byte{0, 0, 0})
	if b, e := replica.Encode(replica.Message{Kind: 3, Epoch: 1}); e != api.OK || len(b) != 40 || !bytes.Equal(b, sealed(want)) {
		t.Errorf("%v, %v", b, e)
	}
}
