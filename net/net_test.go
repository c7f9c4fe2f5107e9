package net_test

import (
	"bytes"
	"math"
	"math/rand"
	"slices"
	"strconv"
	"testing"

	"lattice/api"
	"lattice/net"
)

const longest = 65535

func newNet(t *testing.T, nodes int) *net.Net {
	t.Helper()
	n, e := net.New(nodes)
	if n == nil || e != api.OK {
		t.Fatalf("New(%d): %v, %v", nodes, n, e)
	}
	return n
}

func msg(from, to int, s string) net.Message {
	return net.Message{From: from, To: to, Bytes: []byte(s)}
}

// letters is a net of two nodes with a message of each letter in flight, from 0 to 1.
func letters(t *testing.T, s string) *net.Net {
	t.Helper()
	n := newNet(t, 2)
	for _, x := range []byte(s) {
		send(t, n, msg(0, 1, string(x)))
	}
	return n
}

func send(t *testing.T, n *net.Net, m net.Message) {
	t.Helper()
	wantErr(t, "Send", n.Send(m.From, m.To, m.Bytes), api.OK)
}

func wantErr(t *testing.T, what string, got, want api.Errno) {
	t.Helper()
	if got != want {
		t.Errorf("%s: %v, not %v", what, got, want)
	}
}

func same(a, b net.Message) bool {
	return a.From == b.From && a.To == b.To && bytes.Equal(a.Bytes, b.Bytes)
}

func wantPick(t *testing.T, n *net.Net, i int, want net.Message) {
	t.Helper()
	m, e := n.Pick(i)
	if e != api.OK || !same(m, want) {
		t.Errorf("Pick(%d): %d to %d %.20q, %v, not %d to %d %.20q", i, m.From, m.To, m.Bytes, e, want.From, want.To, want.Bytes)
	}
}

func wantFlight(t *testing.T, n *net.Net, want []net.Message) {
	t.Helper()
	if got := n.Flight(); !slices.EqualFunc(got, want, same) {
		t.Errorf("Flight: %d messages %.60q, not %d %.60q", len(got), told(got), len(want), told(want))
	}
	if n.Len() != len(want) {
		t.Errorf("Len: %d, not %d", n.Len(), len(want))
	}
}

// told is a row of messages in short.
func told(row []net.Message) string {
	var b []byte
	for _, m := range row {
		b = append(append(b, byte('0'+m.From), byte('0'+m.To)), m.Bytes[:min(len(m.Bytes), 9)]...)
	}
	return string(b)
}

// wantLetters holds what is in flight against a message of each letter, from 0 to 1.
func wantLetters(t *testing.T, n *net.Net, s string) {
	t.Helper()
	var row []net.Message
	for _, x := range []byte(s) {
		row = append(row, msg(0, 1, string(x)))
	}
	wantFlight(t, n, row)
}

// wantNone holds that there is no i'th message in flight.
func wantNone(t *testing.T, n *net.Net, i int) {
	t.Helper()
	if m, e := n.Pick(i); e != api.ErrNone || !same(m, net.Message{}) {
		t.Errorf("Pick(%d): %v, %v, not ErrNone alone", i, m, e)
	}
	wantErr(t, "Drop", n.Drop(i), api.ErrNone)
	wantErr(t, "Copy", n.Copy(i), api.ErrNone)
}

// 4.1

func TestNew(t *testing.T) {
	for _, nodes := range []int{1, 2, 3, api.MaxNodes - 1, api.MaxNodes} {
		wantFlight(t, newNet(t, nodes), nil)
	}
	for _, nodes := range []int{math.MinInt, -7, -1, 0, api.MaxNodes + 1, api.MaxNodes + 2, 1 << 32, math.MaxInt} {
		if n, e := net.New(nodes); n != nil || e != api.ErrArg {
			t.Errorf("New(%d): %v, %v, not ErrArg alone", nodes, n != nil, e)
		}
	}
}

func TestSendBetweenAllNodes(t *testing.T) {
	for _, nodes := range []int{1, 2, api.MaxNodes} {
		n := newNet(t, nodes)
		var row []net.Message
		for from := range nodes {
			for to := range nodes {
				m := msg(from, to, strconv.Itoa(from*nodes+to))
				send(t, n, m)
				row = append(row, m)
				wantFlight(t, n, row)
			}
		}
	}
}

func TestSendOfNoNode(t *testing.T) {
	for _, nodes := range []int{1, 3, api.MaxNodes} {
		n := newNet(t, nodes)
		send(t, n, msg(0, 0, "a"))
		for _, x := range []int{math.MinInt, -nodes, -1, nodes, nodes + 1, 1 << 32, math.MaxInt} {
			for _, b := range [][]byte{nil, {1}, make([]byte, longest+1)} {
				wantErr(t, "Send from no node", n.Send(x, 0, b), api.ErrArg)
				wantErr(t, "Send to no node", n.Send(0, x, b), api.ErrArg)
				wantErr(t, "Send from no node to none", n.Send(x, x, b), api.ErrArg)
			}
		}
		wantFlight(t, n, []net.Message{msg(0, 0, "a")})
	}
}

func TestSendOfAnyLength(t *testing.T) {
	n := newNet(t, 2)
	var row []net.Message
	for _, size := range []int{0, 1, 255, 256, longest - 1, longest} {
		m := net.Message{From: 1, To: 0, Bytes: bytes.Repeat([]byte{byte(size), 3}, size)[:size]}
		send(t, n, m)
		row = append(row, m)
	}
	wantFlight(t, n, row)
	for _, size := range []int{longest + 1, longest + 2, 2 * longest, api.MaxBytes} {
		wantErr(t, "Send too long", n.Send(1, 0, make([]byte, size)), api.ErrLong)
	}
	wantFlight(t, n, row)
	for _, m := range row {
		wantPick(t, n, 0, m)
	}
}

func TestSendNoBytes(t *testing.T) {
	n := newNet(t, 1)
	wantErr(t, "Send", n.Send(0, 0, nil), api.OK)
	wantErr(t, "Send", n.Send(0, 0, []byte{}), api.OK)
	wantFlight(t, n, []net.Message{{}, {}})
	wantPick(t, n, 0, net.Message{})
	wantPick(t, n, 0, net.Message{})
	wantNone(t, n, 0)
}

// crowd is a net of two nodes with so many messages in flight, each with its number.
func crowd(t *testing.T, size int) (*net.Net, []net.Message) {
	t.Helper()
	n := newNet(t, 2)
	var row []net.Message
	for i := range size {
		m := msg(i%2, 1-i%2, strconv.Itoa(i))
		send(t, n, m)
		row = append(row, m)
		if n.Len() != i+1 {
			t.Fatalf("Len: %d, not %d", n.Len(), i+1)
		}
	}
	return n, row
}

func TestSendWhereItIsFull(t *testing.T) {
	n, row := crowd(t, net.MaxFlight)
	wantErr(t, "Send", n.Send(0, 1, nil), api.ErrFull)
	wantErr(t, "Send", n.Send(1, 0, make([]byte, longest)), api.ErrFull)
	wantErr(t, "Send of no node", n.Send(2, 0, nil), api.ErrArg)
	wantErr(t, "Send to no node", n.Send(0, -1, nil), api.ErrArg)
	wantErr(t, "Send too long", n.Send(0, 1, make([]byte, longest+1)), api.ErrLong)
	wantFlight(t, n, row)

	wantErr(t, "Drop", n.Drop(500), api.OK)
	send(t, n, msg(1, 1, "more"))
	wantErr(t, "Send", n.Send(0, 1, nil), api.ErrFull)
	row = append(slices.Delete(row, 500, 501), msg(1, 1, "more"))
	wantFlight(t, n, row)

	wantPick(t, n, 0, row[0])
	send(t, n, msg(0, 0, "last"))
	wantErr(t, "Send", n.Send(0, 1, nil), api.ErrFull)
	wantFlight(t, n, append(row[1:], msg(0, 0, "last")))
}

// 4.2

func TestPick(t *testing.T) {
	for _, c := range []struct {
		i    int
		left string
	}{{0, "bcde"}, {1, "acde"}, {2, "abde"}, {3, "abce"}, {4, "abcd"}} {
		n := letters(t, "abcde")
		wantPick(t, n, c.i, msg(0, 1, "abcde"[c.i:c.i+1]))
		wantLetters(t, n, c.left)
		send(t, n, msg(0, 1, "f"))
		wantLetters(t, n, c.left+"f")

		n = letters(t, "abcde")
		wantErr(t, "Drop", n.Drop(c.i), api.OK)
		wantLetters(t, n, c.left)
		send(t, n, msg(0, 1, "f"))
		wantLetters(t, n, c.left+"f")
	}
}

func TestPickAll(t *testing.T) {
	n, row := crowd(t, 300)
	for _, m := range row {
		wantPick(t, n, 0, m)
	}
	wantFlight(t, n, nil)
	wantNone(t, n, 0)

	n, row = crowd(t, 300)
	for i := len(row) - 1; i >= 0; i-- {
		wantPick(t, n, i, row[i])
		wantNone(t, n, i)
	}
	wantFlight(t, n, nil)
	send(t, n, row[7])
	wantFlight(t, n, row[7:8])
}

func TestCopy(t *testing.T) {
	for i := range 5 {
		n := letters(t, "abcde")
		x := "abcde"[i : i+1]
		wantErr(t, "Copy", n.Copy(i), api.OK)
		wantLetters(t, n, "abcde"+x)
		wantErr(t, "Copy of the copy", n.Copy(5), api.OK)
		wantLetters(t, n, "abcde"+x+x)
		wantPick(t, n, i, msg(0, 1, x))
		wantPick(t, n, 4, msg(0, 1, x))
		wantPick(t, n, 4, msg(0, 1, x))
		wantNone(t, n, 4)
	}
	n := newNet(t, 3)
	send(t, n, msg(2, 1, "m"))
	wantErr(t, "Copy", n.Copy(0), api.OK)
	wantFlight(t, n, []net.Message{msg(2, 1, "m"), msg(2, 1, "m")})
}

func TestCopyWhereItIsFull(t *testing.T) {
	n, row := crowd(t, net.MaxFlight-1)
	wantErr(t, "Copy", n.Copy(3), api.OK)
	row = append(row, row[3])
	for _, i := range []int{0, 500, net.MaxFlight - 1} {
		wantErr(t, "Copy", n.Copy(i), api.ErrFull)
	}
	for _, i := range []int{math.MinInt, -1, net.MaxFlight, net.MaxFlight + 1, math.MaxInt} {
		wantNone(t, n, i)
	}
	wantFlight(t, n, row)
	wantPick(t, n, net.MaxFlight-1, row[3])
	wantErr(t, "Copy", n.Copy(0), api.OK)
	wantErr(t, "Copy", n.Copy(0), api.ErrFull)
}

func TestNoSuchMessage(t *testing.T) {
	for _, s := range []string{"", "a", "abc"} {
		n := letters(t, s)
		for _, i := range []int{math.MinInt, -len(s) - 1, -2, -1, len(s), len(s) + 1, net.MaxFlight, 1 << 32, math.MaxInt} {
			wantNone(t, n, i)
		}
		wantLetters(t, n, s)
	}
}

// 4.3

func TestFlightChangesNothing(t *testing.T) {
	n := letters(t, "abc")
	for range 3 {
		wantLetters(t, n, "abc")
	}
	wantPick(t, n, 1, msg(0, 1, "b"))
	wantLetters(t, n, "ac")
}

func TestNilNet(t *testing.T) {
	var n *net.Net
	for range 2 {
		for _, x := range []int{math.MinInt, -1, 0, 1, api.MaxNodes, math.MaxInt} {
			wantErr(t, "Send", n.Send(x, 0, nil), api.ErrArg)
			wantErr(t, "Send", n.Send(0, x, []byte("a")), api.ErrArg)
			wantErr(t, "Send", n.Send(0, x, make([]byte, longest+1)), api.ErrArg)
			wantNone(t, n, x)
		}
		wantFlight(t, n, nil)
	}
}

// 4.4

// step does one thing at random with a net and with the plain row that it should have; it tells the row behind it, and what was picked.
func step(t *testing.T, g *rand.Rand, n *net.Net, row []net.Message, next *int, copies bool) ([]net.Message, []net.Message) {
	t.Helper()
	i := g.Intn(len(row)+2) - 1
	is := i >= 0 && i < len(row)
	switch k := g.Intn(10); {
	case k < 5:
		m := msg(g.Intn(3), g.Intn(3), strconv.Itoa(*next))
		*next++
		send(t, n, m)
		return append(row, m), nil
	case !is:
		wantNone(t, n, i)
	case k < 7:
		m, e := n.Pick(i)
		wantErr(t, "Pick", e, api.OK)
		if !same(m, row[i]) {
			t.Errorf("Pick(%d): %.20q, not %.20q", i, m.Bytes, row[i].Bytes)
		}
		return slices.Delete(slices.Clone(row), i, i+1), []net.Message{m}
	case k < 9:
		wantErr(t, "Drop", n.Drop(i), api.OK)
		return slices.Delete(slices.Clone(row), i, i+1), nil
	case copies:
		wantErr(t, "Copy", n.Copy(i), api.OK)
		return append(row, row[i]), nil
	}
	return row, nil
}

func TestNetIsAPlainRow(t *testing.T) {
	g := rand.New(rand.NewSource(4))
	for run := range 40 {
		n, next := newNet(t, 3), 0
		var row, picked []net.Message
		for range 300 {
			var p []net.Message
			row, p = step(t, g, n, row, &next, run%2 == 0)
			wantFlight(t, n, row)
			picked = append(picked, p...)
		}
		if run%2 == 1 { // without copies
			seen := map[string]int{}
			for _, m := range picked {
				seen[string(m.Bytes)]++
				if seen[string(m.Bytes)] > 1 {
					t.Errorf("%q was picked twice", m.Bytes)
				}
			}
		}
		if t.Failed() {
			return
		}
	}
}

// R3

// scribble writes over a list and its spare room.
func scribble(b []byte) {
	b = b[:cap(b)]
	for i := range b {
		b[i] = 0xEE
	}
}

// scribbleRow writes over a row and its spare room, and over its messages' bytes.
func scribbleRow(row []net.Message) {
	row = row[:cap(row)]
	for i := range row {
		scribble(row[i].Bytes)
		row[i] = net.Message{From: 99, To: 99}
	}
}

func TestSendKeepsNothingOfItsBytes(t *testing.T) {
	room := []byte("abcdefgh")
	n := newNet(t, 2)
	wantErr(t, "Send", n.Send(0, 1, room[:2]), api.OK)
	n.Send(0, 5, room[:2])
	n.Copy(0)
	n.Flight()
	n.Pick(0)
	if string(room) != "abcdefgh" {
		t.Errorf("the bytes, or the room behind them, were changed: %q", room)
	}
	scribble(room)
	wantFlight(t, n, []net.Message{msg(0, 1, "ab")})
	wantPick(t, n, 0, msg(0, 1, "ab"))
}

func TestFlightIsNew(t *testing.T) {
	n := letters(t, "abc")
	n.Copy(1)
	one, two := n.Flight(), n.Flight()
	scribble(one[1].Bytes)
	if told(one[:1])+told(one[2:]) != "01a01c01b" {
		t.Errorf("two messages of one answer share memory: %q", told(one))
	}
	scribbleRow(one)
	if told(two) != "01a01b01c01b" {
		t.Errorf("two answers share memory: %q", told(two))
	}
	wantLetters(t, n, "abcb")
	n.Pick(0)
	n.Send(1, 0, []byte("z"))
	n.Drop(1)
	if told(two) != "01a01b01c01b" {
		t.Errorf("an answer was changed by later calls: %q", told(two))
	}
	scribbleRow(two)
	wantFlight(t, n, []net.Message{msg(0, 1, "b"), msg(0, 1, "b"), msg(1, 0, "z")})
}

func TestPickedIsNew(t *testing.T) {
	n := letters(t, "a")
	n.Copy(0)
	n.Copy(1)
	all := n.Flight()
	one, _ := n.Pick(0)
	two, _ := n.Pick(1)
	scribble(one.Bytes)
	if string(two.Bytes) != "a" || told(all) != "01a01a01a" {
		t.Errorf("a message and its copy share memory: %q, %q", two.Bytes, told(all))
	}
	scribble(two.Bytes)
	wantPick(t, n, 0, msg(0, 1, "a"))
	if told(all) != "01a01a01a" {
		t.Errorf("Flight and Pick share memory: %q", told(all))
	}
}

func TestNetsShareNothing(t *testing.T) {
	one, two := letters(t, "ab"), letters(t, "cd")
	one.Drop(0)
	one.Copy(0)
	wantLetters(t, one, "bb")
	wantLetters(t, two, "cd")
}

// P1, R6

func TestAnyArguments(t *testing.T) {
	edges := []int{math.MinInt, math.MinInt + 1, -1 << 32, -8, -1, 0, 1, 2, 7, 8, 1023, 1024, 65535, 65536, 1 << 32, math.MaxInt - 1, math.MaxInt}
	one, two := newNet(t, 2), newNet(t, 2)
	for _, n := range []*net.Net{one, two, nil, {}} {
		for _, i := range edges {
			for _, k := range edges {
				n.Send(i, k, []byte("x"))
				n.Send(0, 1, []byte("y"))
				n.Copy(i)
				n.Pick(k)
				n.Drop(i)
			}
		}
	}
	wantFlight(t, one, two.Flight())
}

// The chapter's examples.

func TestExamples(t *testing.T) {
	n := newNet(t, 2)
	send(t, n, msg(0, 1, "a"))
	send(t, n, msg(0, 1, "b"))
	wantPick(t, n, 1, msg(0, 1, "b"))
	wantErr(t, "Copy", n.Copy(0), api.OK)
	wantPick(t, n, 0, msg(0, 1, "a"))
	wantPick(t, n, 0, msg(0, 1, "a"))
	wantNone(t, n, 0)
}
