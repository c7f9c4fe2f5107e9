package replica

import (
	"slices"

	"lattice/api"
	"lattice/crc"
	"lattice/record"
	"lattice/wire"
)

// How many bytes the parts of a message have.
const (
	kindSize  = 1
	lsnSize   = 8 // of an LSN, and of an epoch
	okSize    = 1
	countSize = 2 // of how many records it has

	maxText = 65535
)

// Message is what nodes send to one another.
type Message struct {
	Kind, Epoch int
	Mark        api.Mark
	Commit      int
	OK          bool
	Records     []api.Record
}

// Encode are a message's bytes. No number of a right one is too great to be written.
func Encode(m Message) ([]byte, api.Errno) {
	if !m.isRight() {
		return nil, api.ErrForm
	}
	w := wire.New()
	w.Num(m.Kind, kindSize)
	for _, n := range m.numbers() {
		w.Num(n, lsnSize)
	}
	w.Num(flag(m.OK), okSize)
	w.Num(len(m.Records), countSize)
	for _, r := range m.Records {
		frame, _ := record.Encode(r) // it is right
		w.Text(string(frame))
	}
	return crc.Seal(w.Bytes()), api.OK
}

// Decode is the message that bytes are.
func Decode(b []byte) (m Message, e api.Errno) {
	defer func() {
		if told := recover(); told != nil {
			m, e = Message{}, reason(told)
		}
	}()
	return read(b), api.OK
}

// isRight tells whether a message may be sent.
func (m Message) isRight() bool {
	return m.Kind >= Append && m.Kind <= Given && !slices.ContainsFunc(m.numbers(), isNoLSN) && len(m.Records) <= MaxSend && !slices.ContainsFunc(m.Records, isWrong)
}

// numbers are a message's LSNs and epochs, in the order of its bytes.
func (m Message) numbers() []int { return []int{m.Epoch, m.Mark.Epoch, m.Mark.LSN, m.Commit} }

// isNoLSN tells whether a number is neither an LSN nor 0.
func isNoLSN(n int) bool { return n < 0 || n > api.MaxLSN }

// isWrong tells whether a record is not right.
func isWrong(r api.Record) bool { return record.Check(r) != api.OK }

// flag is a bool as a number.
func flag(b bool) int {
	if b {
		return 1
	}
	return 0
}

// broken is what reading panics with, where bytes are those of no right message.
type broken struct{}

// reason is the error of bytes at which reading gave up. A panic that is not of that goes on: it is no message's fault.
func reason(told any) api.Errno {
	if _, ours := told.(broken); !ours {
		panic(told)
	}
	return api.ErrForm
}

// need gives up where something does not hold.
func need(ok bool) {
	if !ok {
		panic(broken{})
	}
}

// reader reads what a message must have.
type reader struct {
	from *wire.Reader
}

// read is the message that bytes are, or gives up.
func read(b []byte) Message {
	body, e := crc.Open(b)
	need(e == api.OK)
	r := reader{from: wire.Of(body)}
	var m Message
	m.Kind = r.number(kindSize)
	m.Epoch = r.number(lsnSize)
	m.Mark.Epoch = r.number(lsnSize)
	m.Mark.LSN = r.number(lsnSize)
	m.Commit = r.number(lsnSize)
	m.OK = r.flag()
	for range r.number(countSize) {
		m.Records = append(m.Records, r.record())
	}
	need(r.from.End() == api.OK && m.isRight())
	return m
}

func (r reader) number(size int) int {
	n, e := r.from.Num(size)
	need(e == api.OK)
	return n
}

func (r reader) flag() bool {
	n := r.number(okSize)
	need(n <= flag(true))
	return n == flag(true)
}

func (r reader) record() api.Record {
	frame, e := r.from.Text(maxText)
	need(e == api.OK)
	x, size, e := record.Decode([]byte(frame))
	need(e == api.OK && size == len(frame))
	return x
}
