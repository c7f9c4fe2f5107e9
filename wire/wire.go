// Package wire is layer 1: see shared/doc/01-wire.md.
package wire

import (
	"math"

	"lattice/api"
)

const (
	lengthSize = 2     // bytes that a text's length has ahead of it
	maxText    = 65535 // the greatest number of lengthSize bytes
)

// list is the bytes that were written.
type list []byte

// Writer writes numbers and texts, one behind the other.
type Writer struct {
	list
}

// New is a writer without bytes.
func New() *Writer { return &Writer{} }

// Num writes a number of size bytes.
func (w *Writer) Num(n, size int) api.Errno {
	if !isSize(size) || !fits(n, size) {
		return api.ErrArg
	}
	if w == nil {
		return api.ErrState
	}
	w.number(n, size)
	return api.OK
}

// Text writes a text behind its length.
func (w *Writer) Text(s string) api.Errno {
	if len(s) > maxText {
		return api.ErrLong
	}
	if w == nil {
		return api.ErrState
	}
	w.number(len(s), lengthSize)
	w.list = append(w.list, s...)
	return api.OK
}

// Bytes are all that was written, in memory of their own.
func (w *Writer) Bytes() []byte {
	if w == nil {
		return nil
	}
	return append([]byte(nil), w.list...)
}

// number puts a number that fits behind the others, its lowest byte first.
func (l *list) number(n, size int) {
	for i := range size {
		*l = append(*l, byte(n>>(8*i)))
	}
}

// isSize tells whether a number may have that many bytes.
func isSize(size int) bool {
	return size == 1 || size == 2 || size == 4 || size == 8
}

// fits tells whether n is a number of size bytes; no int is too great for 8.
func fits(n, size int) bool {
	return n >= 0 && (size == 8 || n>>(8*size) == 0)
}

// Reader reads numbers and texts, one behind the other.
type Reader struct {
	rest []byte    // what was not read yet
	err  api.Errno // why nothing more is read
}

// Of is a reader of bytes. It reads a copy, so that who handed them in may change them.
func Of(b []byte) *Reader {
	return &Reader{rest: append([]byte(nil), b...)}
}

// Num reads a number of size bytes.
func (r *Reader) Num(size int) (int, api.Errno) {
	if !isSize(size) {
		return 0, api.ErrArg
	}
	if e := r.stopped(); e != api.OK {
		return 0, e
	}
	if len(r.rest) < size {
		return 0, r.fail(api.ErrCut)
	}
	n := numberOf(r.rest[:size])
	if n > math.MaxInt64 {
		return 0, r.fail(api.ErrArg)
	}
	r.rest = r.rest[size:]
	return int(n), api.OK
}

// Text reads a text of at most that many bytes.
func (r *Reader) Text(most int) (string, api.Errno) {
	if most < 0 {
		return "", api.ErrArg
	}
	if e := r.stopped(); e != api.OK {
		return "", e
	}
	if len(r.rest) < lengthSize {
		return "", r.fail(api.ErrCut)
	}
	n := int(numberOf(r.rest[:lengthSize]))
	end := lengthSize + n
	if len(r.rest) < end {
		return "", r.fail(api.ErrCut)
	}
	if n > most {
		return "", r.fail(api.ErrLong)
	}
	s := string(r.rest[lengthSize:end])
	r.rest = r.rest[end:]
	return s, api.OK
}

// Left is how many bytes were not read yet.
func (r *Reader) Left() int {
	if r == nil {
		return 0
	}
	return len(r.rest)
}

// End tells whether all was read.
func (r *Reader) End() api.Errno {
	if r == nil {
		return api.OK
	}
	if r.err != api.OK {
		return r.err
	}
	if len(r.rest) > 0 {
		return api.ErrForm
	}
	return api.OK
}

// stopped is why nothing can be read any more; a nil reader has no bytes from the beginning on.
func (r *Reader) stopped() api.Errno {
	if r == nil {
		return api.ErrCut
	}
	return r.err
}

// fail has an error be the reader's from now on.
func (r *Reader) fail(e api.Errno) api.Errno {
	r.err = e
	return e
}

// numberOf is the number that at most 8 bytes are; it may be more than an int holds.
func numberOf(b []byte) uint64 {
	n := uint64(0)
	for i, x := range b {
		n |= uint64(x) << (8 * i)
	}
	return n
}
