// Package crc is layer 2: see shared/doc/02-crc.md.
package crc

import (
	"math"

	"lattice/api"
	"lattice/wire"
)

const (
	polynomial = 0xEDB88320 // of CRC-32, its bits turned round
	sumSize    = 4          // bytes that a sum has behind what it seals
)

// Sum is the sum of some bytes.
func Sum(b []byte) int { return int(goOn(0, b)) }

// More is the sum of bytes whose sum is sum, and of b behind them.
func More(sum int, b []byte) (int, api.Errno) {
	if sum < 0 || sum > math.MaxUint32 {
		return 0, api.ErrArg
	}
	return int(goOn(uint32(sum), b)), api.OK
}

// Seal is bytes that carry their sum behind them.
func Seal(b []byte) []byte {
	w := wire.New()
	w.Num(Sum(b), sumSize) // a sum always fits
	sealed := make([]byte, 0, len(b)+sumSize)
	sealed = append(sealed, b...)
	return append(sealed, w.Bytes()...)
}

// Open is what was sealed.
func Open(b []byte) ([]byte, api.Errno) {
	if len(b) < sumSize {
		return nil, api.ErrCut
	}
	body := b[:len(b)-sumSize]
	sum, e := wire.Of(b[len(body):]).Num(sumSize)
	if e != api.OK {
		return nil, e
	}
	if sum != Sum(body) {
		return nil, api.ErrSum
	}
	return append([]byte(nil), body...), api.OK
}

// goOn goes on with a sum. That of nothing is 0: a sum is told with its bits turned, so turning them again is where it stood.
func goOn(sum uint32, b []byte) uint32 {
	state := ^sum
	for _, x := range b {
		state = turn(state ^ uint32(x))
	}
	return ^state
}

// turn has the eight bits of a byte that was xored in pass through a sum.
func turn(state uint32) uint32 {
	for range 8 {
		fell := state & 1
		state >>= 1
		if fell == 1 {
			state ^= polynomial
		}
	}
	return state
}
