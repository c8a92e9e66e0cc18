// Package wire is layer 1: numbers and texts as bytes. See shared/doc/01-wire.md.
package wire

import (
	"math/bits"

	"bootprint/api"
)

const (
	digitBits = 7              // bits of a number that a byte of a short number holds
	moreBit   = 1 << digitBits // stands in each byte of a short number but the last one
	maxShort  = 10             // bytes of a short number
	maxTenth  = 1              // the tenth byte has room for the 64th bit alone
)

// Number answers b with x as a short number behind.
func Number(b []byte, x uint64) []byte {
	return appendShort(extend(b, Size(x)), x)
}

// Piece answers b with p as a piece behind.
func Piece(b []byte, p []byte) ([]byte, api.Errno) {
	if len(p) > api.MaxPiece {
		return nil, api.ErrLong
	}
	length := uint64(len(p))
	out := appendShort(extend(b, Size(length)+len(p)), length)
	return append(out, p...), api.OK
}

// Size answers how many bytes x has as a short number.
func Size(x uint64) int {
	// 0 has no bits, but a byte all the same.
	used := max(bits.Len64(x), 1)
	return (used + digitBits - 1) / digitBits
}

// extend answers b in new memory with room for n bytes more: the callers'
// spare room must not be written to.
func extend(b []byte, n int) []byte {
	return append(make([]byte, 0, len(b)+n), b...)
}

func appendShort(b []byte, x uint64) []byte {
	for x >= moreBit {
		b = append(b, byte(x)|moreBit)
		x >>= digitBits
	}
	return append(b, byte(x))
}

// readShort answers the short number that stands first in b, and how many
// bytes it has.
func readShort(b []byte) (x uint64, n int, e api.Errno) {
scan:
	for {
		switch {
		case n == len(b):
			e = api.ErrMore
			break scan
		case n == maxShort-1 && b[n] > maxTenth:
			// Whatever comes behind: it has too many bytes, or is too great.
			e = api.ErrBad
			break scan
		case n > 0 && b[n] == 0:
			e = api.ErrBad
			break scan
		case b[n] < moreBit:
			x |= uint64(b[n]) << (digitBits * n)
			n++
			break scan
		}
		x |= uint64(b[n]-moreBit) << (digitBits * n)
		n++
	}
	if e != api.OK {
		return 0, 0, e
	}
	return x, n, api.OK
}
