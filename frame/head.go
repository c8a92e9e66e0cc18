package frame

import (
	"bootprint/api"
	"bootprint/crc"
)

// sum is a masked sum as it stands in a frame, the lowest byte first.
type sum [sumSize]byte

// sumOf tells the masked sum of p.
func sumOf(p []byte) sum {
	m := crc.Mask(crc.Sum(p))
	return sum{byte(m), byte(m >> 8), byte(m >> 16), byte(m >> 24)}
}

// head is what stands ahead of a Body: the Kind, the Body's length, their sum.
type head [headSize]byte

// headOf tells the head of f, whose Body must not be too long.
func headOf(f api.Frame) head {
	n := len(f.Body)
	h := head{f.Kind, byte(n), byte(n >> 8), byte(n >> 16)}
	s := sumOf(h[:plainSize])
	copy(h[plainSize:], s[:])
	return h
}

func (h head) kind() byte { return h[0] }

// length tells how long the head says that the Body is.
func (h head) length() int {
	return int(h[1]) | int(h[2])<<8 | int(h[3])<<16
}

// whole tells whether the head has the sum of its first bytes.
func (h head) whole() bool {
	return sum(h[plainSize:]) == sumOf(h[:plainSize])
}
