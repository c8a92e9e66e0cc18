package wire_test

import (
	"bytes"
	"math/bits"
	"testing"

	"bootprint/api"
	"bootprint/wire"
)

// edgeNumbers are 0, 2^64 - 1, and each power of two with its neighbours.
func edgeNumbers() []uint64 {
	l := []uint64{0, 1<<64 - 1}
	for i := range 64 {
		p := uint64(1) << i
		l = append(l, p-1, p, p+1)
	}
	return l
}

// allBytes tells all rows of at most n of the bytes that are handed in.
func allBytes(n int, of ...byte) [][]byte {
	l := [][]byte{{}}
	for from := 0; n > 0; n-- {
		to := len(l)
		for _, b := range l[from:to] {
			for _, c := range of {
				l = append(l, append(bytes.Clone(b), c))
			}
		}
		from = to
	}
	return l
}

// scrambled tells the same n bytes of each seed, with no rule that is easily seen.
func scrambled(seed uint64, n int) []byte {
	b := make([]byte, n)
	for i := range b {
		seed = bits.RotateLeft64(seed*6364136223846793005+1442695040888963407, 17)
		b[i] = byte(seed)
	}
	return b
}

// withRoom tells b with spare room that is full of 0xee, and the whole of it.
func withRoom(b string) (head, whole []byte) {
	whole = append([]byte(b), bytes.Repeat([]byte{0xee}, 64)...)
	return whole[:len(b)], whole
}

// checkOwn fails if answer shares memory with what was handed in, its spare
// room too, or if that was changed.
func checkOwn(t *testing.T, name string, whole, before, answer []byte) {
	t.Helper()
	if !bytes.Equal(whole, before) {
		t.Errorf("%s changed what was handed in", name)
	}
	room := answer[:cap(answer)]
	for i := range room {
		room[i] ^= 0x55
	}
	if !bytes.Equal(whole, before) {
		t.Errorf("%s shares memory with what was handed in", name)
	}
}

// checkReader fails unless r has gone over at bytes, has left ones more, and that error.
func checkReader(t *testing.T, name string, r *wire.Reader, at, left int, e api.Errno) {
	t.Helper()
	if r.At() != at || r.Left() != left || r.Err() != e {
		t.Errorf("%s: At %d, Left %d, Err %d; want %d, %d, %d", name, r.At(), r.Left(), r.Err(), at, left, e)
	}
}
