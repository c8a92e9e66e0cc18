package crc_test

import (
	"testing"

	"bootprint/api"
	"bootprint/crc"
)

// P2.2

func TestSumOfTwoPiecesIsTheirJoin(t *testing.T) {
	for i := range 40 {
		for j := range 40 {
			one, two := scrambled(uint64(i), i), scrambled(uint64(50+j), j)
			both := append(append([]byte{}, one...), two...)
			s, e := crc.Join(crc.Sum(one), crc.Sum(two), j)
			if s != crc.Sum(both) || e != api.OK {
				t.Errorf("Join of %d and %d bytes: %08X, %d; want %08X", i, j, s, e, crc.Sum(both))
			}
		}
	}
	s, e := crc.Join(crc.Sum([]byte("1234")), crc.Sum([]byte("56789")), 5)
	if s != 0xE3069283 || e != api.OK {
		t.Errorf("Join of 1234 and 56789: %08X, %d", s, e)
	}
}

// turnBits turns over the bits of b that are in pattern, from the bit at on,
// bits of a byte being counted from its lowest one; false, if b has too few.
func turnBits(b []byte, at int, pattern uint32) bool {
	for ; pattern != 0; at, pattern = at+1, pattern>>1 {
		if at >= 8*len(b) {
			return false
		}
		b[at/8] ^= byte(pattern&1) << (at % 8)
	}
	return true
}

func TestTurnedBitsChangeTheSum(t *testing.T) {
	for _, n := range []int{1, 3, 4, 5, 12, 70} {
		b := scrambled(uint64(n), n)
		want := crc.Sum(b)
		for at := range 8 * n {
			for _, pattern := range someNumbers() {
				other := append([]byte{}, b...)
				if !turnBits(other, at, pattern) || pattern == 0 {
					continue
				}
				if crc.Sum(other) == want {
					t.Errorf("%d bytes, bits %08X turned from %d on: the sum stays", n, pattern, at)
				}
			}
		}
	}
}

func TestFourBytesHaveSumsOfTheirOwn(t *testing.T) {
	// Any two rows of four bytes are unlike within 32 bits side by side.
	seen := map[uint32]uint32{}
	for i := range uint32(1 << 16) {
		x := i * 0x9E3779B1
		s := crc.Sum([]byte{byte(x), byte(x >> 8), byte(x >> 16), byte(x >> 24)})
		if y, there := seen[s]; there {
			t.Fatalf("%08X and %08X have the sum %08X", x, y, s)
		}
		seen[s] = x
	}
}

func TestUnmaskOfMaskIsTheSum(t *testing.T) {
	for _, s := range someNumbers() {
		if u := crc.Unmask(crc.Mask(s)); u != s {
			t.Errorf("Unmask of Mask of %08X: %08X", s, u)
		}
		if m := crc.Mask(crc.Unmask(s)); m != s {
			t.Errorf("Mask of Unmask of %08X: %08X", s, m)
		}
	}
}
