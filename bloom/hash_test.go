package bloom_test

import (
	"bytes"
	"hash/fnv"
	"slices"
	"testing"

	"bootprint/api"
	"bootprint/bloom"
)

// P9.1, Hash

func TestHashAsTold(t *testing.T) {
	for _, c := range []struct {
		b    []byte
		want uint64
	}{
		{nil, 0xEFD01F60BA992926},
		{[]byte{}, 0xEFD01F60BA992926},
		{[]byte("a"), 0x82A2A958A9BECE5B},
	} {
		if h := bloom.Hash(c.b); h != c.want {
			t.Errorf("Hash of %q: %016X, want %016X", c.b, h, c.want)
		}
	}
}

// Every one of them makes the multiplications wrap.
func TestHashOfEachByte(t *testing.T) {
	for c := range 256 {
		b := []byte{byte(c)}
		if h := bloom.Hash(b); h != hashByWords(b) {
			t.Errorf("Hash of %v: %016X, want %016X", b, h, hashByWords(b))
		}
	}
}

func TestHashAtLengths(t *testing.T) {
	for n := range 200 {
		for _, b := range [][]byte{make([]byte, n), bytes.Repeat([]byte{0xff}, n), scrambled(uint64(n), n)} {
			if h := bloom.Hash(b); h != hashByWords(b) {
				t.Errorf("Hash of %v: %016X, want %016X", b, h, hashByWords(b))
			}
		}
	}
}

// unmixed tells what stood ahead of the mixing, step by step backward.
func unmixed(h uint64) uint64 {
	h ^= h >> 33
	h *= inverse(0xC4CEB9FE1A85EC53)
	h ^= h >> 33
	h *= inverse(0xFF51AFD7ED558CCD)
	return h ^ h>>33
}

// inverse tells the number by which the odd x comes to 1: each round has twice
// as many bits of it right.
func inverse(x uint64) uint64 {
	y := x
	for range 6 {
		y *= 2 - x*y
	}
	return y
}

// The library's own FNV-1a, held against the hash with its mixing undone.
func TestHashOfLongBytes(t *testing.T) {
	for _, n := range []int{0, 1, 4096, 1 << 16, 1<<20 + 1} {
		b := scrambled(uint64(n), n)
		plain := fnv.New64a()
		plain.Write(b)
		if x := unmixed(bloom.Hash(b)); x != plain.Sum64() {
			t.Errorf("Hash of %d bytes, unmixed: %016X, want %016X", n, x, plain.Sum64())
		}
	}
}

// Where bytes stand counts, and bytes of value 0 count.
func TestHashGoesByAllBytes(t *testing.T) {
	l := some("", "\x00", "\x00\x00", "a", "a\x00", "\x00a", "ab", "ba", "aa", "\xff", "\x7f", "\x80")
	for i, a := range l {
		for _, b := range l[:i] {
			if bloom.Hash(a) == bloom.Hash(b) {
				t.Errorf("%q and %q have the hash %016X", a, b, bloom.Hash(a))
			}
		}
	}
}

// P9.1, Probes

func TestProbesAsTold(t *testing.T) {
	for _, c := range []struct {
		h    uint64
		n, k int
		want []int
	}{
		// The high half is odd: the step is EFD01F61.
		{0xEFD01F60BA992926 | 1<<32, 64, 6, []int{38, 7, 40, 9, 42, 11}},
		// It is even: its lowest bit is set all the same.
		{0xEFD01F60BA992926, 64, 6, []int{38, 7, 40, 9, 42, 11}},
		{0x82A2A958A9BECE5B, 64, 6, []int{27, 52, 13, 38, 63, 24}},
		{0, 8, 3, []int{0, 1, 2}},
		{0, 2, 5, []int{0, 1, 0, 1, 0}},
		{1 << 32, 8, 3, []int{0, 1, 2}},
		{2 << 32, 100, 4, []int{0, 3, 6, 9}},
		{3 << 32, 100, 4, []int{0, 3, 6, 9}},
		{7<<32 | 5, 10, 5, []int{5, 2, 9, 6, 3}},
		// The sums pass 2^32, which 7 and 10 do not divide: first 2^32, then n.
		{1<<64 - 1, 7, 3, []int{3, 2, 1}},
		{1<<32 - 1, 10, 3, []int{5, 0, 1}},
		{0xFFFFFFFE_00000000, 10, 4, []int{0, 5, 4, 3}},
		{0x80000000_80000000, 10, 3, []int{8, 1, 0}},
		// The least and the greatest n and k.
		{1<<64 - 1, 1, 1, []int{0}},
		{1<<64 - 1, 1, 4, []int{0, 0, 0, 0}},
		{1<<64 - 1, 1 << 23, 1, []int{1<<23 - 1}},
		{1<<64 - 1, 1 << 23, 3, []int{1<<23 - 1, 1<<23 - 2, 1<<23 - 3}},
		{1 << 23, 1 << 23, 2, []int{0, 1}},
	} {
		if l, e := bloom.Probes(c.h, c.n, c.k); !slices.Equal(l, c.want) || e != api.OK {
			t.Errorf("Probes of %016X, %d, %d: %d, %d; want %d", c.h, c.n, c.k, l, e, c.want)
		}
	}
}

func TestProbesByWords(t *testing.T) {
	for _, h := range someHashes() {
		for _, n := range []int{1, 2, 3, 7, 8, 63, 64, 65, 1000, 1<<16 + 1, 1<<23 - 1, 1 << 23} {
			for _, k := range []int{1, 2, 6, 29, 30} {
				want := probesByWords(h, n, k)
				if l, e := bloom.Probes(h, n, k); !slices.Equal(l, want) || len(l) != k || e != api.OK {
					t.Errorf("Probes of %016X, %d, %d: %d, %d; want %d", h, n, k, l, e, want)
				}
			}
		}
	}
}

func TestProbesRefuses(t *testing.T) {
	least := -greatestInt - 1
	for _, c := range []struct{ n, k int }{
		{0, 1}, {-1, 1}, {-64, 6}, {least, 6}, {1<<23 + 1, 6}, {1 << 24, 6}, {1 << 32, 6}, {1<<32 + 64, 6}, {greatestInt, 6},
		{64, 0}, {64, -1}, {64, least}, {64, 31}, {64, 256 + 6}, {64, 1<<32 + 6}, {64, greatestInt}, {1, 0}, {1 << 23, 31},
		{0, 0}, {-1, 31}, {1<<23 + 1, 0}, {greatestInt, greatestInt},
	} {
		for _, h := range []uint64{0, 1, 1<<64 - 1} {
			if l, e := bloom.Probes(h, c.n, c.k); len(l) != 0 || e != api.ErrArg {
				t.Errorf("Probes of %016X, %d, %d: %d, %d; want none, ErrArg", h, c.n, c.k, l, e)
			}
		}
	}
}
