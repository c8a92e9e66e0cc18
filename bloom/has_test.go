package bloom_test

import (
	"bytes"
	"fmt"
	"testing"

	"bootprint/bloom"
)

// P9.2, Has

func TestHasAsTold(t *testing.T) {
	for _, x := range []struct {
		f, key string
		want   bool
	}{
		// a: 27, 52, 13, 38, 63, 24; the empty key: 38, 7, 40, 9, 42, 11.
		{"\x00\x20\x00\x09\x40\x00\x10\x80\x06", "a", true},
		{"\x00\x20\x00\x09\x40\x00\x10\x80\x06", "", false},
		{"\x80\x0a\x00\x00\x40\x05\x00\x00\x06", "", true},
		{"\x80\x0a\x00\x00\x40\x05\x00\x00\x06", "a", false},
		{"\x80\x2a\x00\x09\x40\x05\x10\x80\x06", "a", true},
		{"\x80\x2a\x00\x09\x40\x05\x10\x80\x06", "", true},
		{"\xff\xff\xff\xff\xff\xff\xff\xff\x06", "a", true},
		{"\x00\x00\x00\x00\x00\x00\x00\x00\x06", "a", false},
		// Each of the probes counts: the first one, one between, the last one.
		{"\x00\x20\x00\x01\x40\x00\x10\x80\x06", "a", false},
		{"\x00\x00\x00\x09\x40\x00\x10\x80\x06", "a", false},
		{"\x00\x20\x00\x08\x40\x00\x10\x80\x06", "a", false},
		// Bits that are no probes do not.
		{"\x00\x20\x00\x09\x40\x00\x10\x80\x06", "b", false},
		{"\xff\xff\xff\x09\x40\xff\x10\x80\x06", "a", true},
		// Fewer probes are asked for by another k, and more.
		{"\x00\x00\x00\x08\x00\x00\x00\x00\x01", "a", true},
		{"\x00\x00\x00\x08\x00\x00\x00\x00\x02", "a", false},
		{"\x00\x00\x00\x08\x00\x00\x10\x00\x02", "a", true},
		{"\x00\x20\x00\x08\x40\x00\x10\x80\x05", "a", true},
		{"\x00\x20\x00\x09\x40\x00\x10\x80\x07", "a", false},
		{"\x00\x20\x00\x09\x40\x00\x10\x80\x1e", "a", false},
		// One byte of bits: 27, 52, 13, 38 are 3, 4, 5, 6.
		{"\x08\x01", "a", true},
		{"\xf7\x01", "a", false},
		{"\x18\x02", "a", true},
		{"\x10\x02", "a", false},
		{"\x00\x01", "a", false},
		{"\xff\x1e", "a", true},
		{"\xfe\x1e", "a", false},
		// Two bytes, of which the second one has the bit 27 mod 16.
		{"\x00\x08\x01", "a", true},
		{"\xff\xf7\x01", "a", false},
	} {
		if got := bloom.Has([]byte(x.f), []byte(x.key)); got != x.want {
			t.Errorf("Has of %q, %q: %t", x.f, x.key, got)
		}
	}
}

// Of bytes that are no filter's all keys may be there.
func TestHasOfNoFilter(t *testing.T) {
	const most = 1<<20 + 1
	none := make([]byte, most+2)
	with := func(size int, k byte) []byte {
		f := bytes.Clone(none[:size])
		f[size-1] = k
		return f
	}
	for _, key := range some("", "a", "b", "key") {
		for _, size := range []int{2, 3, 9, 1000, most - 1, most} {
			for k, want := range map[byte]bool{0: true, 1: false, 6: false, 29: false, 30: false, 31: true, 32: true, 0x41: true, 128: true, 255: true} {
				if got := bloom.Has(with(size, k), key); got != want {
					t.Errorf("Has of %d bytes without a bit, k %d, %q: %t", size, k, key, got)
				}
			}
		}
		for _, f := range [][]byte{nil, {}, {0}, {1}, {6}, {30}, {31}, {255}, with(most+1, 1), with(most+1, 6), with(most+1, 30), with(most+2, 6)} {
			if !bloom.Has(f, key) {
				t.Errorf("Has of %d bytes, which are no filter's, %q: false", len(f), key)
			}
		}
	}
}

func TestHasByWords(t *testing.T) {
	for size := range 40 {
		for seed := range uint64(12) {
			f := scrambled(seed, size+1)
			for i := range f[:size] { // three of four bits, or more, so that some keys are there
				f[i] |= scrambled(seed+100, size)[i]
				if seed%3 == 0 {
					f[i] |= 0xee
				}
			}
			for _, k := range []byte{0, 1, 2, 3, 6, 12, 29, 30, 31, 255} {
				f[size] = k
				for _, key := range append(numbered("k", 6), nil) {
					agree(t, fmt.Sprintf("%q", f), f, key)
				}
			}
		}
	}
}

func TestHasOfOtherKsByWords(t *testing.T) {
	keys := numbered("in", 30)
	f := filterByWords(keys, 304, 7)
	there, not := 0, 0
	for k := range 256 {
		f[len(f)-1] = byte(k)
		for _, key := range append(numbered("out", 30), keys...) {
			agree(t, fmt.Sprintf("%q", f), f, key)
			if bloom.Has(f, key) {
				there++
			} else {
				not++
			}
		}
		for _, key := range keys { // the first probes of a key are those of a smaller k
			if k <= 7 && !bloom.Has(f, key) {
				t.Errorf("with k %d %q is not there", k, key)
			}
		}
	}
	if there == 0 || not == 0 {
		t.Errorf("%d keys are there, %d not", there, not)
	}
}
