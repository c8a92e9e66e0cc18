package bloom_test

import (
	"bytes"
	"testing"

	"bootprint/api"
	"bootprint/bloom"
)

// P9.2, Make

func TestMakeAsTold(t *testing.T) {
	for _, x := range []struct {
		keys [][]byte
		c    int
		want string
	}{
		// No keys: no bits.
		{nil, 10, "\x00\x00\x00\x00\x00\x00\x00\x00\x06"},
		{nil, 1, "\x00\x00\x00\x00\x00\x00\x00\x00\x01"},
		{nil, 64, "\x00\x00\x00\x00\x00\x00\x00\x00\x1e"},
		// An empty key: 38, 7, 40, 9, 42, 11.
		{some(""), 10, "\x80\x0a\x00\x00\x40\x05\x00\x00\x06"},
		// a: 27, 52, 13, 38, 63, 24.
		{some("a"), 10, "\x00\x20\x00\x09\x40\x00\x10\x80\x06"},
		{some("a", ""), 10, "\x80\x2a\x00\x09\x40\x05\x10\x80\x06"},
		// One probe alone, and two.
		{some("a"), 1, "\x00\x00\x00\x08\x00\x00\x00\x00\x01"},
		{some(""), 2, "\x00\x00\x00\x00\x40\x00\x00\x00\x01"},
		{some("a"), 3, "\x00\x00\x00\x08\x00\x00\x10\x00\x02"},
		// A key twice sets the bits that it sets once.
		{some("a", "a"), 10, "\x00\x20\x00\x09\x40\x00\x10\x80\x06"},
		{some("", "a", "", "a", ""), 10, "\x80\x2a\x00\x09\x40\x05\x10\x80\x06"},
	} {
		f, e := bloom.Make(x.keys, x.c)
		if string(f) != x.want || e != api.OK {
			t.Errorf("Make of %q, %d: %q, %d; want %q", x.keys, x.c, f, e, x.want)
		}
	}
}

// A key that is there twice counts twice: 7 times 10 bits are 72.
func TestMakeCountsEachKey(t *testing.T) {
	for m, want := range map[int]int{1: 9, 6: 9, 7: 10, 8: 11, 9: 13, 100: 126} {
		f, e := bloom.Make(bytes.Split(bytes.Repeat([]byte("a"), m), nil), 10)
		if len(f) != want || e != api.OK {
			t.Errorf("Make of a, %d times: %d bytes, %d; want %d", m, len(f), e, want)
		}
		if by := filterByWords(some("a"), 8*(want-1), 6); !bytes.Equal(f, by) {
			t.Errorf("Make of a, %d times: %q, want %q", m, f, by)
		}
	}
}

func TestMakeByWords(t *testing.T) {
	for c := 1; c <= 64; c++ {
		for _, m := range []int{0, 1, 2, 3, 7, 8, 20, 65, 130} {
			keys := numbered("key", m)
			keys = append(keys, scrambled(uint64(c), m%5), scrambled(uint64(m), 300))
			n, k, e := bitsByWords(len(keys), c)
			fine(t, "Bits", e)
			want := filterByWords(keys, n, k)
			if f, e := bloom.Make(keys, c); !bytes.Equal(f, want) || e != api.OK {
				t.Fatalf("Make of %d keys, %d: %q, %d; want %q", len(keys), c, f, e, want)
			}
		}
	}
}

func TestMakeUpToMaxBits(t *testing.T) {
	keys := numbered("k", 1<<17)
	f, e := bloom.Make(keys, 64)
	if len(f) != 1<<20+1 || e != api.OK || f[len(f)-1] != 30 {
		t.Fatalf("Make of 2^17 keys, 64: %d bytes, %d", len(f), e)
	}
	for i, key := range keys {
		if !bloom.Has(f, key) {
			t.Fatalf("key %d is not there", i)
		}
	}
	wrong := 0
	for _, key := range numbered("other", 1000) {
		if bloom.Has(f, key) {
			wrong++
		}
	}
	if wrong != 0 {
		t.Errorf("%d of 1000 keys that were not put are there", wrong)
	}
	if f, e := bloom.Make(append(keys, nil), 64); len(f) != 0 || e != api.ErrLong {
		t.Errorf("Make of 2^17 + 1 keys, 64: %d bytes, %d; want none, ErrLong", len(f), e)
	}
}

func TestMakeRefuses(t *testing.T) {
	many := make([][]byte, 1<<23+1)
	for _, x := range []struct {
		keys [][]byte
		c    int
		want api.Errno
	}{
		{nil, 0, api.ErrArg}, {nil, 65, api.ErrArg}, {nil, -1, api.ErrArg}, {nil, greatestInt, api.ErrArg}, {nil, -greatestInt - 1, api.ErrArg},
		{some("a", "b"), 0, api.ErrArg}, {some("a", "b"), 65, api.ErrArg}, {some("a", "b"), -10, api.ErrArg},
		{many, 1, api.ErrLong}, {many[:1<<22+1], 2, api.ErrLong}, {many[:838861], 10, api.ErrLong}, {many, 64, api.ErrLong},
		{many, 0, api.ErrArg}, {many, 65, api.ErrArg}, {many, -1, api.ErrArg},
	} {
		if f, e := bloom.Make(x.keys, x.c); len(f) != 0 || e != x.want {
			t.Errorf("Make of %d keys, %d: %d bytes, %d; want none, %d", len(x.keys), x.c, len(f), e, x.want)
		}
	}
}
