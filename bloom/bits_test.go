package bloom_test

import (
	"testing"

	"bootprint/api"
	"bootprint/bloom"
)

// P9.1, Bits

func TestBitsAsTold(t *testing.T) {
	for _, x := range []struct{ m, c, n, k int }{
		{0, 10, 64, 6},
		{100, 10, 1000, 6},
		// At least 64.
		{0, 1, 64, 1}, {0, 64, 64, 30}, {1, 1, 64, 1}, {6, 10, 64, 6}, {63, 1, 64, 1}, {64, 1, 64, 1}, {1, 64, 64, 30}, {21, 3, 64, 2},
		// Rounded up to whole bytes.
		{65, 1, 72, 1}, {71, 1, 72, 1}, {72, 1, 72, 1}, {73, 1, 80, 1}, {7, 10, 72, 6}, {22, 3, 72, 2}, {101, 10, 1016, 6}, {13, 5, 72, 3}, {2, 64, 128, 30},
		// Up to MaxBits.
		{1 << 23, 1, 1 << 23, 1}, {1<<23 - 1, 1, 1 << 23, 1}, {1<<23 - 7, 1, 1 << 23, 1}, {1<<23 - 8, 1, 1<<23 - 8, 1},
		{1 << 22, 2, 1 << 23, 1}, {1 << 17, 64, 1 << 23, 30}, {1<<17 - 1, 64, 1<<23 - 64, 30},
		{2796202, 3, 1 << 23, 2}, {838860, 10, 8388600, 6}, {133152, 63, 8388576, 30},
	} {
		if n, k, e := bloom.Bits(x.m, x.c); n != x.n || k != x.k || e != api.OK {
			t.Errorf("Bits of %d, %d: %d, %d, %d; want %d, %d", x.m, x.c, n, k, e, x.n, x.k)
		}
	}
}

func TestProbesOfEachNumberOfBits(t *testing.T) {
	for c, want := range map[int]int{
		1: 1, 2: 1, 3: 2, 4: 2, 5: 3, 6: 4, 10: 6, 20: 13, 29: 20, 30: 20, 42: 28, 43: 29, 44: 30, 45: 30, 46: 30, 63: 30, 64: 30,
	} {
		if _, k, e := bloom.Bits(5, c); k != want || e != api.OK {
			t.Errorf("k of %d bits for each key: %d, %d; want %d", c, k, e, want)
		}
	}
}

func TestBitsRefuses(t *testing.T) {
	least := -greatestInt - 1
	for _, x := range []struct {
		m, c int
		want api.Errno
	}{
		{-1, 10, api.ErrArg}, {-1, 1, api.ErrArg}, {-1, 64, api.ErrArg}, {-8, 8, api.ErrArg}, {least, 10, api.ErrArg}, {least, 64, api.ErrArg},
		{0, 0, api.ErrArg}, {100, 0, api.ErrArg}, {100, -1, api.ErrArg}, {100, least, api.ErrArg}, {1, 65, api.ErrArg}, {0, 65, api.ErrArg}, {1, greatestInt, api.ErrArg},
		{1<<23 + 1, 1, api.ErrLong}, {1<<22 + 1, 2, api.ErrLong}, {1<<17 + 1, 64, api.ErrLong}, {2796203, 3, api.ErrLong}, {838861, 10, api.ErrLong}, {133153, 63, api.ErrLong},
		// The product wraps: to a great number, to one below 0, to 0, to a small one.
		{greatestInt, 1, api.ErrLong}, {greatestInt, 2, api.ErrLong}, {greatestInt, 64, api.ErrLong}, {greatestInt/2 + 1, 2, api.ErrLong},
		{greatestInt/4 + 1, 8, api.ErrLong}, {greatestInt/32 + 1, 64, api.ErrLong}, {greatestInt/32 + 2, 64, api.ErrLong}, {greatestInt/4 + 2, 8, api.ErrLong},
		// Two errors: ErrArg is named first.
		{greatestInt, 0, api.ErrArg}, {greatestInt, -1, api.ErrArg}, {greatestInt, 65, api.ErrArg}, {1 << 23, 65, api.ErrArg}, {1 << 30, 0, api.ErrArg},
		{greatestInt, greatestInt, api.ErrArg}, {-1, 0, api.ErrArg}, {-1, 65, api.ErrArg}, {least, least, api.ErrArg},
	} {
		if n, k, e := bloom.Bits(x.m, x.c); n != 0 || k != 0 || e != x.want {
			t.Errorf("Bits of %d, %d: %d, %d, %d; want 0, 0, %d", x.m, x.c, n, k, e, x.want)
		}
	}
}

func TestBitsByWords(t *testing.T) {
	for c := -2; c <= 67; c++ {
		edges := []int{-greatestInt - 1, -65, -1, greatestInt - 1, greatestInt}
		for m := range 150 {
			edges = append(edges, m)
		}
		if c > 0 {
			for i := -9; i < 10; i++ {
				edges = append(edges, 1<<23/c+i, greatestInt/c+i, greatestInt/(2*c)+i)
			}
		}
		for _, m := range edges {
			n, k, e := bloom.Bits(m, c)
			if wantN, wantK, want := bitsByWords(m, c); n != wantN || k != wantK || e != want {
				t.Errorf("Bits of %d, %d: %d, %d, %d; want %d, %d, %d", m, c, n, k, e, wantN, wantK, want)
			}
		}
	}
}
