package bloom_test

import (
	"fmt"
	"math/big"
	"math/rand/v2"
	"testing"

	"bootprint/api"
	"bootprint/bloom"
)

const greatestInt = int(^uint(0) >> 1)

func fine(t *testing.T, what string, e api.Errno) {
	t.Helper()
	if e != api.OK {
		t.Fatalf("%s: %d", what, e)
	}
}

// scrambled tells the same n bytes of each seed, with no rule that is easily
// seen.
func scrambled(seed uint64, n int) []byte {
	from := rand.NewPCG(seed, 9)
	b := make([]byte, n)
	for i := range b {
		b[i] = byte(from.Uint64())
	}
	return b
}

// numbered tells n keys that are unlike each other, and those of another name.
func numbered(name string, n int) [][]byte {
	var l [][]byte
	for i := range n {
		l = append(l, fmt.Append(nil, name, i))
	}
	return l
}

// some tells keys of these texts.
func some(texts ...string) [][]byte {
	var l [][]byte
	for _, s := range texts {
		l = append(l, []byte(s))
	}
	return l
}

// hashByWords tells b's hash as the chapter says it, in numbers without bounds.
func hashByWords(b []byte) uint64 {
	whole := new(big.Int).Lsh(big.NewInt(1), 64)
	times := func(x *big.Int, by string, base int) *big.Int {
		n, _ := new(big.Int).SetString(by, base)
		n.Mul(n, x)
		return n.Mod(n, whole)
	}
	fold := func(x *big.Int) *big.Int {
		return new(big.Int).Xor(x, new(big.Int).Rsh(x, 33))
	}
	x, _ := new(big.Int).SetString("14695981039346656037", 10)
	for _, c := range b {
		x = times(new(big.Int).Xor(x, big.NewInt(int64(c))), "1099511628211", 10)
	}
	x = times(fold(x), "FF51AFD7ED558CCD", 16)
	x = times(fold(x), "C4CEB9FE1A85EC53", 16)
	return fold(x).Uint64()
}

// probesByWords tells the probes as the chapter says them, in numbers without
// bounds.
func probesByWords(h uint64, n, k int) []int {
	low, high := int64(h%(1<<32)), int64(h/(1<<32))
	if high%2 == 0 {
		high++
	}
	var l []int
	for i := range k {
		x := new(big.Int).Mul(big.NewInt(int64(i)), big.NewInt(high))
		x.Add(x, big.NewInt(low))
		x.Mod(x, big.NewInt(1<<32))
		x.Mod(x, big.NewInt(int64(n)))
		l = append(l, int(x.Int64()))
	}
	return l
}

// bitsByWords tells Bits as the chapter says it, in numbers without bounds.
func bitsByWords(m, c int) (n, k int, e api.Errno) {
	if m < 0 || c < 1 || c > 64 {
		return 0, 0, 2
	}
	all := new(big.Int).Mul(big.NewInt(int64(m)), big.NewInt(int64(c)))
	if all.Cmp(big.NewInt(64)) < 0 {
		all.SetInt64(64)
	}
	for new(big.Int).Mod(all, big.NewInt(8)).Sign() != 0 {
		all.Add(all, big.NewInt(1))
	}
	if all.Cmp(big.NewInt(1<<23)) > 0 {
		return 0, 0, 3
	}
	for k = 30; k > 1 && k*100 > c*69; k-- {
	}
	return int(all.Int64()), k, 0
}

// isSet tells whether the bit at that place of a filter is set, the lowest bit
// of each byte being its first.
func isSet(f []byte, at int) bool {
	c := f[at/8]
	for range at % 8 {
		c /= 2
	}
	return c%2 == 1
}

// filterByWords tells the filter of keys: each bit is gone over, and set if it
// is a probe of a key.
func filterByWords(keys [][]byte, n, k int) []byte {
	probed := map[int]int{}
	for _, key := range keys {
		for _, at := range probesByWords(hashByWords(key), n, k) {
			probed[at]++
		}
	}
	f := make([]byte, n/8)
	value := byte(1)
	for at := range n {
		if at%8 == 0 {
			value = 1
		}
		if probed[at] > 0 {
			f[at/8] += value
		}
		value *= 2
	}
	return append(f, byte(k))
}

// hasByWords tells Has as the chapter says it.
func hasByWords(f, key []byte) bool {
	if len(f) < 2 || len(f) > 1<<20+1 {
		return true
	}
	k := int(f[len(f)-1])
	if k < 1 || k > 30 {
		return true
	}
	for _, at := range probesByWords(hashByWords(key), 8*(len(f)-1), k) {
		if !isSet(f, at) {
			return false
		}
	}
	return true
}

// agree fails unless the package has key in f just as the words say.
func agree(t *testing.T, what string, f, key []byte) {
	t.Helper()
	if got, want := bloom.Has(f, key), hasByWords(f, key); got != want {
		t.Errorf("Has of %s, %q: %t, want %t", what, key, got, want)
	}
}

// someHashes are 0, 2^64 - 1, each power of two with its neighbours, such as
// have a half of zeros or ones, and some between.
func someHashes() []uint64 {
	l := []uint64{0, 1<<64 - 1, 1<<32 - 1, (1<<32 - 1) << 32, 0xFFFFFFFE_FFFFFFFF, 0xFFFFFFFE_00000000}
	for i := range 64 {
		p := uint64(1) << i
		l = append(l, p-1, p, p+1)
	}
	from := rand.NewPCG(5, 9)
	for range 100 {
		l = append(l, from.Uint64())
	}
	return l
}
