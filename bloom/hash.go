package bloom

import (
	"iter"

	"bootprint/api"
)

const (
	offsetBasis uint64 = 14695981039346656037
	prime       uint64 = 1099511628211
	firstMix    uint64 = 0xFF51AFD7ED558CCD
	secondMix   uint64 = 0xC4CEB9FE1A85EC53
	mixShift    uint64 = 33

	halfBits uint64 = 32
	lowHalf  uint64 = 1<<halfBits - 1
)

// Hash answers b's hash.
func Hash(b []byte) uint64 {
	h := offsetBasis
	for _, c := range b {
		h = (h ^ uint64(c)) * prime
	}
	return mix(h)
}

// mix has each bit of h change the bits of both halves: a last byte changes
// only few of FNV-1a's.
func mix(h uint64) uint64 {
	h = (h ^ h>>mixShift) * firstMix
	h = (h ^ h>>mixShift) * secondMix
	return h ^ h>>mixShift
}

// Probes answers the probes of the hash h for n bits and k, in order.
func Probes(h uint64, n, k int) ([]int, api.Errno) {
	if n < 1 || n > api.MaxBits || !mayProbe(k) {
		return nil, api.ErrArg
	}
	l := make([]int, 0, k)
	for at := range places(h, n, k) {
		l = append(l, at)
	}
	return l, api.OK
}

// places yields the probes of h; n is 1 at least.
func places(h uint64, n, k int) iter.Seq[int] {
	return func(yield func(int) bool) {
		// An odd step comes to all numbers of a half, an even one to some alone.
		sum, step := h&lowHalf, h>>halfBits|1
		for range k {
			if !yield(int(sum % uint64(n))) {
				return
			}
			sum = (sum + step) & lowHalf
		}
	}
}
