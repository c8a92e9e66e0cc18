package bloom_test

import (
	"testing"

	"bootprint/api"
	"bootprint/bloom"
)

// P9.3

func TestEachKeyIsThere(t *testing.T) {
	for c := 1; c <= 64; c++ {
		for _, m := range []int{1, 2, 5, 30, 200} {
			keys := numbered("key", m)
			keys = append(keys, nil, []byte{0}, scrambled(uint64(m), 500), keys[m/2])
			f, e := bloom.Make(keys, c)
			fine(t, "Make", e)
			for _, key := range keys {
				if !bloom.Has(f, key) {
					t.Errorf("%q is not there, of %d keys, %d bits each", key, len(keys), c)
				}
			}
		}
	}
}

// Ten bits for each key tell about one of a hundred others to be there.
func TestFewOthersAreThere(t *testing.T) {
	f, e := bloom.Make(numbered("in", 1000), 10)
	fine(t, "Make", e)
	wrong := 0
	for _, key := range numbered("out", 10000) {
		if bloom.Has(f, key) {
			wrong++
		}
	}
	if wrong > 200 {
		t.Errorf("%d of 10000 other keys are there", wrong)
	}
}

// grows fails unless each bit of f, and its size and k, are more's too.
func grows(t *testing.T, what string, f, more []byte) {
	t.Helper()
	if len(f) != len(more) || f[len(f)-1] != more[len(f)-1] {
		t.Fatalf("%s: %q and %q are not of one size", what, f, more)
	}
	for at := range 8 * (len(f) - 1) {
		if isSet(f, at) && !isSet(more, at) {
			t.Errorf("%s: the bit %d is taken away", what, at)
		}
	}
}

func TestMoreKeysTakeNoneAway(t *testing.T) {
	keys := numbered("key", 64)
	for c := 1; c <= 64; c++ {
		for m := 0; (m+1)*c <= 64; m++ { // all of 64 bits
			f, e := bloom.Make(keys[:m], c)
			fine(t, "Make", e)
			more, e := bloom.Make(keys[:m+1], c)
			fine(t, "Make", e)
			grows(t, "one more", f, more)
			for _, key := range append(keys, numbered("other", 40)...) {
				if bloom.Has(f, key) && !bloom.Has(more, key) {
					t.Errorf("%q is gone with one key more, of %d, %d bits each", key, m, c)
				}
			}
		}
	}
}

// Of so many keys with one bit each, up to eight more are of one size: those
// that are more stand anywhere.
func TestMoreKeysAnywhereTakeNoneAway(t *testing.T) {
	for _, m := range []int{65, 73, 1001, 4097} {
		keys := numbered("key", m)
		f, e := bloom.Make(keys, 1)
		fine(t, "Make", e)
		for more := 1; more < 8; more++ {
			all := append(numbered("ahead", more/2), keys...)
			all = append(all, numbered("behind", more-more/2)...)
			g, e := bloom.Make(all, 1)
			fine(t, "Make", e)
			grows(t, "more", f, g)
			for _, key := range all {
				if !bloom.Has(g, key) {
					t.Errorf("%q is not there", key)
				}
			}
		}
	}
}

// The bits do not hang on the keys' order.
func TestOrderOfKeysDoesNotCount(t *testing.T) {
	keys := numbered("key", 40)
	f, e := bloom.Make(keys, 7)
	fine(t, "Make", e)
	for i := range keys {
		turned := append(append([][]byte{}, keys[i:]...), keys[:i]...)
		if g, e := bloom.Make(turned, 7); string(g) != string(f) || e != api.OK {
			t.Errorf("Make of keys from %d on: %q, %d; want %q", i, g, e, f)
		}
	}
}

// The bits of all keys are those of each, together.
func TestFilterIsItsKeysFiltersTogether(t *testing.T) {
	a, b := numbered("a", 5), numbered("b", 5)
	f, _ := bloom.Make(a, 6)
	g, _ := bloom.Make(b, 6)
	both, e := bloom.Make(append(a, b...), 6)
	fine(t, "Make", e)
	for i := range len(f) - 1 {
		if both[i] != f[i]|g[i] {
			t.Errorf("byte %d: %08b, want %08b and %08b", i, both[i], f[i], g[i])
		}
	}
}
