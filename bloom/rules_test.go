package bloom_test

import (
	"bytes"
	"fmt"
	"slices"
	"testing"

	"bootprint/api"
	"bootprint/bloom"
)

// spare is what stands in spare room that is handed in.
const spare = "spare room"

// roomy tells a list of these bytes whose spare room has others.
func roomy(s string) []byte {
	return []byte(s + spare)[:len(s)]
}

// unchanged fails unless a roomy list is as it was, its spare room too.
func unchanged(t *testing.T, what string, b []byte, s string) {
	t.Helper()
	if whole := string(b[:len(s)+len(spare)]); len(b) != len(s) || whole != s+spare {
		t.Errorf("%s: what was handed in is %q", what, whole)
	}
}

// spoil overwrites a list, its spare room too.
func spoil(b []byte) {
	for i, room := 0, b[:cap(b)]; i < len(room); i++ {
		room[i] = 0x55
	}
}

// Rule 4

const filterOfBoth = "\x80\x2a\x00\x09\x40\x05\x10\x80\x06"

func TestMakeChangesAndKeepsNothing(t *testing.T) {
	empty, a := roomy(""), roomy("a")
	keys := append(make([][]byte, 0, 9), empty, a, []byte("not of the list"))[:2]
	f, e := bloom.Make(keys, 10)
	if string(f) != filterOfBoth || e != api.OK {
		t.Fatalf("Make: %q, %d", f, e)
	}
	again, _ := bloom.Make(keys, 10)
	unchanged(t, "behind Make", empty, "")
	unchanged(t, "behind Make", a, "a")
	whole := keys[:cap(keys)]
	if string(whole[0]) != "" || string(whole[1]) != "a" || string(whole[2]) != "not of the list" || !slices.EqualFunc(whole[3:], make([][]byte, 6), bytes.Equal) {
		t.Errorf("Make changes the list of keys: %q", whole)
	}
	// An answer is new memory: neither what was handed in, nor another answer.
	spoil(f)
	unchanged(t, "behind a change of the answer", empty, "")
	unchanged(t, "behind a change of the answer", a, "a")
	spoil(a)
	spoil(empty)
	clear(whole)
	if string(again) != filterOfBoth {
		t.Errorf("Make's answer follows another one, or what was handed in: %q", again)
	}
	if third, _ := bloom.Make(some("", "a"), 10); string(third) != filterOfBoth {
		t.Errorf("Make's answer hangs on an earlier call: %q", third)
	}
}

func TestMakeChangesNothingBesideAnError(t *testing.T) {
	a := roomy("a")
	keys := [][]byte{a, []byte("b")}
	for _, c := range []int{0, 65} {
		if _, e := bloom.Make(keys[:1], c); e != api.ErrArg {
			t.Errorf("Make with %d bits: %d", c, e)
		}
	}
	unchanged(t, "behind ErrArg", a, "a")
	if string(keys[1]) != "b" {
		t.Errorf("Make changes the list of keys: %q", keys)
	}
}

func TestHashAndHasChangeNothing(t *testing.T) {
	f, key := roomy(filterOfBoth), roomy("a")
	h := bloom.Hash(key)
	if h != 0x82A2A958A9BECE5B || !bloom.Has(f, key) {
		t.Errorf("Hash, Has: %016X, %t", h, bloom.Has(f, key))
	}
	unchanged(t, "behind Has", f, filterOfBoth)
	unchanged(t, "behind Has", key, "a")
	// Nothing of the filter is kept.
	clear(f[:8])
	if bloom.Has(f, key) {
		t.Error("Has goes by bytes that were handed in earlier")
	}
	// Spare room is not read: neither as bits, nor as a k, nor as a key's byte.
	bits := []byte("\xff\xff\xff\xff\xff\xff\xff\xff\xff\x00\x06")
	if !bloom.Has(bits[:9], key) || !bloom.Has(bits[:10], key) || bloom.Has([]byte("\x00\x06\xff\xff\xff")[:2], key) {
		t.Error("Has reads spare room")
	}
	if !bloom.Has(bits[:0], key) || !bloom.Has([]byte("\x00\x06")[:1], key) {
		t.Error("Has reads spare room of bytes that are no filter's")
	}
}

func TestProbesAnswersNewMemory(t *testing.T) {
	one, e := bloom.Probes(7<<32|5, 10, 5)
	fine(t, "Probes", e)
	two, _ := bloom.Probes(7<<32|5, 10, 5)
	for i, room := 0, one[:cap(one)]; i < len(room); i++ {
		room[i] = -1
	}
	three, _ := bloom.Probes(7<<32|5, 10, 5)
	for _, l := range [][]int{two, three} {
		if !slices.Equal(l, []int{5, 2, 9, 6, 3}) {
			t.Errorf("two answers share memory: %d", l)
		}
	}
}

// Rule 6: a nil list and an empty one are the same.
func TestNilAndEmptyAreTheSame(t *testing.T) {
	for _, keys := range [][][]byte{nil, {}} {
		if f, e := bloom.Make(keys, 10); string(f) != "\x00\x00\x00\x00\x00\x00\x00\x00\x06" || e != api.OK {
			t.Errorf("Make of no keys: %q, %d", f, e)
		}
	}
	for _, none := range [][]byte{nil, {}} {
		f, e := bloom.Make([][]byte{none}, 10)
		if string(f) != "\x80\x0a\x00\x00\x40\x05\x00\x00\x06" || e != api.OK {
			t.Errorf("Make of an empty key: %q, %d", f, e)
		}
		if !bloom.Has(f, none) || bloom.Has([]byte("\x00\x20\x00\x09\x40\x00\x10\x80\x06"), none) {
			t.Error("Has of an empty key")
		}
		if bloom.Hash(none) != 0xEFD01F60BA992926 {
			t.Errorf("Hash of no bytes: %016X", bloom.Hash(none))
		}
		if !bloom.Has(none, none) || !bloom.Has(none, []byte("a")) {
			t.Error("Has of no filter")
		}
	}
}

// The chapter's examples

func TestExamplesOfTheChapter(t *testing.T) {
	if h := bloom.Hash(nil); h != 0xEFD01F60BA992926 {
		t.Errorf("Hash of nothing: %X", h)
	}
	if h := bloom.Hash([]byte("a")); h != 0x82A2A958A9BECE5B {
		t.Errorf("Hash of a: %X", h)
	}
	if n, k, e := bloom.Bits(0, 10); n != 64 || k != 6 || e != api.OK {
		t.Errorf("Bits(0, 10): %d, %d, %d", n, k, e)
	}
	if n, k, e := bloom.Bits(100, 10); n != 1000 || k != 6 || e != api.OK {
		t.Errorf("Bits(100, 10): %d, %d, %d", n, k, e)
	}
	f, e := bloom.Make(some("a", "b"), 10)
	if e != api.OK || !bloom.Has(f, []byte("a")) || !bloom.Has(nil, []byte("a")) {
		t.Errorf("Has of Make(a, b; 10), a; of none: %t, %t; %d", bloom.Has(f, []byte("a")), bloom.Has(nil, []byte("a")), e)
	}
}

func ExampleMake() {
	f, e := bloom.Make([][]byte{[]byte("a"), []byte("b")}, 10)
	fmt.Println(len(f), e)
	fmt.Println(bloom.Has(f, []byte("a")), bloom.Has(f, []byte("b")), bloom.Has(f, []byte("c")))
	// Output:
	// 9 0
	// true true false
}
