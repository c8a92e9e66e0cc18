package crc_test

import (
	"bytes"
	"hash/crc32"
	"math/bits"
	"math/rand/v2"
	"testing"

	"bootprint/api"
	"bootprint/crc"
)

// byWords tells b's sum as the chapter's words say it, bit by bit, with the
// polynomial as it stands and each byte's lowest bit first.
func byWords(b []byte) uint32 {
	register := uint32(0xFFFFFFFF)
	for _, c := range b {
		for i := range 8 {
			out := register>>31 ^ uint32(c>>i)&1
			register <<= 1
			if out == 1 {
				register ^= 0x1EDC6F41
			}
		}
	}
	return ^bits.Reverse32(register)
}

// scrambled tells the same n bytes of each seed, with no rule that is easily seen.
func scrambled(seed uint64, n int) []byte {
	from := rand.NewPCG(seed, 2)
	b := make([]byte, n)
	for i := range b {
		b[i] = byte(from.Uint64())
	}
	return b
}

// someNumbers are 0, 2^32 - 1, each power of two with its neighbours, and some between.
func someNumbers() []uint32 {
	l := []uint32{0, 1<<32 - 1, 0xA282EAD8, 0x82F63B78, 0xE3069283}
	for i := range 32 {
		p := uint32(1) << i
		l = append(l, p-1, p, p+1)
	}
	from := rand.NewPCG(3, 4)
	for range 200 {
		l = append(l, uint32(from.Uint64()))
	}
	return l
}

// P2.1, Sum and Update

func TestSumAsTold(t *testing.T) {
	for _, c := range []struct {
		b    []byte
		want uint32
	}{
		{nil, 0},
		{[]byte{}, 0},
		{[]byte("123456789"), 0xE3069283},
		{make([]byte, 32), 0x8A9136AA},
		{bytes.Repeat([]byte{0xff}, 32), 0x62A8AB43},
		{[]byte("a"), 0xC1D04330},
	} {
		if s := crc.Sum(c.b); s != c.want {
			t.Errorf("Sum of %q: %08X, want %08X", c.b, s, c.want)
		}
	}
}

func TestSumOfEachByte(t *testing.T) {
	for c := range 256 {
		b := []byte{byte(c)}
		if s := crc.Sum(b); s != byWords(b) {
			t.Errorf("Sum of %v: %08X, want %08X", b, s, byWords(b))
		}
	}
}

func TestSumAtLengths(t *testing.T) {
	castagnoli := crc32.MakeTable(crc32.Castagnoli)
	for n := range 300 {
		b := scrambled(uint64(n), n)
		if s := crc.Sum(b); s != byWords(b) || s != crc32.Checksum(b, castagnoli) {
			t.Errorf("Sum of %d bytes: %08X, want %08X", n, s, byWords(b))
		}
	}
	long := scrambled(5, 1<<20)
	if s := crc.Sum(long); s != crc32.Checksum(long, castagnoli) {
		t.Errorf("Sum of 2^20 bytes: %08X", s)
	}
}

func TestUpdateGoesOn(t *testing.T) {
	b := scrambled(6, 100)
	for i := range len(b) + 1 {
		if s := crc.Update(crc.Sum(b[:i]), b[i:]); s != byWords(b) {
			t.Errorf("Update behind %d bytes: %08X, want %08X", i, s, byWords(b))
		}
	}
	s := crc.Sum(nil)
	for i, c := range b {
		s = crc.Update(s, []byte{c})
		if s != byWords(b[:i+1]) {
			t.Errorf("Update by one byte, %d of them: %08X", i+1, s)
		}
	}
}

func TestUpdateFromNothingAndByNothing(t *testing.T) {
	for n := range 20 {
		b := scrambled(7, n)
		if crc.Update(0, b) != crc.Sum(b) {
			t.Errorf("Update of 0 by %v is not its sum", b)
		}
	}
	for _, s := range someNumbers() {
		if crc.Update(s, nil) != s || crc.Update(s, []byte{}) != s {
			t.Errorf("Update of %08X by nothing changes it", s)
		}
	}
}

// P2.1, Join

func TestJoinAtEveryCut(t *testing.T) {
	for _, n := range []int{0, 1, 2, 3, 4, 5, 9, 33, 200} {
		b := scrambled(uint64(8+n), n)
		for i := range n + 1 {
			s, e := crc.Join(crc.Sum(b[:i]), crc.Sum(b[i:]), n-i)
			if s != crc.Sum(b) || e != api.OK {
				t.Errorf("Join at %d of %d: %08X, %d; want %08X", i, n, s, e, crc.Sum(b))
			}
		}
	}
}

func TestJoinOverEachBitOfTheNumber(t *testing.T) {
	a, b := []byte("ahead"), scrambled(9, 1<<16+1)
	for k := range 17 {
		for n := 1<<k - 1; n <= 1<<k+1; n++ {
			s, e := crc.Join(crc.Sum(a), crc.Sum(b[:n]), n)
			if want := crc.Update(crc.Sum(a), b[:n]); s != want || e != api.OK {
				t.Errorf("Join with %d bytes: %08X, %d; want %08X", n, s, e, want)
			}
		}
	}
}

func TestJoinWithNoBytes(t *testing.T) {
	for _, a := range someNumbers() {
		if s, e := crc.Join(a, 0, 0); s != a || e != api.OK {
			t.Errorf("Join of %08X with nothing: %08X, %d", a, s, e)
		}
	}
}

func TestJoinWithTheMostBytes(t *testing.T) {
	// The register is again what it was behind 2^31 - 1 bits 0, so that
	// 2^43 bits move it as 2^12 do: 512 bytes.
	for i, a := range someNumbers() {
		b := scrambled(uint64(i), 512)
		s, e := crc.Join(a, crc.Sum(b), 1<<40)
		if want := crc.Update(a, b); s != want || e != api.OK {
			t.Errorf("Join of %08X with 2^40 bytes: %08X, %d; want %08X", a, s, e, want)
		}
	}
}

func TestJoinOfZerosByDoubling(t *testing.T) {
	zeros := crc.Sum([]byte{0})
	for k := range 40 {
		s, e := crc.Join(zeros, zeros, 1<<k)
		if e != api.OK {
			t.Fatalf("Join with 2^%d bytes: %d", k, e)
		}
		one, _ := crc.Join(zeros, crc.Sum([]byte{0}), 1)
		rest, _ := crc.Join(crc.Sum([]byte{0}), zeros, 1<<k)
		if one != rest {
			t.Errorf("2^%d zeros and one: %08X, one and 2^%d zeros: %08X", k, one, k, rest)
		}
		if k < 15 && s != crc.Sum(make([]byte, 2<<k)) {
			t.Errorf("Join of two times 2^%d zeros: %08X", k, s)
		}
		zeros = s
	}
}

func TestJoinOfThreeEitherWay(t *testing.T) {
	a, b, c := crc.Sum([]byte("a")), crc.Sum([]byte("bcd")), crc.Sum([]byte("efghi"))
	for _, n := range []int{5, 1 << 20, 1<<39 + 12345, 1<<40 - 3} {
		left, _ := crc.Join(a, b, 3)
		left, _ = crc.Join(left, c, n)
		right, _ := crc.Join(b, c, n)
		right, e := crc.Join(a, right, n+3)
		if left != right || e != api.OK {
			t.Errorf("Join of three, the last with %d bytes: %08X and %08X, %d", n, left, right, e)
		}
	}
}

func TestJoinRefuses(t *testing.T) {
	for _, n := range []int{-1, -2, -1 << 40, -1 << 63, 1<<40 + 1, 1<<40 + 2, 1 << 41, 1<<63 - 1} {
		for _, a := range []uint32{0, 1, 0xE3069283} {
			if s, e := crc.Join(a, 7, n); s != 0 || e != api.ErrArg {
				t.Errorf("Join with %d bytes: %08X, %d; want 0, ErrArg", n, s, e)
			}
		}
	}
}

// P2.1, Mask and Unmask

func TestMaskAsTold(t *testing.T) {
	for _, c := range []struct{ s, masked uint32 }{
		{0, 0xA282EAD8},
		{1<<32 - 1, 0xA282EAD7},
		{1, 0xA284EAD8},
		{1 << 14, 0x2282EAD8},
		{1 << 15, 0xA282EAD9},
		{1 << 31, 0xA283EAD8},
		{0xE3069283, 0xC78AB0E5},
		{0x8A942EBE, 0},
		{0x8A93AEBE, 1<<32 - 1},
	} {
		if m := crc.Mask(c.s); m != c.masked {
			t.Errorf("Mask of %08X: %08X, want %08X", c.s, m, c.masked)
		}
		if s := crc.Unmask(c.masked); s != c.s {
			t.Errorf("Unmask of %08X: %08X, want %08X", c.masked, s, c.s)
		}
	}
}

func TestMaskByWords(t *testing.T) {
	for _, s := range someNumbers() {
		low := uint64(s) % (1 << 15)
		want := uint32((low<<17 + uint64(s)>>15 + 0xA282EAD8) % (1 << 32))
		if m := crc.Mask(s); m != want {
			t.Errorf("Mask of %08X: %08X, want %08X", s, m, want)
		}
	}
}

// Rule 4

func TestNothingIsChangedOrKept(t *testing.T) {
	whole := append([]byte("123456789"), bytes.Repeat([]byte{0xee}, 64)...)
	before := bytes.Clone(whole)
	b := whole[:9]
	s, u := crc.Sum(b), crc.Update(1, b)
	if !bytes.Equal(whole, before) {
		t.Error("what was handed in is changed")
	}
	for i := range whole {
		whole[i] = 0
	}
	if crc.Sum(before[:9]) != s || crc.Update(1, before[:9]) != u {
		t.Error("a sum hangs on what was handed in earlier")
	}
	other := append([]byte("123456789"), "other room"...)
	if crc.Sum(other[:9]) != s || crc.Update(1, other[:9]) != u {
		t.Error("a sum hangs on spare room")
	}
}
