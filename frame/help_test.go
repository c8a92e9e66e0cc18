package frame_test

import (
	"bytes"
	"hash/crc32"
	"math/bits"
	"math/rand/v2"
	"testing"

	"bootprint/api"
	"bootprint/frame"
)

// maskedSum tells the masked sum of b as four bytes, by the library's sum.
func maskedSum(b []byte) []byte {
	s := crc32.Checksum(b, crc32.MakeTable(crc32.Castagnoli))
	m := bits.RotateLeft32(s, 17) + 0xA282EAD8
	return []byte{byte(m), byte(m >> 8), byte(m >> 16), byte(m >> 24)}
}

// headFor tells a head with its sum, of whatever length it says.
func headFor(kind byte, length int) []byte {
	b := []byte{kind, byte(length), byte(length >> 8), byte(length >> 16)}
	return append(b, maskedSum(b)...)
}

// byWords tells a frame's bytes as the chapter's words say them.
func byWords(kind byte, body []byte) []byte {
	return together(headFor(kind, len(body)), body, maskedSum(body))
}

// together tells the parts, one behind the other.
func together(parts ...[]byte) []byte {
	return bytes.Join(parts, nil)
}

// turned tells b with one bit turned.
func turned(b []byte, bit int) []byte {
	b = bytes.Clone(b)
	b[bit/8] ^= 1 << (bit % 8)
	return b
}

// scrambled tells the same n bytes of each seed, with no rule that is easily seen.
func scrambled(seed uint64, n int) []byte {
	from := rand.NewPCG(seed, 3)
	b := make([]byte, n)
	for i := range b {
		b[i] = byte(from.Uint64())
	}
	return b
}

// someLengths are small ones, those about each byte of a length, and the greatest.
func someLengths() []int {
	l := []int{255, 256, 257, 1<<16 - 1, 1 << 16, 1<<16 + 1, 0x0abcde, api.MaxFrame - 1, api.MaxFrame}
	for n := range 70 {
		l = append(l, n)
	}
	return l
}

// someFrames are frames of all sorts of small lengths, some of them with a
// Body that is itself a frame's bytes.
func someFrames() []api.Frame {
	return []api.Frame{
		{Kind: 1, Body: []byte("x")},
		{Kind: 0, Body: nil},
		{Kind: 255, Body: scrambled(1, 40)},
		{Kind: 7, Body: byWords(3, []byte("within"))},
		{Kind: 0, Body: make([]byte, 30)},
		{Kind: 9, Body: together(byWords(4, nil), byWords(5, nil))},
		{Kind: 2, Body: nil},
		{Kind: 128, Body: bytes.Repeat([]byte{0xff}, 13)},
	}
}

// rowOf tells the row of the frames, and at which places each one ends.
func rowOf(t *testing.T, l []api.Frame) (b []byte, ends []int) {
	t.Helper()
	for _, f := range l {
		c, e := frame.Append(b, f)
		if e != api.OK {
			t.Fatalf("Append of a Body of %d bytes: %d", len(f.Body), e)
		}
		b, ends = c, append(ends, len(c))
	}
	return b, ends
}

// same tells whether a and b are the same frames.
func same(a, b []api.Frame) bool {
	if len(a) != len(b) {
		return false
	}
	for i := range a {
		if a[i].Kind != b[i].Kind || !bytes.Equal(a[i].Body, b[i].Body) {
			return false
		}
	}
	return true
}

// checkRead fails unless Read tells this frame and this size of b.
func checkRead(t *testing.T, name string, b []byte, kind byte, body []byte, size int) {
	t.Helper()
	f, n, e := frame.Read(b)
	if f.Kind != kind || !bytes.Equal(f.Body, body) || n != size || e != api.OK {
		t.Errorf("%s: Kind %d, %d bytes, size %d, error %d; want %d, %d, %d, OK",
			name, f.Kind, len(f.Body), n, e, kind, len(body), size)
	}
}

// checkRefused fails unless Read tells that error of b, and nothing else.
func checkRefused(t *testing.T, name string, b []byte, want api.Errno) {
	t.Helper()
	f, n, e := frame.Read(b)
	if f.Kind != 0 || len(f.Body) != 0 || n != 0 || e != want {
		t.Errorf("%s: Kind %d, %d bytes, size %d, error %d; want nothing and %d",
			name, f.Kind, len(f.Body), n, e, want)
	}
}

// checkRow fails unless Row tells these frames, this place and this error of b.
func checkRow(t *testing.T, name string, b []byte, want []api.Frame, place int, torn api.Errno) {
	t.Helper()
	l, n, e := frame.Row(b)
	if !same(l, want) || n != place || e != torn {
		t.Errorf("%s: %d frames, place %d, error %d; want %d, %d, %d",
			name, len(l), n, e, len(want), place, torn)
	}
}
