package frame_test

import (
	"bytes"
	"fmt"
	"testing"

	"bootprint/api"
	"bootprint/frame"
)

// P3.1, Append

func TestAppendAsTold(t *testing.T) {
	// The sum of 32 bytes 0 is 8A9136AA, that of no bytes is 0.
	zeros := make([]byte, 32)
	b, e := frame.Append(nil, api.Frame{Kind: 1, Body: zeros})
	if e != api.OK || len(b) != 44 || !bytes.Equal(b[:4], []byte{1, 32, 0, 0}) || !bytes.Equal(b[8:40], zeros) {
		t.Fatalf("Append of 32 bytes 0: % x, %d", b, e)
	}
	// 8A9136AA, turned by 15, is 6D551522; with A282EAD8 it is 0FD7FFFA.
	if !bytes.Equal(b[40:], []byte{0xfa, 0xff, 0xd7, 0x0f}) {
		t.Errorf("the sum of 32 bytes 0: % x", b[40:])
	}
	b, e = frame.Append(nil, api.Frame{})
	if e != api.OK || len(b) != 12 || !bytes.Equal(b[8:], []byte{0xd8, 0xea, 0x82, 0xa2}) {
		t.Errorf("Append of no Body: % x, %d", b, e)
	}
}

func TestAppendOfEachKind(t *testing.T) {
	for kind := range 256 {
		for _, body := range [][]byte{nil, {}, {0}, []byte("body")} {
			b, e := frame.Append(nil, api.Frame{Kind: byte(kind), Body: body})
			if want := byWords(byte(kind), body); !bytes.Equal(b, want) || e != api.OK {
				t.Errorf("Append of Kind %d, %q: % x, %d; want % x", kind, body, b, e, want)
			}
		}
	}
}

func TestAppendAtLengths(t *testing.T) {
	all := scrambled(2, api.MaxFrame)
	for _, n := range someLengths() {
		b, e := frame.Append(nil, api.Frame{Kind: 3, Body: all[:n]})
		if !bytes.Equal(b, byWords(3, all[:n])) || e != api.OK {
			t.Errorf("Append of %d bytes: %d bytes, %d", n, len(b), e)
		}
		if len(b) != frame.Size(n) {
			t.Errorf("Append of %d bytes: %d bytes, Size tells %d", n, len(b), frame.Size(n))
		}
	}
}

func TestAppendBehindBytes(t *testing.T) {
	f := api.Frame{Kind: 200, Body: []byte("behind")}
	for _, ahead := range [][]byte{nil, {}, {0}, []byte("no frame"), byWords(1, []byte("a frame"))} {
		b, e := frame.Append(ahead, f)
		if want := together(ahead, byWords(200, []byte("behind"))); !bytes.Equal(b, want) || e != api.OK {
			t.Errorf("Append behind %q: %q, %d; want %q", ahead, b, e, want)
		}
	}
}

func TestAppendRefuses(t *testing.T) {
	for _, n := range []int{api.MaxFrame + 1, api.MaxFrame + 2, 1 << 21, 1 << 24, 1<<24 + 1} {
		for _, ahead := range [][]byte{nil, []byte("ahead")} {
			b, e := frame.Append(ahead, api.Frame{Kind: 1, Body: make([]byte, n)})
			if len(b) != 0 || e != api.ErrLong {
				t.Errorf("Append of %d bytes behind %q: %d bytes, %d; want none, ErrLong", n, ahead, len(b), e)
			}
		}
	}
}

// P3.1, Size

func TestSize(t *testing.T) {
	for _, c := range []struct{ n, want int }{
		{0, 12}, {1, 13}, {5, 17}, {api.MaxFrame, api.MaxFrame + 12},
		{-1, 12}, {-5, 12}, {-12, 12}, {-13, 12}, {-1 << 63, 12},
	} {
		if n := frame.Size(c.n); n != c.want {
			t.Errorf("Size of %d: %d, want %d", c.n, n, c.want)
		}
	}
}

// Rule 4

func TestAppendLeavesWhatIsHandedIn(t *testing.T) {
	for _, room := range []int{0, 1, 12, 13, 30, 1000} {
		whole := together([]byte("ahead"), bytes.Repeat([]byte{0xee}, room))
		bodyWhole := together([]byte("body"), bytes.Repeat([]byte{0xdd}, room))
		before, bodyBefore := bytes.Clone(whole), bytes.Clone(bodyWhole)
		unchanged := func(when string) {
			if !bytes.Equal(whole, before) || !bytes.Equal(bodyWhole, bodyBefore) {
				t.Fatalf("room %d: what was handed in is other %s", room, when)
			}
		}
		b, e := frame.Append(whole[:5], api.Frame{Kind: 1, Body: bodyWhole[:4]})
		if want := together([]byte("ahead"), byWords(1, []byte("body"))); !bytes.Equal(b, want) || e != api.OK {
			t.Fatalf("room %d: %q, %d", room, b, e)
		}
		unchanged("behind the call")
		answer := b[:cap(b)]
		for i := range answer {
			answer[i] ^= 0x55
		}
		unchanged("when the answer is written to")
	}
}

func TestAppendTwiceOntoTheSameBytes(t *testing.T) {
	ahead := make([]byte, 3, 200)
	a, _ := frame.Append(ahead, api.Frame{Kind: 1, Body: []byte("one")})
	b, _ := frame.Append(ahead, api.Frame{Kind: 2, Body: []byte("two")})
	if !bytes.Equal(a, together(make([]byte, 3), byWords(1, []byte("one")))) {
		t.Errorf("the first answer is changed by the second call: % x", a)
	}
	if !bytes.Equal(b, together(make([]byte, 3), byWords(2, []byte("two")))) {
		t.Errorf("the second answer: % x", b)
	}
}

func TestAppendOfTheBytesThemselves(t *testing.T) {
	b := []byte("both ahead and within")
	c, e := frame.Append(b, api.Frame{Kind: 8, Body: b})
	if want := together(b, byWords(8, b)); !bytes.Equal(c, want) || e != api.OK {
		t.Errorf("Append: %q, %d", c, e)
	}
	// The answer does not follow what becomes of the Body.
	want := bytes.Clone(c)
	clear(b)
	if !bytes.Equal(c, want) {
		t.Error("the answer looks at what was handed in")
	}
}

func ExampleAppend() {
	b, e := frame.Append(nil, api.Frame{Kind: 1, Body: []byte("x")})
	b, e2 := frame.Append(b, api.Frame{Kind: 2, Body: []byte("yz")})
	l, n, e3 := frame.Row(b)
	fmt.Println(e, e2, e3, len(l), n, string(l[1].Body))
	// Output: 0 0 0 2 27 yz
}
