package wire_test

import (
	"bytes"
	"testing"

	"bootprint/api"
	"bootprint/wire"
)

// P1.1

func TestNumberAsTold(t *testing.T) {
	for _, c := range []struct {
		x    uint64
		want []byte
	}{
		{0, []byte{0}},
		{1, []byte{1}},
		{127, []byte{127}},
		{128, []byte{128, 1}},
		{130, []byte{130, 1}},
		{300, []byte{172, 2}},
		{1<<14 - 1, []byte{255, 127}},
		{1 << 14, []byte{128, 128, 1}},
		{1<<63 - 1, []byte{255, 255, 255, 255, 255, 255, 255, 255, 127}},
		{1 << 63, []byte{128, 128, 128, 128, 128, 128, 128, 128, 128, 1}},
		{1<<64 - 1, []byte{255, 255, 255, 255, 255, 255, 255, 255, 255, 1}},
	} {
		if b := wire.Number(nil, c.x); !bytes.Equal(b, c.want) {
			t.Errorf("Number of %d: %v, want %v", c.x, b, c.want)
		}
		want := append([]byte("ab"), c.want...)
		if b := wire.Number([]byte("ab"), c.x); !bytes.Equal(b, want) {
			t.Errorf("Number of %d behind ab: %v, want %v", c.x, b, want)
		}
	}
}

func TestNumberHasSevenBitsAByte(t *testing.T) {
	for _, x := range edgeNumbers() {
		b := wire.Number(nil, x)
		sum := uint64(0)
		for i, c := range b {
			if (c >= 128) != (i < len(b)-1) {
				t.Errorf("Number of %d: byte %d of %v", x, i, b)
			}
			sum += uint64(c%128) << (7 * i)
		}
		if sum != x || len(b) > 10 || len(b) > 1 && b[len(b)-1] == 0 {
			t.Errorf("Number of %d: %v", x, b)
		}
	}
}

func TestSize(t *testing.T) {
	for i := range 10 {
		least := uint64(1) << (7 * i)
		if i == 0 {
			least = 0
		}
		if n := wire.Size(least); n != i+1 {
			t.Errorf("Size of %d: %d, want %d", least, n, i+1)
		}
		if n := wire.Size(least - 1); i > 0 && n != i {
			t.Errorf("Size of %d: %d, want %d", least-1, n, i)
		}
	}
	for _, x := range edgeNumbers() {
		if wire.Size(x) != len(wire.Number(nil, x)) {
			t.Errorf("Size of %d: %d", x, wire.Size(x))
		}
	}
}

func TestPiece(t *testing.T) {
	for _, c := range []struct {
		b, p string
		head []byte
	}{
		{"", "", []byte{0}},
		{"x", "", []byte{0}},
		{"", "\x00", []byte{1}},
		{"xy", "abc", []byte{3}},
		{"", string(bytes.Repeat([]byte{255}, 127)), []byte{127}},
		{"", string(bytes.Repeat([]byte{7}, 128)), []byte{128, 1}},
	} {
		want := append(append([]byte(c.b), c.head...), c.p...)
		b, e := wire.Piece([]byte(c.b), []byte(c.p))
		if e != api.OK || !bytes.Equal(b, want) {
			t.Errorf("Piece of %q behind %q: %v, %d", c.p, c.b, b, e)
		}
	}
	if b, e := wire.Piece(nil, nil); e != api.OK || !bytes.Equal(b, []byte{0}) {
		t.Errorf("Piece of nothing: %v, %d", b, e)
	}
}

func TestLongestPiece(t *testing.T) {
	p := scrambled(1, api.MaxPiece)
	b, e := wire.Piece([]byte("x"), p)
	want := append([]byte{'x', 128, 128, 64}, p...)
	if e != api.OK || !bytes.Equal(b, want) {
		t.Errorf("a piece of MaxPiece bytes: %d bytes, %d", len(b), e)
	}
	b, e = wire.Piece([]byte("x"), append(p, 0))
	if e != api.ErrLong || len(b) != 0 {
		t.Errorf("a piece of one byte more: %d bytes, %d", len(b), e)
	}
}

func TestPuttingTogetherKeepsWhatWasHandedIn(t *testing.T) {
	calls := map[string]func(b []byte) []byte{
		"Number":      func(b []byte) []byte { return wire.Number(b, 1<<64-1) },
		"Ordered":     func(b []byte) []byte { return wire.Ordered(b, 258) },
		"OrderedText": func(b []byte) []byte { return wire.OrderedText(b, "a\x00b") },
		"Piece": func(b []byte) []byte {
			l, _ := wire.Piece(b, []byte("piece"))
			return l
		},
		"After": func(b []byte) []byte {
			l, _ := wire.After(b)
			return l
		},
	}
	for name, call := range calls {
		for _, text := range []string{"", "abc", "ab\xff"} {
			head, whole := withRoom(text)
			before := bytes.Clone(whole)
			first, second := call(head), call(head)
			kept := bytes.Clone(second)
			checkOwn(t, name, whole, before, first)
			if !bytes.Equal(second, kept) {
				t.Errorf("%s: two answers share memory", name)
			}
		}
	}
}

func TestPieceIsCopied(t *testing.T) {
	head, whole := withRoom("piece")
	before := bytes.Clone(whole)
	b, _ := wire.Piece(nil, head)
	checkOwn(t, "Piece", whole, before, b)
	// Both arguments may be the same memory.
	if b, e := wire.Piece(head, head); e != api.OK || string(b) != "piece\x05piece" {
		t.Errorf("Piece of a behind a: %q, %d", b, e)
	}
}
