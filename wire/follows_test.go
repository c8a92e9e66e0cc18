package wire_test

import (
	"bytes"
	"cmp"
	"strings"
	"testing"

	"bootprint/api"
	"bootprint/wire"
)

// P1.4

func TestWhatIsPutTogetherIsReadAgain(t *testing.T) {
	numbers := edgeNumbers()
	var b []byte
	for i, x := range numbers {
		b = wire.Number(b, x)
		b, _ = wire.Piece(b, scrambled(x, i))
		b = wire.Ordered(b, x)
	}
	r := wire.New(b)
	for i, x := range numbers {
		if got := r.Number(); got != x {
			t.Fatalf("number %d: %d, want %d", i, got, x)
		}
		if p := r.Piece(); !bytes.Equal(p, scrambled(x, i)) {
			t.Fatalf("piece %d: %v", i, p)
		}
		if got, n, e := wire.ReadOrdered(r.Fixed(8)); got != x || n != 8 || e != api.OK {
			t.Fatalf("number in order %d: %d, %d, %d", i, got, n, e)
		}
	}
	if r.End() != api.OK || r.At() != len(b) {
		t.Errorf("End %d, At %d", r.End(), r.At())
	}
}

func TestTextsInOrderAreReadAgain(t *testing.T) {
	for _, p := range allBytes(5, 0, 1, 2, 254, 255) {
		s := string(p)
		b := wire.OrderedText(nil, s)
		got, n, e := wire.ReadOrderedText(append(bytes.Clone(b), 0, 9))
		if got != s || n != len(b) || e != api.OK {
			t.Fatalf("%q: %q, %d, %d", s, got, n, e)
		}
		for n := range b {
			if got, n, e := wire.ReadOrderedText(b[:n]); got != "" || n != 0 || e != api.ErrMore {
				t.Fatalf("%q, cut: %q, %d, %d", s, got, n, e)
			}
		}
	}
}

func TestNothingElseIsRead(t *testing.T) {
	rows := allBytes(6, 0, 1, 2, 127, 128, 255)
	for c := range 1 << 16 {
		rows = append(rows, []byte{byte(c), byte(c >> 8)})
	}
	for _, b := range rows {
		r := wire.New(b)
		if x := r.Number(); r.End() == api.OK && !bytes.Equal(wire.Number(nil, x), b) {
			t.Fatalf("%v is read as the number %d", b, x)
		}
		r = wire.New(b)
		if p := r.Piece(); r.End() == api.OK {
			if again, _ := wire.Piece(nil, p); !bytes.Equal(again, b) {
				t.Fatalf("%v is read as the piece %v", b, p)
			}
		}
		s, n, e := wire.ReadOrderedText(b)
		if e == api.OK && !bytes.Equal(wire.OrderedText(nil, s), b[:n]) {
			t.Fatalf("%v is read as the text %q", b, s)
		}
	}
}

func TestNumbersAreCutNowhere(t *testing.T) {
	for _, x := range edgeNumbers() {
		b := wire.Number(nil, x)
		for n := range b {
			r := wire.New(b[:n])
			if got := r.Number(); got != 0 || r.Err() != api.ErrMore {
				t.Errorf("%d, cut to %d bytes: %d, %d", x, n, got, r.Err())
			}
		}
	}
}

func TestNumbersInOrder(t *testing.T) {
	numbers := edgeNumbers()
	for _, a := range numbers {
		for _, b := range numbers {
			got := bytes.Compare(wire.Ordered(nil, a), wire.Ordered(nil, b))
			if got != cmp.Compare(a, b) {
				t.Fatalf("%d and %d: %d", a, b, got)
			}
		}
	}
}

func TestTextsInOrder(t *testing.T) {
	texts := allBytes(3, 0, 1, 2, 97, 254, 255)
	ordered := make([][]byte, len(texts))
	for i, p := range texts {
		ordered[i] = wire.OrderedText(nil, string(p))
	}
	for i, a := range texts {
		for j, b := range texts {
			if bytes.Compare(ordered[i], ordered[j]) != strings.Compare(string(a), string(b)) {
				t.Fatalf("%q and %q in order", a, b)
			}
			if i != j && bytes.HasPrefix(ordered[j], ordered[i]) {
				t.Fatalf("%q in order is a first part of %q", a, b)
			}
		}
	}
}

func TestKeysAreInTheOrderOfTheirParts(t *testing.T) {
	type parts struct {
		s string
		x uint64
	}
	var l []parts
	for _, p := range allBytes(2, 0, 1, 255) {
		for _, x := range []uint64{0, 1, 255, 256, 1<<64 - 1} {
			l = append(l, parts{string(p), x})
		}
	}
	for _, a := range l {
		for _, b := range l {
			want := cmp.Or(strings.Compare(a.s, b.s), cmp.Compare(a.x, b.x))
			got := bytes.Compare(
				wire.Ordered(wire.OrderedText(nil, a.s), a.x),
				wire.Ordered(wire.OrderedText(nil, b.s), b.x))
			if got != want {
				t.Fatalf("%v and %v: %d, want %d", a, b, got, want)
			}
		}
	}
}

func TestAfterIsTheLeastAbove(t *testing.T) {
	keys := allBytes(4, 0, 1, 2, 254, 255)
	for _, p := range allBytes(3, 0, 1, 254, 255) {
		after, ok := wire.After(p)
		for _, k := range keys {
			within := bytes.HasPrefix(k, p)
			if within && bytes.Compare(k, p) < 0 {
				t.Fatalf("%v is below its first part %v", k, p)
			}
			between := bytes.Compare(k, p) >= 0 && (!ok || bytes.Compare(k, after) < 0)
			if within != between {
				t.Fatalf("%v: begins with %v %v, stands ahead of After %v", k, p, within, between)
			}
		}
	}
}
