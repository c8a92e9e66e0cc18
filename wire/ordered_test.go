package wire_test

import (
	"bytes"
	"testing"

	"bootprint/api"
	"bootprint/wire"
)

// P1.3

func TestOrderedAsTold(t *testing.T) {
	for _, c := range []struct {
		b    string
		x    uint64
		want []byte
	}{
		{"", 0, make([]byte, 8)},
		{"", 258, []byte{0, 0, 0, 0, 0, 0, 1, 2}},
		{"k", 0x0102030405060708, []byte{'k', 1, 2, 3, 4, 5, 6, 7, 8}},
		{"", 1<<64 - 1, bytes.Repeat([]byte{255}, 8)},
	} {
		if b := wire.Ordered([]byte(c.b), c.x); !bytes.Equal(b, c.want) {
			t.Errorf("Ordered of %d behind %q: %v", c.x, c.b, b)
		}
	}
}

func TestOrderedTextAsTold(t *testing.T) {
	for _, c := range []struct {
		b, s string
		want []byte
	}{
		{"", "", []byte{0, 1}},
		{"k", "", []byte{'k', 0, 1}},
		{"", "a\x00b", []byte{97, 0, 255, 98, 0, 1}},
		{"", "\x00", []byte{0, 255, 0, 1}},
		{"", "\x00\x00", []byte{0, 255, 0, 255, 0, 1}},
		{"", "\x00\x01", []byte{0, 255, 1, 0, 1}},
		{"k", "\xff\x00\xff", []byte{'k', 255, 0, 255, 255, 0, 1}},
		{"", "\u00e9", []byte{195, 169, 0, 1}},
	} {
		if b := wire.OrderedText([]byte(c.b), c.s); !bytes.Equal(b, c.want) {
			t.Errorf("OrderedText of %q behind %q: %v", c.s, c.b, b)
		}
	}
}

func TestReadOrdered(t *testing.T) {
	for _, x := range edgeNumbers() {
		b := wire.Ordered(nil, x)
		for _, behind := range []string{"", "\x00", "behind"} {
			got, n, e := wire.ReadOrdered(append(bytes.Clone(b), behind...))
			if got != x || n != 8 || e != api.OK {
				t.Errorf("ReadOrdered of %d: %d, %d, %d", x, got, n, e)
			}
		}
	}
	for n := range 8 {
		if x, n, e := wire.ReadOrdered(bytes.Repeat([]byte{255}, n)); x != 0 || n != 0 || e != api.ErrMore {
			t.Errorf("ReadOrdered of too few: %d, %d, %d", x, n, e)
		}
	}
	if x, n, e := wire.ReadOrdered(make([]byte, 7, 8)); x != 0 || n != 0 || e != api.ErrMore {
		t.Errorf("ReadOrdered takes spare room: %d, %d, %d", x, n, e)
	}
}

func TestReadOrderedText(t *testing.T) {
	for _, c := range []struct {
		b []byte
		s string
		n int
		e api.Errno
	}{
		{[]byte{0, 1}, "", 2, api.OK},
		{[]byte{0, 1, 0, 1}, "", 2, api.OK},
		{[]byte{97, 0, 255, 98, 0, 1}, "a\x00b", 6, api.OK},
		{[]byte{97, 0, 255, 98, 0, 1, 7}, "a\x00b", 6, api.OK},
		{[]byte{255, 0, 255, 0, 255, 1, 0, 1, 0}, "\xff\x00\x00\x01", 8, api.OK},
		{[]byte{97, 0, 1, 0, 7}, "a", 3, api.OK},
		{nil, "", 0, api.ErrMore},
		{[]byte{97}, "", 0, api.ErrMore},
		{[]byte{97, 0}, "", 0, api.ErrMore},
		{[]byte{97, 0, 255}, "", 0, api.ErrMore},
		{[]byte{0, 255, 0}, "", 0, api.ErrMore},
		{[]byte{0, 0}, "", 0, api.ErrBad},
		{[]byte{0, 2}, "", 0, api.ErrBad},
		{[]byte{0, 254}, "", 0, api.ErrBad},
		{[]byte{97, 0, 7, 0, 1}, "", 0, api.ErrBad},
		{[]byte{97, 0, 255, 0, 0, 1}, "", 0, api.ErrBad},
	} {
		s, n, e := wire.ReadOrderedText(c.b)
		if s != c.s || n != c.n || e != c.e {
			t.Errorf("ReadOrderedText of %v: %q, %d, %d", c.b, s, n, e)
		}
	}
	if s, n, e := wire.ReadOrderedText([]byte{97, 0, 1}[:2]); s != "" || n != 0 || e != api.ErrMore {
		t.Errorf("ReadOrderedText takes spare room: %q, %d, %d", s, n, e)
	}
}

func TestZeroStandsAheadOf255And1Alone(t *testing.T) {
	for c := range 256 {
		want := api.ErrBad
		switch c {
		case 1:
			want = api.OK
		case 255:
			want = api.ErrMore
		}
		if _, _, e := wire.ReadOrderedText([]byte{'a', 0, byte(c)}); e != want {
			t.Errorf("0 %d: %d, want %d", c, e, want)
		}
	}
}

func TestReadingKeepsWhatWasHandedIn(t *testing.T) {
	b := wire.OrderedText(nil, "a\x00b")
	before := bytes.Clone(b)
	s, _, _ := wire.ReadOrderedText(b)
	if !bytes.Equal(b, before) {
		t.Error("ReadOrderedText changed what was handed in")
	}
	clear(b)
	if s != "a\x00b" {
		t.Errorf("the text is what was handed in: %q", s)
	}
	b = wire.Ordered(nil, 258)
	before = bytes.Clone(b)
	wire.ReadOrdered(b)
	if !bytes.Equal(b, before) {
		t.Error("ReadOrdered changed what was handed in")
	}
}

func TestAfterAsTold(t *testing.T) {
	for _, c := range []struct {
		p, want []byte
	}{
		{[]byte{0}, []byte{1}},
		{[]byte{254}, []byte{255}},
		{[]byte{1, 255}, []byte{2}},
		{[]byte{1, 255, 255}, []byte{2}},
		{[]byte{255, 0}, []byte{255, 1}},
		{[]byte{255, 7, 255}, []byte{255, 8}},
		{[]byte{1, 2, 3}, []byte{1, 2, 4}},
	} {
		if b, ok := wire.After(c.p); !ok || !bytes.Equal(b, c.want) {
			t.Errorf("After of %v: %v, %v", c.p, b, ok)
		}
	}
	for _, p := range [][]byte{nil, {}, {255}, {255, 255, 255}} {
		if b, ok := wire.After(p); ok || len(b) != 0 {
			t.Errorf("After of %v: %v, %v", p, b, ok)
		}
	}
}
