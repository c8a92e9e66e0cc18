package wire_test

import (
	"bytes"
	"math"
	"testing"

	"bootprint/api"
	"bootprint/wire"
)

// P1.2

func TestReaderGoesOver(t *testing.T) {
	b := wire.Number([]byte("head"), 300)
	b, _ = wire.Piece(b, []byte("piece"))
	b, _ = wire.Piece(b, nil)
	b = append(b, 9)
	r := wire.New(b)
	checkReader(t, "New", r, 0, 14, api.OK)
	if p := r.Fixed(4); string(p) != "head" {
		t.Errorf("Fixed: %q", p)
	}
	checkReader(t, "Fixed", r, 4, 10, api.OK)
	if x := r.Number(); x != 300 {
		t.Errorf("Number: %d", x)
	}
	checkReader(t, "Number", r, 6, 8, api.OK)
	if p := r.Piece(); string(p) != "piece" {
		t.Errorf("Piece: %q", p)
	}
	checkReader(t, "Piece", r, 12, 2, api.OK)
	if p := r.Piece(); len(p) != 0 {
		t.Errorf("Piece of nothing: %q", p)
	}
	checkReader(t, "Piece of nothing", r, 13, 1, api.OK)
	if e := r.End(); e != api.ErrBad {
		t.Errorf("End ahead of the end: %d", e)
	}
	checkReader(t, "End", r, 13, 1, api.OK)
	if x := r.Number(); x != 9 || r.End() != api.OK {
		t.Errorf("behind End: %d, End %d", x, r.End())
	}
	checkReader(t, "the end", r, 14, 0, api.OK)
}

func TestReaderOfNothing(t *testing.T) {
	for _, b := range [][]byte{nil, {}} {
		r := wire.New(b)
		checkReader(t, "New", r, 0, 0, api.OK)
		if p := r.Fixed(0); len(p) != 0 || r.End() != api.OK {
			t.Errorf("Fixed(0): %v, End %d", p, r.End())
		}
		if x := r.Number(); x != 0 || r.End() != api.ErrMore {
			t.Errorf("Number: %d, End %d", x, r.End())
		}
	}
}

func TestNumberErrors(t *testing.T) {
	tenth := func(last ...byte) []byte {
		return append(bytes.Repeat([]byte{255}, 9), last...)
	}
	zeros := func(n int, last ...byte) []byte {
		return append(bytes.Repeat([]byte{128}, n), last...)
	}
	for _, c := range []struct {
		name string
		b    []byte
		want api.Errno
	}{
		{"nothing", nil, api.ErrMore},
		{"cut short", []byte{128}, api.ErrMore},
		{"cut short", []byte{255, 255}, api.ErrMore},
		{"cut ahead of the tenth", tenth(), api.ErrMore},
		{"cut ahead of the tenth", zeros(9), api.ErrMore},
		{"needless", []byte{128, 0}, api.ErrBad},
		{"needless, and more", []byte{255, 0, 1}, api.ErrBad},
		{"needless third", []byte{255, 255, 0}, api.ErrBad},
		{"needless tenth", tenth(0), api.ErrBad},
		{"needless tenth", zeros(9, 0), api.ErrBad},
		{"too great", tenth(2), api.ErrBad},
		{"too great", tenth(127), api.ErrBad},
		{"too great", zeros(9, 2), api.ErrBad},
		{"too many, and more", zeros(10, 1), api.ErrBad},
		{"too many, and more", tenth(129, 0), api.ErrBad},
		{"too many", zeros(10), api.ErrBad},
		{"too many", tenth(255), api.ErrBad},
		{"far too many", zeros(100), api.ErrBad},
	} {
		r := wire.New(c.b)
		if x := r.Number(); x != 0 {
			t.Errorf("%s: Number %d", c.name, x)
		}
		checkReader(t, c.name, r, 0, len(c.b), c.want)
		r = wire.New(c.b)
		if p := r.Piece(); len(p) != 0 {
			t.Errorf("%s: Piece %v", c.name, p)
		}
		checkReader(t, c.name+" as a length", r, 0, len(c.b), c.want)
	}
	r := wire.New(tenth(1))
	if x := r.Number(); x != 1<<64-1 || r.End() != api.OK {
		t.Errorf("the greatest: %d, %d", x, r.End())
	}
}

func TestPieceErrors(t *testing.T) {
	long := func(length uint64, n int) []byte {
		return append(wire.Number(nil, length), make([]byte, n)...)
	}
	for _, c := range []struct {
		name string
		b    []byte
		want api.Errno
	}{
		{"no bytes", []byte{1}, api.ErrMore},
		{"a byte too few", []byte{3, 'a', 'b'}, api.ErrMore},
		{"the longest without bytes", long(api.MaxPiece, 0), api.ErrMore},
		{"the longest, a byte too few", long(api.MaxPiece, api.MaxPiece-1), api.ErrMore},
		{"too long without bytes", long(api.MaxPiece+1, 0), api.ErrLong},
		{"too long with all bytes", long(api.MaxPiece+1, api.MaxPiece+1), api.ErrLong},
		{"2^63", long(1<<63, 9), api.ErrLong},
		{"2^64 - 1", long(1<<64-1, 9), api.ErrLong},
	} {
		r := wire.New(c.b)
		if p := r.Piece(); len(p) != 0 {
			t.Errorf("%s: %d bytes", c.name, len(p))
		}
		checkReader(t, c.name, r, 0, len(c.b), c.want)
	}
	p := scrambled(2, api.MaxPiece)
	b, _ := wire.Piece(nil, p)
	r := wire.New(b)
	if !bytes.Equal(r.Piece(), p) || r.End() != api.OK {
		t.Errorf("the longest: End %d", r.End())
	}
}

func TestFixedEdges(t *testing.T) {
	for _, c := range []struct {
		n    int
		want string
		left int
		e    api.Errno
	}{
		{0, "", 3, api.OK},
		{1, "a", 2, api.OK},
		{3, "abc", 0, api.OK},
		{4, "", 3, api.ErrMore},
		{math.MaxInt, "", 3, api.ErrMore},
		{-1, "", 3, api.ErrBad},
		{math.MinInt, "", 3, api.ErrBad},
	} {
		r := wire.New([]byte("abc"))
		if p := r.Fixed(c.n); string(p) != c.want {
			t.Errorf("Fixed(%d): %q", c.n, p)
		}
		checkReader(t, "Fixed", r, 3-c.left, c.left, c.e)
	}
	r := wire.New([]byte("abc"))
	r.Fixed(1)
	if p := r.Fixed(math.MaxInt); len(p) != 0 || r.Err() != api.ErrMore {
		t.Errorf("Fixed of very many in the midst: %q, %d", p, r.Err())
	}
}

func TestFirstErrorStays(t *testing.T) {
	wrong := map[api.Errno]func(r *wire.Reader){
		api.ErrMore: func(r *wire.Reader) { r.Fixed(100) },
		api.ErrBad:  func(r *wire.Reader) { r.Fixed(-1) },
		api.ErrLong: func(r *wire.Reader) { r.Piece() },
	}
	// Behind the first byte stands the length 2^21 - 1: as a number it is right, as a piece's it is too long.
	b := []byte{5, 255, 255, 127, 1, 'a'}
	for e, call := range wrong {
		r := wire.New(b)
		if r.Number() != 5 {
			t.Fatal("the first number")
		}
		call(r)
		for range 2 {
			checkReader(t, "wrong", r, 1, 5, e)
			for _, n := range []int{-1, 0, 1, 100} {
				if p := r.Fixed(n); len(p) != 0 {
					t.Errorf("Fixed(%d) behind %d: %v", n, e, p)
				}
			}
			if x, p := r.Number(), r.Piece(); x != 0 || len(p) != 0 {
				t.Errorf("behind %d: %d, %v", e, x, p)
			}
			if r.End() != e {
				t.Errorf("End behind %d: %d", e, r.End())
			}
		}
	}
}

func TestEnd(t *testing.T) {
	for _, c := range []struct {
		b    string
		take int
		want api.Errno
	}{{"", 0, api.OK}, {"a", 0, api.ErrBad}, {"ab", 1, api.ErrBad}, {"ab", 2, api.OK}, {"ab", 3, api.ErrMore}} {
		r := wire.New([]byte(c.b))
		r.Fixed(c.take)
		if r.End() != c.want || r.End() != c.want {
			t.Errorf("End of %q behind %d: %d, want %d", c.b, c.take, r.End(), c.want)
		}
	}
}

func TestReaderThatNobodyMade(t *testing.T) {
	for name, r := range map[string]*wire.Reader{"nil": nil, "zero": {}} {
		for range 2 {
			checkReader(t, name, r, 0, 0, api.ErrNil)
			if r.End() != api.ErrNil {
				t.Errorf("%s: End %d", name, r.End())
			}
			if x, p := r.Number(), r.Piece(); x != 0 || len(p) != 0 {
				t.Errorf("%s: %d, %v", name, x, p)
			}
			for _, n := range []int{-1, 0, 1} {
				if p := r.Fixed(n); len(p) != 0 {
					t.Errorf("%s: Fixed(%d) %v", name, n, p)
				}
			}
		}
	}
}

func TestReaderHasItsOwnMemory(t *testing.T) {
	head, whole := withRoom("\x02ab\x02cd")
	before := bytes.Clone(whole)
	r := wire.New(head)
	if r.Left() != 6 {
		t.Errorf("spare room is read: %d", r.Left())
	}
	clear(whole)
	first := r.Piece()
	if string(first) != "ab" {
		t.Errorf("what was handed in is looked at later: %q", first)
	}
	copy(whole, before)
	checkOwn(t, "Piece", whole, before, first)
	second := r.Piece()
	if string(second) != "cd" {
		t.Errorf("an answer is the reader's memory: %q", second)
	}

	r = wire.New([]byte("abcd"))
	first, second = r.Fixed(2), r.Fixed(2)
	clear(first[:cap(first)])
	if string(second) != "cd" {
		t.Errorf("two answers share memory: %q", second)
	}
	r, again := wire.New([]byte("ab")), wire.New([]byte("ab"))
	r.Fixed(2)
	checkReader(t, "another reader", again, 0, 2, api.OK)
}
