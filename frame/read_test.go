package frame_test

import (
	"bytes"
	"testing"

	"bootprint/api"
	"bootprint/frame"
)

// P3.2, Read

func TestReadWhole(t *testing.T) {
	all := scrambled(4, api.MaxFrame)
	for _, n := range someLengths() {
		checkRead(t, "Read of a whole frame", byWords(6, all[:n]), 6, all[:n], n+12)
	}
}

func TestReadEachKind(t *testing.T) {
	for kind := range 256 {
		checkRead(t, "Read without Body", byWords(byte(kind), nil), byte(kind), nil, 12)
		checkRead(t, "Read with Body", byWords(byte(kind), []byte("b")), byte(kind), []byte("b"), 13)
	}
}

func TestReadWithBytesBehind(t *testing.T) {
	for _, n := range []int{0, 5, 300, api.MaxFrame} {
		body := scrambled(5, n)
		b := byWords(11, body)
		for _, behind := range [][]byte{{0}, {0xff}, []byte("more than one"), byWords(12, []byte("next")), scrambled(6, 1000)} {
			checkRead(t, "Read with bytes behind", together(b, behind), 11, body, n+12)
		}
	}
}

func TestReadOfFewBytes(t *testing.T) {
	checkRefused(t, "nil", nil, api.ErrMore)
	checkRefused(t, "no bytes", []byte{}, api.ErrMore)
	b := byWords(1, nil)
	for n := range len(b) {
		checkRefused(t, "a frame without Body, cut", b[:n:n], api.ErrMore)
	}
	// Less than 8 bytes are too few ahead of all else: also such as no frame begins with.
	for n := range 8 {
		checkRefused(t, "few bytes of no frame", bytes.Repeat([]byte{0xff}, n), api.ErrMore)
		checkRefused(t, "few bytes of too long a frame", headFor(1, 1<<24-1)[:n], api.ErrMore)
	}
}

func TestReadWithFirstSumWrong(t *testing.T) {
	b := byWords(1, []byte("body"))
	for bit := range 8 * 8 {
		checkRefused(t, "a bit of the head turned", turned(b, bit), api.ErrBad)
		checkRefused(t, "a bit of the head turned, nothing behind", turned(b, bit)[:8:8], api.ErrBad)
	}
	checkRefused(t, "8 bytes 0", make([]byte, 8), api.ErrBad)
	checkRefused(t, "8 bytes ff", bytes.Repeat([]byte{0xff}, 8), api.ErrBad)
	// The sum must be masked, and have its lowest byte first.
	head := headFor(1, 0)
	backward := together(head[:4], []byte{head[7], head[6], head[5], head[4]}, maskedSum(nil))
	checkRefused(t, "the sum's highest byte first", backward, api.ErrBad)
}

func TestReadFirstSumAheadOfLength(t *testing.T) {
	for _, length := range []int{api.MaxFrame + 1, 1<<24 - 1} {
		head := headFor(1, length)
		for bit := 32; bit < 64; bit++ {
			checkRefused(t, "a wrong sum of too long a frame", turned(head, bit), api.ErrBad)
		}
	}
}

func TestReadTooLong(t *testing.T) {
	for _, length := range []int{api.MaxFrame + 1, api.MaxFrame + 2, 1 << 21, 1 << 23, 1<<24 - 1} {
		head := headFor(0, length)
		checkRefused(t, "the head alone", head, api.ErrLong)
		checkRefused(t, "with some bytes behind", together(head, scrambled(7, 100)), api.ErrLong)
	}
	body := scrambled(8, api.MaxFrame+1)
	b := byWords(1, body)
	checkRefused(t, "too long, its bytes all there", b, api.ErrLong)
	checkRefused(t, "too long, without its last byte", b[:len(b)-1], api.ErrLong)
	checkRefused(t, "too long, its second sum wrong", turned(b, 8*len(b)-1), api.ErrLong)
}

func TestReadWithBytesMissing(t *testing.T) {
	for _, n := range []int{0, 1, 5, 200} {
		b := byWords(1, scrambled(9, n))
		for cut := range len(b) {
			checkRefused(t, "a frame cut", b[:cut:cut], api.ErrMore)
			// What is missing is not looked for in the spare room.
			checkRefused(t, "a frame cut, the rest in spare room", b[:cut], api.ErrMore)
		}
		// That bytes are missing comes ahead of a wrong byte among those there.
		for bit := 64; bit < 8*(len(b)-1); bit++ {
			checkRefused(t, "a frame cut with a bit turned", turned(b, bit)[:len(b)-1], api.ErrMore)
		}
	}
	long := byWords(1, scrambled(10, api.MaxFrame))
	for _, cut := range []int{8, 9, 1 << 16, len(long) - 5, len(long) - 4, len(long) - 1} {
		checkRefused(t, "the longest frame, cut", long[:cut], api.ErrMore)
	}
}

func TestReadWithSecondSumWrong(t *testing.T) {
	for _, n := range []int{0, 1, 5, 100} {
		b := byWords(1, scrambled(11, n))
		for bit := 64; bit < 8*len(b); bit++ {
			checkRefused(t, "a bit of the Body or its sum turned", turned(b, bit), api.ErrBad)
			checkRefused(t, "the same, with bytes behind", append(turned(b, bit), "behind"...), api.ErrBad)
		}
	}
	last := maskedSum([]byte("x"))
	backward := together(headFor(1, 1), []byte("x"), []byte{last[3], last[2], last[1], last[0]})
	checkRefused(t, "the sum's highest byte first", backward, api.ErrBad)
	checkRefused(t, "the sum of another Body", together(headFor(1, 1), []byte("y"), last), api.ErrBad)
}

// P3.2, Row

func TestRowWhole(t *testing.T) {
	checkRow(t, "nil", nil, nil, 0, api.OK)
	checkRow(t, "no bytes", []byte{}, nil, 0, api.OK)
	l := someFrames()
	for n := range len(l) + 1 {
		b, _ := rowOf(t, l[:n])
		checkRow(t, "a whole row", b, l[:n], len(b), api.OK)
	}
	long := []api.Frame{{Kind: 1, Body: scrambled(12, api.MaxFrame)}, {Kind: 2}, {Kind: 3, Body: scrambled(13, api.MaxFrame)}}
	b, _ := rowOf(t, long)
	checkRow(t, "a row with the longest frames", b, long, len(b), api.OK)
}

func TestRowOfManyFrames(t *testing.T) {
	var l []api.Frame
	var b []byte
	for i := range 3000 {
		f := api.Frame{Kind: byte(i), Body: scrambled(uint64(i), i%7)}
		l, b = append(l, f), append(b, byWords(f.Kind, f.Body)...)
	}
	checkRow(t, "a row of many frames", b, l, len(b), api.OK)
	checkRow(t, "without its last byte", b[:len(b)-1], l[:2999], len(b)-frame.Size(2999%7), api.ErrMore)
}

func TestRowTornWithEachError(t *testing.T) {
	one := []api.Frame{{Kind: 1, Body: []byte("one")}}
	first := byWords(1, []byte("one"))
	next := byWords(2, []byte("next"))
	for _, c := range []struct {
		name   string
		behind []byte
		want   api.Errno
	}{
		{"one byte", []byte{0}, api.ErrMore},
		{"7 bytes", make([]byte, 7), api.ErrMore},
		{"8 bytes 0", make([]byte, 8), api.ErrBad},
		{"a head with a bit turned", turned(next, 9), api.ErrBad},
		{"too long a frame", headFor(1, api.MaxFrame+1), api.ErrLong},
		{"a frame without its last byte", next[:len(next)-1], api.ErrMore},
		{"a frame with a bit of its Body turned", turned(next, 8*9), api.ErrBad},
		{"a frame with a bit of its last sum turned", turned(next, 8*len(next)-1), api.ErrBad},
	} {
		checkRow(t, c.name+" first", c.behind, nil, 0, c.want)
		checkRow(t, c.name+" second", together(first, c.behind), one, len(first), c.want)
	}
	// What stands behind the place where it is torn is not told.
	for _, torn := range [][]byte{turned(next, 9), turned(next, 8*9), headFor(1, api.MaxFrame+1)} {
		_, _, e := frame.Read(torn)
		checkRow(t, "a frame behind a torn one", together(first, torn, next), one, len(first), e)
	}
}

func TestRowTellsWhatReadTells(t *testing.T) {
	b, ends := rowOf(t, someFrames())
	for n := range len(b) {
		l, place, e := frame.Row(b[n:])
		f, size, readE := frame.Read(b[n:])
		if readE != api.OK && (len(l) != 0 || place != 0 || e != readE) {
			t.Errorf("Row from %d: %d frames, %d, %d; Read tells %d", n, len(l), place, e, readE)
		}
		if readE == api.OK && (len(l) == 0 || !same(l[:1], []api.Frame{f}) || place < size) {
			t.Errorf("Row from %d does not begin with what Read tells", n)
		}
	}
	if ends[len(ends)-1] != len(b) {
		t.Errorf("the last frame ends at %d of %d", ends[len(ends)-1], len(b))
	}
}

// The chapter's examples

func TestExamplesOfTheChapter(t *testing.T) {
	if frame.Size(0) != 12 || frame.Size(5) != 17 {
		t.Errorf("Size of 0: %d; of 5: %d", frame.Size(0), frame.Size(5))
	}
	b, _ := frame.Append(nil, api.Frame{Kind: 4, Body: []byte("whole")})
	checkRead(t, "Read of a whole frame with a byte behind", append(bytes.Clone(b), 0), 4, []byte("whole"), 17)
	checkRefused(t, "Read of 7 bytes", b[:7], api.ErrMore)
	checkRefused(t, "Read of a frame without its last byte", b[:16], api.ErrMore)
	c, _ := frame.Append(b, api.Frame{Kind: 5, Body: []byte("second")})
	first := []api.Frame{{Kind: 4, Body: []byte("whole")}}
	for bit := 8 * (17 + 8); bit < 8*(17+8+6); bit++ {
		checkRow(t, "Row of two frames, a bit turned in the second Body", turned(c, bit), first, 17, api.ErrBad)
	}
}

// Rule 4

func TestAnswersAreNewMemory(t *testing.T) {
	want := someFrames()
	row, _ := rowOf(t, want)
	whole := append(bytes.Clone(row), bytes.Repeat([]byte{0xee}, 100)...)
	before := bytes.Clone(whole)
	l, _, _ := frame.Row(whole[:len(row)])
	again, _, _ := frame.Row(whole[:len(row)])
	f, _, _ := frame.Read(whole[:len(row)])
	if !bytes.Equal(whole, before) {
		t.Fatal("what was handed in is changed")
	}
	for i := range l {
		room := l[i].Body[:cap(l[i].Body)]
		for j := range room {
			room[j] ^= 0x55
		}
		if !bytes.Equal(whole, before) {
			t.Fatalf("Body %d shares memory with what was handed in", i)
		}
		if !same(l[i+1:], want[i+1:]) || !same(again, want) || !same([]api.Frame{f}, want[:1]) {
			t.Fatalf("Body %d shares memory with another", i)
		}
	}
	frames := l[:cap(l)]
	clear(frames)
	clear(whole)
	if !same(again, want) || !same([]api.Frame{f}, want[:1]) {
		t.Error("answers look at what was handed in, or at another answer")
	}
}

func TestReadKeepsNothing(t *testing.T) {
	a, b := byWords(1, []byte("a")), byWords(2, []byte("b"))
	for range 3 {
		checkRead(t, "a", a, 1, []byte("a"), 13)
		checkRefused(t, "a torn", a[:12], api.ErrMore)
		checkRead(t, "b", b, 2, []byte("b"), 13)
		checkRefused(t, "b torn", turned(b, 64), api.ErrBad)
	}
}
