package frame_test

import (
	"testing"

	"bootprint/api"
	"bootprint/frame"
)

// P3.3

// aheadOf tells how many frames end at the place or ahead of it, and where the
// last one of them does.
func aheadOf(ends []int, place int) (count, end int) {
	for _, x := range ends {
		if x <= place {
			count, end = count+1, x
		}
	}
	return count, end
}

func TestRowCutAnywhere(t *testing.T) {
	l := someFrames()
	b, ends := rowOf(t, l)
	for cut := range len(b) + 1 {
		count, end := aheadOf(ends, cut)
		want := api.ErrMore
		if end == cut {
			want = api.OK
		}
		checkRow(t, "a row cut", b[:cut:cut], l[:count], end, want)
		checkRow(t, "a row cut, the rest in spare room", b[:cut], l[:count], end, want)
	}
}

func TestRowOfLongFramesCut(t *testing.T) {
	l := []api.Frame{{Kind: 1, Body: scrambled(20, 300)}, {Kind: 2, Body: scrambled(21, 70000)}}
	b, ends := rowOf(t, l)
	for _, cut := range []int{0, 7, 8, 9, 311, 312, 313, 319, 320, 40000, len(b) - 5, len(b) - 1, len(b)} {
		count, end := aheadOf(ends, cut)
		want := api.ErrMore
		if end == cut {
			want = api.OK
		}
		checkRow(t, "a row of long frames cut", b[:cut], l[:count], end, want)
	}
}

func TestRowWithEachBitTurned(t *testing.T) {
	l := someFrames()
	b, ends := rowOf(t, l)
	for bit := range 8 * len(b) {
		count, end := aheadOf(ends, bit/8)
		checkRow(t, "a row with a bit turned", turned(b, bit), l[:count], end, api.ErrBad)
	}
}

func TestRowCutWithABitTurned(t *testing.T) {
	l := someFrames()[:3]
	b, ends := rowOf(t, l)
	for bit := range 8 * len(b) {
		for cut := bit/8 + 1; cut <= len(b); cut++ {
			count, end := aheadOf(ends, bit/8)
			told, n, e := frame.Row(turned(b, bit)[:cut])
			if !same(told, l[:count]) || n != end || e == api.OK {
				t.Fatalf("bit %d turned, cut at %d: %d frames, %d, %d; want %d, %d", bit, cut, len(told), n, e, count, end)
			}
		}
	}
}

func TestWhatIsPutTogetherIsReadAgain(t *testing.T) {
	for seed := range uint64(200) {
		var l []api.Frame
		for i := range int(seed % 9) {
			shape := scrambled(seed*16+uint64(i), 2)
			l = append(l, api.Frame{Kind: shape[0], Body: scrambled(seed+uint64(i), int(shape[1]))})
		}
		b, _ := rowOf(t, l)
		checkRow(t, "a row put together", b, l, len(b), api.OK)
		rest := b
		for _, f := range l {
			checkRead(t, "its next frame", rest, f.Kind, f.Body, frame.Size(len(f.Body)))
			rest = rest[frame.Size(len(f.Body)):]
		}
	}
}

func TestReadOfAnyBytesEnds(t *testing.T) {
	for seed := range uint64(2000) {
		b := scrambled(seed, int(seed%40))
		f, n, e := frame.Read(b)
		if e == api.OK || n != 0 || f.Kind != 0 || len(f.Body) != 0 {
			t.Errorf("Read of %d bytes of no frame: %d, %d", len(b), n, e)
		}
		l, n, e := frame.Row(b)
		if len(l) != 0 || n != 0 || (e == api.OK) != (len(b) == 0) {
			t.Errorf("Row of %d bytes of no frame: %d frames, %d, %d", len(b), len(l), n, e)
		}
	}
}
