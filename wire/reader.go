package wire

import (
	"bytes"

	"bootprint/api"
)

// row is bytes, of which the first so many are gone over.
type row struct {
	bytes []byte
	gone  int
}

func (w *row) rest() []byte {
	return w.bytes[w.gone:]
}

func (w *row) left() int {
	return len(w.bytes) - w.gone
}

func (w *row) skip(n int) {
	w.gone += n
}

// take goes over n bytes, and answers them in new memory: a row stays as it
// is, whatever becomes of its answers.
func (w *row) take(n int) []byte {
	taken := bytes.Clone(w.rest()[:n])
	w.skip(n)
	return taken
}

// Reader goes over bytes from the left, till the first call that is wrong.
type Reader struct {
	row
	made bool // by New
	err  api.Errno
}

// New answers a reader of b's bytes.
func New(b []byte) *Reader {
	return &Reader{row: row{bytes: bytes.Clone(b)}, made: true}
}

// Number goes over a short number.
func (r *Reader) Number() uint64 {
	if !r.ready() {
		return 0
	}
	x, n, e := readShort(r.rest())
	if e != api.OK {
		r.err = e
		return 0
	}
	r.skip(n)
	return x
}

// Piece goes over a piece, and answers its bytes.
func (r *Reader) Piece() []byte {
	if !r.ready() {
		return nil
	}
	length, n, e := readShort(r.rest())
	switch {
	case e != api.OK:
		r.err = e
	case length > api.MaxPiece:
		r.err = api.ErrLong
	case int(length) > r.left()-n:
		r.err = api.ErrMore
	default:
		r.skip(n)
		return r.take(int(length))
	}
	return nil
}

// Fixed goes over n bytes, and answers them.
func (r *Reader) Fixed(n int) []byte {
	if !r.ready() {
		return nil
	}
	switch {
	case n < 0:
		r.err = api.ErrBad
	case n > r.left():
		r.err = api.ErrMore
	default:
		return r.take(n)
	}
	return nil
}

// Left answers how many bytes are not gone over.
func (r *Reader) Left() int {
	if !r.isMade() {
		return 0
	}
	return r.left()
}

// At answers how many bytes are gone over.
func (r *Reader) At() int {
	if !r.isMade() {
		return 0
	}
	return r.gone
}

// Err answers the error of the first call that was wrong.
func (r *Reader) Err() api.Errno {
	if !r.isMade() {
		return api.ErrNil
	}
	return r.err
}

// End answers Err's error, or that bytes are left. That is told, not noted:
// a reader may go on behind it.
func (r *Reader) End() api.Errno {
	if e := r.Err(); e != api.OK {
		return e
	}
	if r.left() > 0 {
		return api.ErrBad
	}
	return api.OK
}

func (r *Reader) isMade() bool {
	return r != nil && r.made
}

func (r *Reader) ready() bool {
	return r.isMade() && r.err == api.OK
}
