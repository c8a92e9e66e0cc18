package version

import (
	"bootprint/api"
	"bootprint/wire"
)

// greatestRead is the greatest number that Parse takes: an int has room for it.
const greatestRead = 1 << 62

// Parse answers the edit whose bytes p is.
func Parse(p []byte) (api.Edit, api.Errno) {
	r := &reader{Reader: wire.New(p)}
	options := []option{numbered(r.number(), r.number(), r.number())}
	for range r.count() {
		options = append(options, dropping(r.integer(), r.number()))
	}
	for range r.count() {
		options = append(options, adding(r.integer(), r.file()))
	}
	if err := r.end(); err != api.OK {
		return api.Edit{}, err
	}
	return editOf(options...), api.OK
}

// reader goes over an edit's bytes, and notes the first fault. Behind it what
// is read counts for nothing.
type reader struct {
	*wire.Reader
	fault api.Errno
}

func (r *reader) note(e api.Errno) {
	if r.fault == api.OK {
		r.fault = e
	}
}

func (r *reader) number() uint64 {
	x := r.Number()
	r.note(r.Err())
	if x > greatestRead {
		r.note(api.ErrBad)
		return 0
	}
	return x
}

func (r *reader) integer() int {
	return int(r.number())
}

// count goes over how many drops or adds there are; none behind a fault.
func (r *reader) count() int {
	n := r.integer()
	if n > api.MaxFiles {
		r.note(api.ErrLong)
	}
	if r.fault != api.OK {
		return 0
	}
	return n
}

func (r *reader) piece() []byte {
	p := r.Piece()
	r.note(r.Err())
	return p
}

func (r *reader) file() api.File {
	return api.File{
		Number:  r.number(),
		Size:    r.integer(),
		Entries: r.integer(),
		MostSeq: r.number(),
		Least:   r.piece(),
		Most:    r.piece(),
	}
}

// end answers the first fault, or that bytes are left.
func (r *reader) end() api.Errno {
	r.note(r.End())
	return r.fault
}
