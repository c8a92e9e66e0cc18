package span

import (
	"cmp"

	"bootprint/api"
	"bootprint/wire"
)

// Parse answers the span whose bytes b is.
func Parse(b []byte) (api.Span, api.Errno) {
	r := &reader{Reader: wire.New(b)}
	s := r.span()
	if e := cmp.Or(r.end(), Check(s)); e != api.OK {
		return api.Span{}, e
	}
	return s, api.OK
}

// reader goes over a span's bytes, and notes the first fault. Behind it what is
// read counts for nothing.
type reader struct {
	*wire.Reader
	fault  api.Errno
	beyond bool // a Start or a Length is above MaxTime
}

// refuse notes that what was read last may not stand there, unless there was a
// fault ahead.
func (r *reader) refuse() {
	r.fault = cmp.Or(r.fault, r.Err(), api.ErrBad)
}

// span goes over all fields, in the order of their bytes.
func (r *reader) span() api.Span {
	return api.Span{
		Trace:   api.Trace{Hi: r.fixed(), Lo: r.fixed()},
		ID:      r.fixed(),
		Parent:  r.fixed(),
		Service: r.text(),
		Name:    r.text(),
		Kind:    int(r.one()),
		Start:   r.time(),
		Length:  r.time(),
		Fails:   r.fails(),
		Tags:    r.tags(),
	}
}

func (r *reader) fixed() uint64 {
	// Of too few bytes it is 0, and the reader has the error.
	x, _, _ := wire.ReadOrdered(r.Fixed(fixedSize))
	return x
}

func (r *reader) text() string {
	return string(r.Piece())
}

func (r *reader) one() byte {
	for _, c := range r.Fixed(1) {
		return c
	}
	return 0
}

// time only marks a number that is too great: the order of the faults has it
// behind those of the tags.
func (r *reader) time() int64 {
	x := r.Number()
	if x > api.MaxTime {
		r.beyond = true
	}
	return int64(x)
}

func (r *reader) fails() bool {
	c := r.one()
	if c > 1 {
		r.refuse()
	}
	return c == 1
}

func (r *reader) tags() []api.Tag {
	n := r.Number()
	if n > api.MaxTags {
		r.refuse()
		return nil
	}
	var l []api.Tag
	for range n {
		l = append(l, api.Tag{Key: r.text(), Value: r.text()})
	}
	return l
}

// end answers the first fault, or that bytes are left.
func (r *reader) end() api.Errno {
	if r.beyond {
		r.refuse()
	}
	return cmp.Or(r.fault, r.End())
}
