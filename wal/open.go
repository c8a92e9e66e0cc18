package wal

import (
	"bytes"
	"iter"

	"bootprint/api"
	"bootprint/frame"
	"bootprint/vfs"
	"bootprint/wire"
)

// Open reads the log of a file system, and mends what a crash has left of its
// last segment. It answers the log, and all records, in order.
func Open(f *vfs.Fs) (*Log, []api.LogRecord, api.Errno) {
	if isNone(f) {
		return nil, nil, api.ErrNil
	}
	o := &opening{disk: f}
	steps := []func() api.Errno{o.find, o.read, o.mend}
	if e := inTurn(steps...); e != api.OK {
		return nil, nil, e
	}
	var records []api.LogRecord
	for number, body := range o.records() {
		records = append(records, api.LogRecord{Segment: number, Body: body})
	}
	return o.log(), records, api.OK
}

// opening is a log that is being opened.
type opening struct {
	disk     *vfs.Fs
	segments []segment // rising
}

// segment is what is known of one.
type segment struct {
	number uint64
	row    []byte      // its bytes, as far as they are whole, if it is to be written anew
	frames []api.Frame // of these bytes
	torn   bool        // whether its end is missing
}

// find finds the segments. Their names have one length: they rise as the
// numbers do.
func (o *opening) find() api.Errno {
	for _, name := range o.disk.Names() {
		if number, ok := ParseName(name); ok {
			o.segments = append(o.segments, segment{number: number})
		}
	}
	return api.OK
}

// read reads each segment, the lowest first. A crash cuts no other one than the
// last.
func (o *opening) read() api.Errno {
	for i := range o.segments {
		s := &o.segments[i]
		name := Name(s.number)
		b, e := o.disk.Read(name, 0, o.disk.Size(name))
		if e != api.OK {
			return e
		}
		isLast := i == len(o.segments)-1
		if !s.take(b) || s.torn && !isLast {
			return api.ErrBad
		}
	}
	return api.OK
}

// take takes the segment's bytes apart, and tells whether they may be one's.
func (s *segment) take(b []byte) bool {
	frames, whole, e := frame.Row(b)
	s.frames = frames
	// A file without bytes is a row, but no segment: its first frame is missing.
	s.torn = e == api.ErrMore || len(frames) == 0
	if s.torn {
		s.row = b[:whole]
	}
	return (e == api.OK || e == api.ErrMore) && s.isTold()
}

// isTold tells whether the frames are such as the log writes.
func (s *segment) isTold() bool {
	for i, f := range s.frames {
		switch {
		case i == 0 && (f.Kind != firstKind || !bytes.Equal(f.Body, wire.Number(nil, s.number))):
			return false
		case i > 0 && f.Kind != recordKind:
			return false
		}
	}
	return true
}

// mend sees to it that the next crash leaves what is told now: it takes away
// what is torn of the last segment, and syncs the rest.
func (o *opening) mend() api.Errno {
	if len(o.segments) == 0 {
		return api.OK
	}
	last := o.segments[len(o.segments)-1]
	switch {
	case !last.torn:
		return o.disk.Sync(Name(last.number))
	case len(last.frames) == 0:
		return o.forgetLast()
	}
	return o.rewrite(last)
}

// forgetLast removes the last segment, which was never begun wholly.
func (o *opening) forgetLast() api.Errno {
	last := len(o.segments) - 1
	name := Name(o.segments[last].number)
	o.segments = o.segments[:last]
	return inTurn(
		func() api.Errno { return o.disk.Remove(name) },
		o.disk.SyncDir,
	)
}

// rewrite puts a file with what is whole of the segment in its place, at once:
// a crash on the way leaves the torn one, or the whole one.
func (o *opening) rewrite(s segment) api.Errno {
	return inTurn(
		func() api.Errno { return lay(o.disk, draft, s.row) },
		func() api.Errno { return o.disk.Rename(draft, Name(s.number)) },
		o.disk.SyncDir,
	)
}

// records tells of each record its segment's number and its bytes, in order.
func (o *opening) records() iter.Seq2[uint64, []byte] {
	return func(yield func(uint64, []byte) bool) {
		for _, s := range o.segments {
			// The first frame is the segment's own.
			for _, f := range s.frames[1:] {
				if !yield(s.number, f.Body) {
					return
				}
			}
		}
	}
}

// log answers the log that was opened.
func (o *opening) log() *Log {
	l := &Log{disk: o.disk}
	for _, s := range o.segments {
		l.segments = append(l.segments, s.number)
	}
	return l
}
