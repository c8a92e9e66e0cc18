package table

import (
	"bootprint/api"
	"bootprint/frame"
	"bootprint/vfs"
	"bootprint/wire"
)

// Open reads the index and the filter of the table in a file.
func Open(f *vfs.Fs, name string) (*Table, api.Errno) {
	if isNone(f) {
		return nil, api.ErrNil
	}
	size := f.Size(name)
	if size < 0 {
		return nil, api.ErrNone
	}
	t := &Table{source: file{disk: f, name: name}}
	if e := t.load(size); e != api.OK {
		return nil, e
	}
	return t, api.OK
}

// isNone answers whether f is no file system. No file has a name without
// bytes, so nothing is done to one that is.
func isNone(f *vfs.Fs) bool {
	return f.Sync("") == api.ErrNil
}

// load reads from the end on: each part tells where the one ahead of it stands.
func (t *Table) load(size int) api.Errno {
	end := max(size-endSize, 0)
	b, e := t.read(end, endSize)
	if e != api.OK {
		return e
	}
	at, ok := readEnd(b, end)
	if !ok || size > api.MaxTable {
		return api.ErrBad
	}
	body, e := t.readFrame(indexKind, at, end)
	if e != api.OK {
		return e
	}
	x, ok := readIndex(body, at)
	if !ok {
		return api.ErrBad
	}
	filter, e := t.readFrame(filterKind, x.end(), at)
	if e != api.OK {
		return e
	}
	x.complete(size)
	t.index, t.filter = x, filter
	return api.OK
}

// readEnd answers the index's place, as b, which stands at limit, tells it, and
// whether b is a table's end: the place is not beyond limit.
func readEnd(b []byte, limit int) (at int, ok bool) {
	if len(b) != endSize || string(b[placeSize:]) != bootmark {
		return 0, false
	}
	told, _, e := wire.ReadOrdered(b)
	if e != api.OK || told > uint64(limit) {
		return 0, false
	}
	return int(told), true
}

// readFrame answers the Body of the frame of that Kind that has just the bytes
// between two places.
func (t *Table) readFrame(kind byte, from, to int) ([]byte, api.Errno) {
	b, e := t.read(from, to-from)
	if e != api.OK {
		return nil, e
	}
	f, n, e := frame.Read(b)
	if e != api.OK || f.Kind != kind || n != to-from {
		return nil, api.ErrBad
	}
	return f.Body, api.OK
}
