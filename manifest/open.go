package manifest

import (
	"strings"

	"bootprint/api"
	"bootprint/frame"
	"bootprint/version"
	"bootprint/vfs"
)

// Open reads the manifest of a file system, or makes the first one. What a
// crash has left of an edit is left out.
func Open(f *vfs.Fs) (m *Manifest, err api.Errno) {
	if isNone(f) {
		return nil, api.ErrNil
	}
	// One that could not be opened is not handed out, however far it came.
	defer func() {
		if err != api.OK {
			m = nil
		}
	}()
	m = &Manifest{disk: f, version: version.First()}
	if !isThere(f, current) {
		return m, m.rollTo(1)
	}
	line, err := readWhole(f, current)
	if err != api.OK {
		return m, err
	}
	return m, m.load(line)
}

// load takes the version from the file that current's line names, and sees to
// it that the next crash leaves what is told now.
func (m *Manifest) load(line []byte) api.Errno {
	name, ended := strings.CutSuffix(string(line), lineEnd)
	number, ok := ParseName(name)
	if !ended || !ok || !isThere(m.disk, name) {
		return api.ErrBad
	}
	row, err := readWhole(m.disk, name)
	if err != api.OK {
		return err
	}
	m.file = name
	isTorn, ok := m.take(row)
	switch {
	case !ok:
		return api.ErrBad
	case isTorn:
		return m.rollTo(number + 1)
	}
	return m.disk.Sync(name)
}

// take takes the version from a row of edits; it answers whether a crash has
// cut the row behind its first one, and whether it may be a manifest's.
func (m *Manifest) take(row []byte) (isTorn, ok bool) {
	frames, _, torn := frame.Row(row)
	if len(frames) == 0 || torn != api.OK && torn != api.ErrMore {
		return false, false
	}
	v, err := fold(version.First(), editsOf(frames))
	if err != api.OK {
		return false, false
	}
	m.version = v
	return torn == api.ErrMore, true
}
