package manifest

import (
	"bootprint/api"
	"bootprint/vfs"
)

// inTurn does one step after the other, till one has an error.
func inTurn(steps ...func() api.Errno) api.Errno {
	for _, step := range steps {
		if e := step(); e != api.OK {
			return e
		}
	}
	return api.OK
}

// isNone answers whether f is no file system. No file has a name without
// bytes, so nothing is done to one that is.
func isNone(f *vfs.Fs) bool {
	return f.Sync("") == api.ErrNil
}

// isThere answers whether there is a file of that name. An operation may not be
// what tells it: one that finds no file counts, may be struck, and has an error.
func isThere(f *vfs.Fs, name string) bool {
	return f.Size(name) >= 0
}

// readWhole reads a file that is there, by one operation.
func readWhole(f *vfs.Fs, name string) ([]byte, api.Errno) {
	return f.Read(name, 0, f.Size(name))
}

// removeOld removes the file of a name, if there is one.
func removeOld(f *vfs.Fs, name string) api.Errno {
	if !isThere(f, name) {
		return api.OK
	}
	return f.Remove(name)
}

// lay makes a file of these bytes, and syncs them, but not its name.
func lay(f *vfs.Fs, name string, b []byte) api.Errno {
	return inTurn(
		func() api.Errno { return removeOld(f, name) },
		func() api.Errno { return f.Create(name) },
		func() api.Errno { return f.Append(name, b) },
		func() api.Errno { return f.Sync(name) },
	)
}
