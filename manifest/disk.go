package manifest

import (
	"bootprint/api"
	"bootprint/vfs"
)

// inTurn does one step after the other, till one has an error.
func inTurn(steps ...func() api.Errno) api.Errno {
	for _, step := range steps {
		if e := step(); e != api.OK {
			return e
		}
	}
	return api.OK
}

// readWhole reads a file by one operation, also where there is none: that is
// what the operation tells.
func readWhole(f *vfs.Fs, name string) ([]byte, api.Errno) {
	return f.Read(name, 0, max(f.Size(name), 0))
}

// removeOld removes the file of a name, if there is one.
func removeOld(f *vfs.Fs, name string) api.Errno {
	if f.Size(name) < 0 {
		return api.OK
	}
	return f.Remove(name)
}

// lay makes a file of these bytes, and syncs them, but not its name.
func lay(f *vfs.Fs, name string, b []byte) api.Errno {
	return inTurn(
		func() api.Errno { return removeOld(f, name) },
		func() api.Errno { return f.Create(name) },
		func() api.Errno { return f.Append(name, b) },
		func() api.Errno { return f.Sync(name) },
	)
}
