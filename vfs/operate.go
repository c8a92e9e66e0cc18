package vfs

import (
	"bootprint/api"
)

// operate guards every operation: it answers why it is not done, or does it.
func (f *Fs) operate(right bool, do func() api.Errno) api.Errno {
	switch {
	case !f.made():
		return api.ErrNil
	case !right:
		return api.ErrArg
	case !f.on:
		return api.ErrOff
	}
	f.ops++
	// Both count on at every operation, whichever of them strikes.
	blown, faulty := f.fuse.strikes(), f.fault.strikes()
	switch {
	case blown:
		f.on = false
		return api.ErrOff
	case faulty:
		return f.failure
	}
	return do()
}

// onFile makes an operation of what is to be done to the file of a name.
func (f *Fs) onFile(name string, do func(*file) api.Errno) func() api.Errno {
	return func() api.Errno {
		x := f.names[name]
		if x == nil {
			return api.ErrNone
		}
		return do(x)
	}
}

// change is done to the directory, and kept till the directory is synced.
func (f *Fs) change(c change) {
	f.names.apply(c)
	f.changes = append(f.changes, c)
}

// lose counts the bytes of a file that is to have no name any more: they take
// room till it is forgotten.
func (f *Fs) lose(x *file) {
	if x != nil {
		f.lost += len(x.bytes)
	}
}

// settle makes the first so many changes part of the synced directory, and
// forgets the others.
func (f *Fs) settle(first int) {
	for _, c := range f.changes[:first] {
		f.synced.apply(c)
	}
	f.changes = nil
}

// Create makes a file without bytes.
func (f *Fs) Create(name string) api.Errno {
	return f.operate(Name(name), func() api.Errno {
		if f.names[name] != nil {
			return api.ErrThere
		}
		f.change(change{became: name, file: &file{}})
		return api.OK
	})
}

// Append puts b behind the file's bytes.
func (f *Fs) Append(name string, b []byte) api.Errno {
	return f.operate(Name(name), f.onFile(name, func(x *file) api.Errno {
		if len(b) > f.limit-f.used {
			return api.ErrFull
		}
		x.bytes = append(x.bytes, b...)
		f.used += len(b)
		return api.OK
	}))
}

// Sync syncs the file's bytes, not its name.
func (f *Fs) Sync(name string) api.Errno {
	return f.operate(Name(name), f.onFile(name, func(x *file) api.Errno {
		x.sync()
		return api.OK
	}))
}

// SyncDir syncs the directory, not the files' bytes.
func (f *Fs) SyncDir() api.Errno {
	return f.operate(true, func() api.Errno {
		f.settle(len(f.changes))
		f.used -= f.lost
		f.lost = 0
		return api.OK
	})
}

// Rename gives the file of the name from the name to, whatever had it.
func (f *Fs) Rename(from, to string) api.Errno {
	return f.operate(Name(from) && Name(to), f.onFile(from, func(x *file) api.Errno {
		if from == to {
			return api.OK
		}
		f.lose(f.names[to])
		f.change(change{went: from, became: to, file: x})
		return api.OK
	}))
}

// Remove takes the name away.
func (f *Fs) Remove(name string) api.Errno {
	return f.operate(Name(name), f.onFile(name, func(x *file) api.Errno {
		f.lose(x)
		f.change(change{went: name})
		return api.OK
	}))
}

// Read answers at most n of the file's bytes from at on.
func (f *Fs) Read(name string, at, n int) ([]byte, api.Errno) {
	var b []byte
	right := Name(name) && at >= 0 && n >= 0
	e := f.operate(right, f.onFile(name, func(x *file) api.Errno {
		b = x.read(at, n)
		return api.OK
	}))
	return b, e
}
