package vfs

import (
	"maps"

	"bootprint/api"
)

// never is a countdown that strikes no operation, as each below 0 is.
const never countdown = -1

// countdown strikes the operation behind so many further ones, once.
type countdown int

// strikes counts on by one operation, and tells whether it is the one.
func (c *countdown) strikes() bool {
	if *c < 0 {
		return false
	}
	*c--
	return *c < 0
}

// Fuse sets the fuse: the disk goes off at the operation behind n further
// ones. Below 0 there is none.
func (f *Fs) Fuse(n int) api.Errno {
	if !f.made() {
		return api.ErrNil
	}
	f.fuse = countdown(n)
	return api.OK
}

// Fault sets the fault: the operation behind n further ones answers e. Below 0
// there is none.
func (f *Fs) Fault(n int, e api.Errno) api.Errno {
	switch {
	case !f.made():
		return api.ErrNil
	case e != api.ErrFull && e != api.ErrIO:
		return api.ErrArg
	}
	f.fault, f.failure = countdown(n), e
	return api.OK
}

// Crash keeps what was synced; the first dir of the directory's changes; and,
// by keep's numbers, first parts of the files' other bytes. The disk is on then.
func (f *Fs) Crash(dir int, keep []int) api.Errno {
	if !f.made() {
		return api.ErrNil
	}
	f.settle(within(dir, len(f.changes)))
	f.names = maps.Clone(f.synced)
	f.used, f.lost = 0, 0
	for i, name := range f.names.rising() {
		n := 0
		if i < len(keep) {
			n = keep[i]
		}
		x := f.names[name]
		x.crash(n)
		f.used += len(x.bytes)
	}
	f.on, f.fuse, f.fault = true, never, never
	return api.OK
}

// Turn turns these bits of a byte, synced or not, as a disk that fails does.
func (f *Fs) Turn(name string, at int, bits byte) api.Errno {
	if !f.made() {
		return api.ErrNil
	}
	x := f.names[name]
	switch {
	case x == nil:
		return api.ErrNone
	case at < 0 || at >= len(x.bytes):
		return api.ErrArg
	}
	x.bytes[at] ^= bits
	return api.OK
}
