package vfs

import (
	"bytes"
	"maps"
	"slices"
)

// file is bytes, of which the first so many are synced.
type file struct {
	bytes  []byte
	synced int
}

// read answers at most n bytes from at on, in new memory.
func (x *file) read(at, n int) []byte {
	rest := x.bytes[min(at, len(x.bytes)):]
	return bytes.Clone(rest[:min(n, len(rest))])
}

func (x *file) sync() {
	x.synced = len(x.bytes)
}

// crash leaves, of the bytes that are not synced, the first keep.
func (x *file) crash(keep int) {
	x.bytes = x.bytes[:x.synced+within(keep, len(x.bytes)-x.synced)]
	x.sync()
}

// directory tells of each name which file it is.
type directory map[string]*file

func (d directory) rising() []string {
	return slices.Sorted(maps.Keys(d))
}

// change is a name that went, a name that became a file, or both at once: a
// crash never parts the two halves of a rename.
type change struct {
	went   string
	became string
	file   *file // nil, if no name became one
}

func (d directory) apply(c change) {
	delete(d, c.went) // no file has the empty name that stands for none
	if c.file != nil {
		d[c.became] = c.file
	}
}

// within answers n modulo one more than most; 0 of an n below 0.
func within(n, most int) int {
	return max(n, 0) % (most + 1)
}
