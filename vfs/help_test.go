package vfs_test

import (
	"bytes"
	"maps"
	"math/rand/v2"
	"slices"
	"testing"

	"bootprint/api"
	"bootprint/vfs"
)

const (
	least    = -1 << 63
	greatest = 1<<63 - 1
)

// fresh answers a new file system.
func fresh(t *testing.T, limit int) *vfs.Fs {
	t.Helper()
	f, e := vfs.New(limit)
	if f == nil || e != api.OK {
		t.Fatalf("New(%d): %v, %d", limit, f, e)
	}
	return f
}

// fine fails unless every error is OK.
func fine(t *testing.T, errors ...api.Errno) {
	t.Helper()
	for i, e := range errors {
		if e != api.OK {
			t.Fatalf("call %d: %d, want OK", i, e)
		}
	}
}

// refused fails unless e is the error that is wanted.
func refused(t *testing.T, what string, e, want api.Errno) {
	t.Helper()
	if e != want {
		t.Errorf("%q: %d, want %d", what, e, want)
	}
}

// holds fails unless the file has just these bytes.
func holds(t *testing.T, f *vfs.Fs, name, want string) {
	t.Helper()
	if b, e := f.Read(name, 0, api.MaxDisk); string(b) != want || e != api.OK {
		t.Errorf("Read of %s: %q, %d; want %q", name, b, e, want)
	}
	if n := f.Size(name); n != len(want) {
		t.Errorf("Size of %s: %d, want %d", name, n, len(want))
	}
}

// named fails unless the directory has just these names.
func named(t *testing.T, f *vfs.Fs, want ...string) {
	t.Helper()
	if l := f.Names(); !slices.Equal(l, want) {
		t.Errorf("Names: %q, want %q", l, want)
	}
}

// takes fails unless so many bytes count for the room.
func takes(t *testing.T, f *vfs.Fs, want int) {
	t.Helper()
	if n := f.Used(); n != want {
		t.Errorf("Used: %d, want %d", n, want)
	}
}

// step is one call of an operation, with arguments of its own.
type step struct {
	name string
	do   func(f *vfs.Fs) api.Errno
}

func read(f *vfs.Fs, name string, at, n int) api.Errno {
	_, e := f.Read(name, at, n)
	return e
}

// eachOperation tells one call of each operation, all of the file of a name.
func eachOperation(name string) []step {
	return []step{
		{"Create", func(f *vfs.Fs) api.Errno { return f.Create(name) }},
		{"Append", func(f *vfs.Fs) api.Errno { return f.Append(name, []byte("more")) }},
		{"Sync", func(f *vfs.Fs) api.Errno { return f.Sync(name) }},
		{"SyncDir", func(f *vfs.Fs) api.Errno { return f.SyncDir() }},
		{"Rename", func(f *vfs.Fs) api.Errno { return f.Rename(name, "elsewhere") }},
		{"Remove", func(f *vfs.Fs) api.Errno { return f.Remove(name) }},
		{"Read", func(f *vfs.Fs) api.Errno { return read(f, name, 0, 9) }},
	}
}

// eachWrongCall tells calls whose arguments are wrong, one a way to be wrong.
func eachWrongCall() []step {
	l := []step{
		{"Rename to a wrong name", func(f *vfs.Fs) api.Errno { return f.Rename("a", "A") }},
		{"Rename of wrong names", func(f *vfs.Fs) api.Errno { return f.Rename("", "") }},
		{"Read from below 0", func(f *vfs.Fs) api.Errno { return read(f, "a", -1, 1) }},
		{"Read from far below 0", func(f *vfs.Fs) api.Errno { return read(f, "a", least, 1) }},
		{"Read of less than 0", func(f *vfs.Fs) api.Errno { return read(f, "a", 0, -1) }},
		{"Read of far less than 0", func(f *vfs.Fs) api.Errno { return read(f, "a", 0, least) }},
		{"Read below 0 of no file", func(f *vfs.Fs) api.Errno { return read(f, "none", -1, -1) }},
	}
	for _, wrong := range []string{"", "A", "a/b", "a\x00", string(bytes.Repeat([]byte("a"), 65))} {
		for _, s := range eachOperation(wrong) {
			if s.name != "SyncDir" {
				l = append(l, step{s.name + " of " + wrong, s.do})
			}
		}
	}
	return l
}

// entry is a file as a plain file system has it.
type entry struct {
	bytes  []byte
	synced int
}

// plain is a file system by the chapter's words: it has the synced directory
// behind each first part of its changes written out, the last one being the
// directory itself.
type plain struct {
	limit       int
	states      []map[string]*entry
	off         bool
	ops         int
	fuse, fault int // the operation that is struck; below 0 none
	failure     api.Errno
}

func newPlain(limit int) *plain {
	return &plain{limit: limit, states: []map[string]*entry{{}}, fuse: -1, fault: -1}
}

func (p *plain) directory() map[string]*entry {
	return p.states[len(p.states)-1]
}

// changed begins a change: the answer is the directory that is to be changed.
func (p *plain) changed() map[string]*entry {
	d := maps.Clone(p.directory())
	p.states = append(p.states, d)
	return d
}

func (p *plain) used() int {
	all := map[*entry]int{}
	for _, d := range p.states {
		for _, x := range d {
			all[x] = len(x.bytes)
		}
	}
	sum := 0
	for _, n := range all {
		sum += n
	}
	return sum
}

// begin tells what keeps an operation from being done.
func (p *plain) begin() api.Errno {
	if p.off {
		return api.ErrOff
	}
	p.ops++
	switch p.ops - 1 {
	case p.fuse:
		p.off = true
		return api.ErrOff
	case p.fault:
		return p.failure
	}
	return api.OK
}

func (p *plain) create(name string) api.Errno {
	if e := p.begin(); e != api.OK {
		return e
	}
	if p.directory()[name] != nil {
		return api.ErrThere
	}
	p.changed()[name] = &entry{}
	return api.OK
}

// find begins an operation on the file of a name.
func (p *plain) find(name string) (*entry, api.Errno) {
	if e := p.begin(); e != api.OK {
		return nil, e
	}
	if x := p.directory()[name]; x != nil {
		return x, api.OK
	}
	return nil, api.ErrNone
}

func (p *plain) append(name string, b []byte) api.Errno {
	x, e := p.find(name)
	if e == api.OK && p.used()+len(b) > p.limit {
		e = api.ErrFull
	}
	if e == api.OK {
		x.bytes = append(x.bytes, b...)
	}
	return e
}

func (p *plain) sync(name string) api.Errno {
	x, e := p.find(name)
	if e == api.OK {
		x.synced = len(x.bytes)
	}
	return e
}

func (p *plain) syncDir() api.Errno {
	e := p.begin()
	if e == api.OK {
		p.states = p.states[len(p.states)-1:]
	}
	return e
}

func (p *plain) rename(from, to string) api.Errno {
	x, e := p.find(from)
	if e == api.OK && from != to {
		d := p.changed()
		delete(d, from)
		d[to] = x
	}
	return e
}

func (p *plain) remove(name string) api.Errno {
	_, e := p.find(name)
	if e == api.OK {
		delete(p.changed(), name)
	}
	return e
}

func (p *plain) read(name string, at, n int) ([]byte, api.Errno) {
	x, e := p.find(name)
	var b []byte
	for i := at; e == api.OK && i < len(x.bytes) && i-at < n; i++ {
		b = append(b, x.bytes[i])
	}
	return b, e
}

// first tells how many of some things stay behind a crash.
func first(n, of int) int {
	if n < 0 {
		return 0
	}
	return n % (of + 1)
}

func (p *plain) crash(dir int, keep []int) {
	d := p.states[first(dir, len(p.states)-1)]
	for i, name := range slices.Sorted(maps.Keys(d)) {
		n := 0
		if i < len(keep) {
			n = keep[i]
		}
		x := d[name]
		x.synced += first(n, len(x.bytes)-x.synced)
		x.bytes = x.bytes[:x.synced:x.synced]
	}
	p.states = []map[string]*entry{d}
	p.off, p.fuse, p.fault = false, -1, -1
}

// alike fails unless f tells what the plain one has; Read, being an operation,
// is left out.
func alike(t *testing.T, what string, f *vfs.Fs, p *plain) {
	t.Helper()
	want := slices.Sorted(maps.Keys(p.directory()))
	if l := f.Names(); !slices.Equal(l, want) {
		t.Fatalf("%s: Names: %q, want %q", what, l, want)
	}
	for _, name := range want {
		if n := f.Size(name); n != len(p.directory()[name].bytes) {
			t.Fatalf("%s: Size of %s: %d, want %d", what, name, n, len(p.directory()[name].bytes))
		}
	}
	if f.Used() != p.used() || f.On() == p.off || f.Ops() != p.ops {
		t.Fatalf("%s: Used %d, On %t, Ops %d; want %d, %t, %d", what, f.Used(), f.On(), f.Ops(), p.used(), !p.off, p.ops)
	}
}

// sameBytes fails unless all files have the bytes that the plain one's have.
func sameBytes(t *testing.T, what string, f *vfs.Fs, p *plain) {
	t.Helper()
	alike(t, what, f, p)
	for name, x := range p.directory() {
		p.ops++
		if b, e := f.Read(name, 0, greatest); !bytes.Equal(b, x.bytes) || e != api.OK {
			t.Fatalf("%s: Read of %s: %q, %d; want %q", what, name, b, e, x.bytes)
		}
	}
}

// scrambled tells the numbers that a script is made of, the same for each seed.
func scrambled(seed uint64) *rand.Rand {
	return rand.New(rand.NewPCG(seed, 4))
}
