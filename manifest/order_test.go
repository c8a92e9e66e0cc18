package manifest_test

import (
	"fmt"
	"testing"

	"bootprint/api"
	"bootprint/manifest"
	"bootprint/version"
	"bootprint/vfs"
)

// The disk's operations of Open, Append and Roll, one by one as the words tell
// them, and what becomes of an error at each of them: behind it the disk is as
// if just those ahead of it had been done.

// operation is one of the disk's.
type operation func(f *vfs.Fs) api.Errno

func create(name string) operation {
	return func(f *vfs.Fs) api.Errno { return f.Create(name) }
}

func write(name, b string) operation {
	return func(f *vfs.Fs) api.Errno { return f.Append(name, []byte(b)) }
}

func syncs(name string) operation {
	return func(f *vfs.Fs) api.Errno { return f.Sync(name) }
}

func syncDir() operation {
	return func(f *vfs.Fs) api.Errno { return f.SyncDir() }
}

func rename(from, to string) operation {
	return func(f *vfs.Fs) api.Errno { return f.Rename(from, to) }
}

func remove(name string) operation {
	return func(f *vfs.Fs) api.Errno { return f.Remove(name) }
}

func read(name string) operation {
	return func(f *vfs.Fs) api.Errno {
		_, e := f.Read(name, 0, api.MaxDisk)
		return e
	}
}

// scene is a call, what there is ahead of it, and the operations it has.
type scene struct {
	lay        func(t *testing.T) (*manifest.Manifest, *vfs.Fs) // no manifest, if one is to be opened
	call       func(m *manifest.Manifest, f *vfs.Fs) (*manifest.Manifest, api.Errno)
	operations []operation
	// ahead and behind are what is told ahead of the call and behind it; the
	// number is the one behind it as soon as so many operations are done.
	ahead, behind   api.Version
	number, next    uint64
	isRolledBehind  int
	isOpenedByScene bool
}

func openIt(_ *manifest.Manifest, f *vfs.Fs) (*manifest.Manifest, api.Errno) {
	return manifest.Open(f)
}

func rollIt(m *manifest.Manifest, _ *vfs.Fs) (*manifest.Manifest, api.Errno) {
	return m, m.Roll()
}

func appendIt(e api.Edit) func(m *manifest.Manifest, f *vfs.Fs) (*manifest.Manifest, api.Errno) {
	return func(m *manifest.Manifest, _ *vfs.Fs) (*manifest.Manifest, api.Errno) {
		return m, m.Append(e)
	}
}

// onDisk makes what is laid of a disk with these files, synced.
func onDisk(files ...string) func(t *testing.T) (*manifest.Manifest, *vfs.Fs) {
	return func(t *testing.T) (*manifest.Manifest, *vfs.Fs) {
		t.Helper()
		f := fresh(t)
		for i := 0; i < len(files); i += 2 {
			put(t, f, files[i], files[i+1])
		}
		return nil, f
	}
}

// withManifest opens the manifest of a disk with these files, then lays the
// others, not synced, and appends an edit.
func withManifest(files ...string) func(t *testing.T) (*manifest.Manifest, *vfs.Fs) {
	return func(t *testing.T) (*manifest.Manifest, *vfs.Fs) {
		t.Helper()
		m, f := begun(t)
		for i := 0; i < len(files); i += 2 {
			fine(t, f.Create(files[i]), f.Append(files[i], []byte(files[i+1])))
		}
		fine(t, m.Append(adds(2)))
		return m, f
	}
}

// scenes tells all of them.
func scenes(t *testing.T) map[string]scene {
	t.Helper()
	start, one := version.First(), made(t, adds(2))
	two := made(t, adds(2), adds(3))
	whole := rowOf(beginning(), adds(2))
	torn := whole + rowOf(adds(3))[:20]
	firstLine, secondLine := first+"\n", second+"\n"
	return map[string]scene{
		"Open of an empty one": {
			lay: onDisk(), call: openIt, behind: start, next: 1, isOpenedByScene: true,
			operations: []operation{
				create(first), write(first, wholeRow(start)), syncs(first),
				create("current.tmp"), write("current.tmp", firstLine), syncs("current.tmp"),
				syncDir(), rename("current.tmp", "current"), syncDir(),
			},
		},
		"Open without current, a manifest's file left": {
			lay: onDisk(first, "left", second, "left too"), call: openIt, behind: start, next: 1, isOpenedByScene: true,
			operations: []operation{
				remove(first), create(first), write(first, wholeRow(start)), syncs(first),
				create("current.tmp"), write("current.tmp", firstLine), syncs("current.tmp"),
				syncDir(), rename("current.tmp", "current"), syncDir(),
			},
		},
		"Open without current, all files left": {
			lay: onDisk(first, whole, "current.tmp", firstLine), call: openIt, behind: start, next: 1, isOpenedByScene: true,
			operations: []operation{
				remove(first), create(first), write(first, wholeRow(start)), syncs(first),
				remove("current.tmp"), create("current.tmp"), write("current.tmp", firstLine), syncs("current.tmp"),
				syncDir(), rename("current.tmp", "current"), syncDir(),
			},
		},
		"Open of a whole one": {
			lay: func(t *testing.T) (*manifest.Manifest, *vfs.Fs) {
				t.Helper()
				f := disk(t, 1, rowOf(beginning()))
				fine(t, f.Append(first, []byte(rowOf(adds(2)))), f.Create("other"), f.Append("other", []byte("not synced")))
				return nil, f
			},
			call: openIt, behind: one, next: 1, isOpenedByScene: true,
			operations: []operation{read("current"), read(first), syncs(first)},
		},
		"Open of a torn one": {
			lay: onDisk(first, torn, "current", firstLine), call: openIt, behind: one, next: 2, isOpenedByScene: true,
			operations: []operation{
				read("current"), read(first),
				create(second), write(second, wholeRow(one)), syncs(second),
				create("current.tmp"), write("current.tmp", secondLine), syncs("current.tmp"),
				syncDir(), rename("current.tmp", "current"), syncDir(), remove(first),
			},
		},
		"Open of a torn one, all files left": {
			lay: onDisk(first, torn, "current", firstLine, second, whole, "current.tmp", "left", third, "left"), call: openIt, behind: one, next: 2, isOpenedByScene: true,
			operations: []operation{
				read("current"), read(first),
				remove(second), create(second), write(second, wholeRow(one)), syncs(second),
				remove("current.tmp"), create("current.tmp"), write("current.tmp", secondLine), syncs("current.tmp"),
				syncDir(), rename("current.tmp", "current"), syncDir(), remove(first),
			},
		},
		"Append": {
			lay: withManifest("other", "not synced"), call: appendIt(adds(3)), ahead: one, behind: two, number: 1, next: 1,
			operations: []operation{write(first, rowOf(adds(3))), syncs(first)},
		},
		"Roll": {
			lay: withManifest("other", "not synced"), call: rollIt, ahead: one, behind: one, number: 1, next: 2, isRolledBehind: 9,
			operations: []operation{
				create(second), write(second, wholeRow(one)), syncs(second),
				create("current.tmp"), write("current.tmp", secondLine), syncs("current.tmp"),
				syncDir(), rename("current.tmp", "current"), syncDir(), remove(first),
			},
		},
		"Roll with a file left": {
			lay: withManifest("current.tmp", "left"), call: rollIt, ahead: one, behind: one, number: 1, next: 2, isRolledBehind: 10,
			operations: []operation{
				create(second), write(second, wholeRow(one)), syncs(second),
				remove("current.tmp"), create("current.tmp"), write("current.tmp", secondLine), syncs("current.tmp"),
				syncDir(), rename("current.tmp", "current"), syncDir(), remove(first),
			},
		},
		"Roll with all files left": {
			lay: withManifest(second, "left", "current.tmp", "left", third, "left"), call: rollIt, ahead: one, behind: one, number: 1, next: 2, isRolledBehind: 11,
			operations: []operation{
				remove(second), create(second), write(second, wholeRow(one)), syncs(second),
				remove("current.tmp"), create("current.tmp"), write("current.tmp", secondLine), syncs("current.tmp"),
				syncDir(), rename("current.tmp", "current"), syncDir(), remove(first),
			},
		},
	}
}

// strike makes the operation behind n further ones fail, and answers how.
type strike func(t *testing.T, f *vfs.Fs, n int) api.Errno

func byFuse(t *testing.T, f *vfs.Fs, n int) api.Errno {
	t.Helper()
	fine(t, f.Fuse(n))
	return api.ErrOff
}

func byFault(e api.Errno) strike {
	return func(t *testing.T, f *vfs.Fs, n int) api.Errno {
		t.Helper()
		fine(t, f.Fault(n, e))
		return e
	}
}

// likeness tells what a disk has, without an operation.
func likeness(f *vfs.Fs) string {
	s := fmt.Sprintf("%d bytes:", f.Used())
	for _, name := range f.Names() {
		s += fmt.Sprintf(" %s %d", name, f.Size(name))
	}
	return s
}

// play goes through a scene whose operation n fails, or none, and answers the
// manifest, if there is one, its disk, one on which just the operations ahead
// of it were done, and what the call had to answer.
func (c scene) play(t *testing.T, what string, n int, how strike) (m *manifest.Manifest, f, twin *vfs.Fs, e api.Errno) {
	t.Helper()
	m, f = c.lay(t)
	_, twin = c.lay(t)
	ops := f.Ops()
	want, operations := how(t, f, n), n+1
	if n == len(c.operations) {
		want, operations = api.OK, n
	}
	m, e = c.call(m, f)
	refused(t, what, e, want)
	took(t, what, f, ops, operations)
	for i, do := range c.operations[:n] {
		if e := do(twin); e != api.OK {
			t.Fatalf("%s: operation %d: %d", what, i, e)
		}
	}
	if got, want := likeness(f), likeness(twin); got != want {
		t.Fatalf("%s: the disk has %s, want %s", what, got, want)
	}
	if c.isOpenedByScene && (m == nil) != (want != api.OK) {
		t.Fatalf("%s: Open: %v, %d", what, m, e)
	}
	fine(t, f.Fuse(-1), f.Fault(-1, api.ErrIO))
	return m, f, twin, want
}

// told fails unless the manifest tells what it must behind n operations.
func (c scene) told(t *testing.T, what string, m *manifest.Manifest, f *vfs.Fs, n int) {
	t.Helper()
	v, number := c.ahead, c.number
	if n == len(c.operations) {
		v, number = c.behind, c.next
	}
	if c.isRolledBehind > 0 && n >= c.isRolledBehind {
		number = c.next
	}
	tells(t, what, m, f, v, number)
}

// spoilt fails unless Append and Roll answer that error, do nothing, and the
// manifest tells what it told.
func spoilt(t *testing.T, what string, m *manifest.Manifest, f *vfs.Fs, want api.Errno) {
	t.Helper()
	v, number, size := told(m.Version()), m.Number(), m.Size()
	ops, disk := f.Ops(), likeness(f)
	for range 2 {
		refused(t, what+": Append", m.Append(adds(m.Version().Next+1)), want)
		refused(t, what+": Append of what can't be applied", m.Append(api.Edit{}), want)
		refused(t, what+": Roll", m.Roll(), want)
	}
	took(t, what, f, ops, 0)
	if got := likeness(f); got != disk {
		t.Errorf("%s: the disk has %s, want %s", what, got, disk)
	}
	if told(m.Version()) != v || m.Number() != number || m.Size() != size {
		t.Errorf("%s: %s, %d, %d; want %s, %d, %d", what, told(m.Version()), m.Number(), m.Size(), v, number, size)
	}
}

func TestOperationsOneByOne(t *testing.T) {
	for name, c := range scenes(t) {
		for n := range len(c.operations) + 1 {
			for dir := range 6 {
				for _, keep := range []int{0, 1, 8, 13, 22, 40, 1 << 20} {
					what := fmt.Sprintf("%s, off at %d, crash of %d, %d", name, n, dir, keep)
					_, f, twin, _ := c.play(t, what, n, byFuse)
					keeps := []int{keep, keep, keep, keep, keep, keep}
					fine(t, f.Crash(dir, keeps), twin.Crash(dir, keeps))
					if got, want := contents(t, f), contents(t, twin); got != want {
						t.Fatalf("%s: the disk has %s, want %s", what, got, want)
					}
				}
			}
		}
	}
}

func TestErrorAtEveryOperation(t *testing.T) {
	for name, c := range scenes(t) {
		for n := range len(c.operations) + 1 {
			for _, how := range []strike{byFuse, byFault(api.ErrIO), byFault(api.ErrFull)} {
				what := fmt.Sprintf("%s, struck at %d", name, n)
				m, f, _, e := c.play(t, what, n, how)
				if m == nil {
					continue
				}
				c.told(t, what, m, f, n)
				if n == len(c.operations) {
					fine(t, m.Append(adds(c.behind.Next+1)), m.Roll())
					continue
				}
				spoilt(t, what, m, f, e)
				// A crash does not mend the manifest: another must be opened.
				fine(t, f.Crash(9, []int{9, 9, 9, 9, 9}))
				spoilt(t, what+", crashed", m, f, e)
				if _, err := manifest.Open(f); err != api.OK {
					t.Errorf("%s: Open: %d", what, err)
				}
				spoilt(t, what+", opened anew", m, f, e)
			}
		}
	}
}

// The error that struck is the one that is told, not a later one.
func TestSpoiltByTheFirstError(t *testing.T) {
	for name, c := range scenes(t) {
		if c.isOpenedByScene {
			continue
		}
		for n := range c.operations {
			m, f, _, _ := c.play(t, name, n, byFault(api.ErrIO))
			fine(t, f.Fuse(0))
			spoilt(t, name, m, f, api.ErrIO)
			if !f.On() {
				t.Errorf("%s: an operation was tried", name)
			}
			m, f, _, _ = c.play(t, name, n, byFuse)
			fine(t, f.Crash(0, nil), f.Fault(0, api.ErrIO))
			spoilt(t, name, m, f, api.ErrOff)
			refused(t, "SyncDir", f.SyncDir(), api.ErrIO) // the fault is still there
		}
	}
}

// fill fills the disk, so that just so many bytes have room.
func fill(t *testing.T, f *vfs.Fs, room int) {
	t.Helper()
	put(t, f, "filler", "")
	fine(t, f.Append("filler", make([]byte, 1<<24-f.Used()-room)))
	refused(t, "the room", f.Append("filler", make([]byte, room+1)), api.ErrFull)
}

func TestAppendOnAFullDisk(t *testing.T) {
	row := rowOf(adds(3))
	for room := range len(row) + 2 {
		m, f := begun(t, adds(2))
		fill(t, f, room)
		e := m.Append(adds(3))
		if room >= len(row) {
			fine(t, e)
			tells(t, "room enough", m, f, made(t, adds(2), adds(3)), 1)
			continue
		}
		refused(t, "Append", e, api.ErrFull)
		tells(t, "full", m, f, made(t, adds(2)), 1)
		holds(t, f, first, rowOf(beginning(), adds(2)))
		// It stays so, also when there is room again.
		fine(t, f.Remove("filler"), f.SyncDir())
		spoilt(t, "room again", m, f, api.ErrFull)
		m = opened(t, "anew", f, made(t, adds(2)), 1)
		fine(t, m.Append(adds(3)))
	}
}

func TestRollOnAFullDisk(t *testing.T) {
	v := made(t, adds(2))
	row := wholeRow(v)
	for room := range len(row) + 30 {
		m, f := begun(t, adds(2))
		fill(t, f, room)
		e := m.Roll()
		switch {
		case room < len(row):
			named(t, f, "current", "filler", first, second)
			holds(t, f, second, "")
		case room < len(row)+22:
			named(t, f, "current", "current.tmp", "filler", first, second)
			holds(t, f, second, row)
			holds(t, f, "current.tmp", "")
		default:
			fine(t, e)
			tells(t, "room enough", m, f, v, 2)
			continue
		}
		refused(t, "Roll", e, api.ErrFull)
		tells(t, "full", m, f, v, 1)
		fine(t, f.Remove("filler"), f.SyncDir())
		spoilt(t, "room again", m, f, api.ErrFull)
		m = opened(t, "anew", f, v, 1)
		fine(t, m.Roll())
		tells(t, "rolled", m, f, v, 2)
		named(t, f, "current", second)
	}
}

func TestOpenOnAFullDisk(t *testing.T) {
	row := rowOf(beginning())
	for room := range len(row) + 30 {
		f := fresh(t)
		fill(t, f, room)
		if room >= len(row)+22 {
			opened(t, "room enough", f, version.First(), 1)
			continue
		}
		for range 3 {
			notOpened(t, "full", f, api.ErrFull)
		}
		fine(t, f.Remove("filler"), f.SyncDir())
		opened(t, "room again", f, version.First(), 1)
		named(t, f, "current", first)
	}
	// One that is torn can't be rolled, one that is whole needs no room.
	torn, whole := disk(t, 1, row+"torn"), disk(t, 1, row)
	fill(t, torn, 0)
	fill(t, whole, 0)
	notOpened(t, "torn and full", torn, api.ErrFull)
	opened(t, "whole and full", whole, version.First(), 1)
	fine(t, torn.Remove("filler"), torn.SyncDir())
	opened(t, "torn, room again", torn, version.First(), 2)
	named(t, torn, "current", second)
}
