package lsm_test

import (
	"fmt"
	"testing"

	"bootprint/api"
	"bootprint/lsm"
	"bootprint/vfs"
)

// The disk's operations of Open, Write and each step of work, one by one as the
// words tell them, and what becomes of an error at each of them: behind it the
// disk is as if just those ahead of it had been done.

// operation is one of the disk's.
type operation func(f *vfs.Fs) api.Errno

func create(name string) operation {
	return func(f *vfs.Fs) api.Errno { return f.Create(name) }
}

func write(name, b string) operation {
	return func(f *vfs.Fs) api.Errno { return f.Append(name, []byte(b)) }
}

func syncs(name string) operation {
	return func(f *vfs.Fs) api.Errno { return f.Sync(name) }
}

func syncDir() operation {
	return func(f *vfs.Fs) api.Errno { return f.SyncDir() }
}

func rename(from, to string) operation {
	return func(f *vfs.Fs) api.Errno { return f.Rename(from, to) }
}

func remove(name string) operation {
	return func(f *vfs.Fs) api.Errno { return f.Remove(name) }
}

func read(name string) operation {
	return func(f *vfs.Fs) api.Errno {
		_, e := f.Read(name, 0, api.MaxDisk)
		return e
	}
}

// reads are some of one file.
func reads(name string, n int) []operation {
	var l []operation
	for range n {
		l = append(l, read(name))
	}
	return l
}

// made are those of a file that is made and synced.
func made(name, b string) []operation {
	return []operation{create(name), write(name, b), syncs(name)}
}

// together puts operations one behind the other.
func together(l ...[]operation) []operation {
	var all []operation
	for _, some := range l {
		all = append(all, some...)
	}
	return all
}

func one(l ...operation) []operation { return l }

// scene is a call, what there is ahead of it, and the operations it has.
type scene struct {
	setup      api.Setup
	lay        func(t *testing.T) (*lsm.Engine, *vfs.Fs) // no engine, if one is to be opened
	call       func(t *testing.T, e *lsm.Engine, f *vfs.Fs) (*lsm.Engine, api.Errno)
	operations []operation
	known      int    // behind so many operations Version tells the new files; 0: it tells them behind none
	seen       string // what is seen at the last number, ahead of the call and behind it
	written    string // what is seen behind it, if it is another text
}

func working(want int) func(t *testing.T, e *lsm.Engine, f *vfs.Fs) (*lsm.Engine, api.Errno) {
	return func(t *testing.T, e *lsm.Engine, f *vfs.Fs) (*lsm.Engine, api.Errno) {
		t.Helper()
		what, x := e.Work()
		if x == api.OK && what != want || x != api.OK && what != 0 {
			t.Fatalf("Work: %d, %d; want %d", what, x, want)
		}
		return e, x
	}
}

// opening opens the engine with a setup.
func opening(s api.Setup) func(t *testing.T, e *lsm.Engine, f *vfs.Fs) (*lsm.Engine, api.Errno) {
	return func(t *testing.T, _ *lsm.Engine, f *vfs.Fs) (*lsm.Engine, api.Errno) {
		t.Helper()
		return lsm.Open(f, s)
	}
}

// behind lays an engine of a setup to which some was done.
func behind(s api.Setup, do func(t *testing.T, e *lsm.Engine, f *vfs.Fs)) func(t *testing.T) (*lsm.Engine, *vfs.Fs) {
	return func(t *testing.T) (*lsm.Engine, *vfs.Fs) {
		t.Helper()
		e, f := begun(t, s)
		do(t, e, f)
		return e, f
	}
}

// onDisk lays a disk without an engine.
func onDisk(lay func(t *testing.T) *vfs.Fs) func(t *testing.T) (*lsm.Engine, *vfs.Fs) {
	return func(t *testing.T) (*lsm.Engine, *vfs.Fs) {
		t.Helper()
		return nil, lay(t)
	}
}

// begins are those of a segment that is begun.
func begins(n uint64) []operation {
	return append(made(segmentName(n), segment(n)), syncDir())
}

// opens are those of the manifest that is opened, and of the log's one segment.
func opens(number uint64) []operation {
	return one(read("current"), read(manifestName(number)), syncs(manifestName(number)))
}

// scenesOfOpen tells those.
func scenesOfOpen(t *testing.T) map[string]scene {
	t.Helper()
	s := small()
	first := editRow(api.Edit{Next: 1})
	row := sizedRow(t, 1<<16+1)
	rolled := func(t *testing.T) *vfs.Fs {
		f := withManifest(t, row)
		put(t, f, segmentName(4), segment(4))
		put(t, f, manifestName(6), "left")
		return f
	}
	record := batchBytes(1, set("a", "x"))
	torn := segment(3, record, batchBytes(2, set("b", "y")))
	return map[string]scene{
		"Open of an empty disk": {
			setup: s, lay: onDisk(fresh), call: opening(s),
			operations: together(
				made(manifestName(1), first), made("current.tmp", manifestName(1)+"\n"),
				one(syncDir(), rename("current.tmp", "current"), syncDir()),
				begins(1)),
		},
		"Open of one with files, and others": {
			setup: s, call: opening(s), seen: `"a" at 9 = "new"; "c" at 6 = "old"; "d" at 2 = "d"; `,
			lay: onDisk(func(t *testing.T) *vfs.Fs {
				f := tables(t)
				for _, name := range []string{"wal.tmp", tableName(12), manifestName(3), "current.tmp", tableName(1), "other"} {
					put(t, f, name, "left")
				}
				put(t, f, segmentName(3), segment(3))
				put(t, f, segmentName(4), segment(4))
				fine(t, f.Append("other", []byte("not synced")))
				return f
			}),
			operations: together(
				opens(1), one(read(segmentName(3)), read(segmentName(4)), syncs(segmentName(4))), begins(5),
				one(remove("current.tmp"), remove(manifestName(3)), remove(tableName(1)), remove(tableName(12)), remove("wal.tmp"), syncDir()),
				reads(tableName(7), 3), reads(tableName(3), 3), reads(tableName(5), 3)),
		},
		"Open with a manifest that is rolled": {
			setup: s, lay: onDisk(rolled), call: opening(s),
			operations: together(
				opens(5), one(remove(manifestName(6))), made(manifestName(6), editRow(api.Edit{Next: 2, Seq: 3})), made("current.tmp", manifestName(6)+"\n"),
				one(syncDir(), rename("current.tmp", "current"), syncDir(), remove(manifestName(5))),
				one(read(segmentName(4)), syncs(segmentName(4))), begins(5)),
		},
		"Open with a last segment that is torn": {
			setup: s, call: opening(s), seen: `"a" at 1 = "x"; `,
			lay: onDisk(func(t *testing.T) *vfs.Fs {
				return laid(t, nil, map[string]string{segmentName(3): torn[:len(torn)-1], "wal.tmp": "left"})
			}),
			operations: together(
				opens(1), one(read(segmentName(3)), remove("wal.tmp")), made("wal.tmp", segment(3, record)),
				one(rename("wal.tmp", segmentName(3)), syncDir()), begins(4)),
		},
		"Open where a segment lies that no log has": {
			setup: s, call: opening(s),
			lay: onDisk(func(t *testing.T) *vfs.Fs {
				return laid(t, nil, map[string]string{segmentName(2): "half"})
			}),
			operations: together(
				opens(1), one(read(segmentName(2)), remove(segmentName(2)), syncDir()), begins(1)),
		},
	}
}

// scenesOfWork tells those of Write and of the steps.
func scenesOfWork(t *testing.T) map[string]scene {
	t.Helper()
	s, narrow := small(), small()
	narrow.Target = 64
	hasty := narrow
	hasty.Pick.Trigger = 1
	a1, a2, b2 := has("a", 1, long("1")), has("a", 2, long("2")), has("b", 2, long("2"))
	ab, c := []api.Entry{has("a", 4, "4"), b2}, []api.Entry{has("c", 5, long("5"))}
	return map[string]scene{
		"Write": {
			setup: s, call: func(t *testing.T, e *lsm.Engine, f *vfs.Fs) (*lsm.Engine, api.Errno) {
				n, x := e.Write([]api.Write{set("b", "y"), gone("a")})
				if x == api.OK && n != 3 || x != api.OK && n != 0 {
					t.Fatalf("Write: %d, %d", n, x)
				}
				return e, x
			},
			lay:        behind(s, func(t *testing.T, e *lsm.Engine, f *vfs.Fs) { writes(t, e, set("a", "x")) }),
			operations: one(write(segmentName(1), framed(1, batchBytes(2, set("b", "y"), gone("a")))), syncs(segmentName(1))),
			seen:       `"a" at 1 = "x"; `, written: `"b" at 2 = "y"; `,
		},
		"a freeze": {
			setup: s, call: working(api.WorkFreeze), seen: told(a1),
			lay: behind(s, func(t *testing.T, e *lsm.Engine, f *vfs.Fs) {
				writes(t, e, set("a", long("1")))
				fine(t, f.Create("other"), f.Append("other", []byte("not synced")))
			}),
			operations: begins(2),
		},
		"a freeze, a file in its way": {
			setup: s, call: working(api.WorkFreeze), seen: told(a1),
			lay: behind(s, func(t *testing.T, e *lsm.Engine, f *vfs.Fs) {
				writes(t, e, set("a", long("1")))
				put(t, f, segmentName(2), segment(2)[:5])
			}),
			operations: append(one(remove(segmentName(2))), begins(2)...),
		},
		"a flush of one file": {
			setup: s, call: working(api.WorkFlush), known: 9, seen: told(a1, has("c", 2, "c")),
			lay: behind(s, func(t *testing.T, e *lsm.Engine, f *vfs.Fs) {
				writes(t, e, set("a", long("1")))
				works(t, e, api.WorkFreeze)
				writes(t, e, set("c", "c"))
			}),
			operations: together(
				made(tableName(1), tableBytes(t, s, a1)), one(syncDir()), reads(tableName(1), 3),
				one(write(manifestName(1), editRow(api.Edit{Next: 2, Seq: 1, Log: 2, Adds: []api.Add{add(0, fileOf(t, s, 1, a1))}})), syncs(manifestName(1))),
				one(remove(segmentName(1)), syncDir())),
		},
		"a flush of two files, two segments behind it": {
			setup: narrow, call: working(api.WorkFlush), known: 15, seen: told(a1, b2),
			lay: func(t *testing.T) (*lsm.Engine, *vfs.Fs) {
				e, f := begun(t, narrow)
				writes(t, e, set("a", long("1")), set("b", long("2")))
				e = opened(t, "anew", f, narrow)
				works(t, e, api.WorkFreeze)
				return e, f
			},
			operations: together(
				made(tableName(1), tableBytes(t, s, a1)), made(tableName(2), tableBytes(t, s, b2)), one(syncDir()),
				reads(tableName(1), 3), reads(tableName(2), 3),
				one(write(manifestName(1), editRow(api.Edit{Next: 3, Seq: 2, Log: 3, Adds: []api.Add{add(0, fileOf(t, s, 1, a1)), add(0, fileOf(t, s, 2, b2))}})), syncs(manifestName(1))),
				one(remove(segmentName(1)), remove(segmentName(2)), syncDir())),
		},
		"a compaction of level 0, Lower empty": {
			setup: s, call: working(api.WorkCompact), known: 11, seen: told(a2),
			lay: behind(s, func(t *testing.T, e *lsm.Engine, f *vfs.Fs) {
				flushed(t, e, []api.Write{set("a", long("1"))}, []api.Write{set("a", long("2"))})
			}),
			operations: together(
				reads(tableName(2), 1), reads(tableName(1), 1),
				made(tableName(3), tableBytes(t, s, a2)), one(syncDir()), reads(tableName(3), 3),
				one(write(manifestName(1), editRow(api.Edit{Next: 4, Seq: 2, Log: 3,
					Drops: []api.Drop{{Level: 0, Number: 1}, {Level: 0, Number: 2}}, Adds: []api.Add{add(1, fileOf(t, s, 3, a2))}})), syncs(manifestName(1))),
				one(remove(tableName(1)), remove(tableName(2)), syncDir())),
		},
		"a compaction of which nothing is left": {
			setup: s, call: working(api.WorkCompact), known: 4, seen: "",
			lay: behind(s, func(t *testing.T, e *lsm.Engine, f *vfs.Fs) {
				flushed(t, e, []api.Write{set("a", long("1"))}, []api.Write{gone("a"), gone("a")})
			}),
			operations: together(
				reads(tableName(2), 1), reads(tableName(1), 1),
				one(write(manifestName(1), editRow(api.Edit{Next: 3, Seq: 3, Log: 3,
					Drops: []api.Drop{{Level: 0, Number: 1}, {Level: 0, Number: 2}}})), syncs(manifestName(1))),
				one(remove(tableName(1)), remove(tableName(2)), syncDir())),
		},
		"a compaction into two files, Lower of three": {
			setup: hasty, call: working(api.WorkCompact), known: 19, seen: told(has("a", 4, "4"), has("b", 2, long("2")), has("c", 5, long("5"))),
			lay: behind(hasty, func(t *testing.T, e *lsm.Engine, f *vfs.Fs) {
				flushed(t, e, []api.Write{set("a", long("1")), set("b", long("2")), set("c", long("3"))})
				works(t, e, api.WorkCompact, api.WorkCompact, api.WorkCompact)
				flushed(t, e, []api.Write{set("a", "4"), set("c", long("5"))})
				if levels(e.Version()) != "7/4 5 6///" {
					t.Fatal(levels(e.Version()))
				}
			}),
			operations: together(
				reads(tableName(7), 1), reads(tableName(4), 1), reads(tableName(5), 1), reads(tableName(6), 1),
				made(tableName(8), tableBytes(t, s, ab...)), made(tableName(9), tableBytes(t, s, c...)), one(syncDir()),
				reads(tableName(8), 3), reads(tableName(9), 3),
				one(write(manifestName(1), editRow(api.Edit{Next: 10, Seq: 5, Log: 3,
					Drops: []api.Drop{{Level: 0, Number: 7}, {Level: 1, Number: 4}, {Level: 1, Number: 5}, {Level: 1, Number: 6}},
					Adds:  []api.Add{add(1, fileOf(t, s, 8, ab...)), add(1, fileOf(t, s, 9, c...))}})), syncs(manifestName(1))),
				one(remove(tableName(7)), remove(tableName(4)), remove(tableName(5)), remove(tableName(6)), syncDir())),
		},
		"no work": {
			setup: s, call: working(api.WorkNone), seen: `"b" at 1 = "1"; `,
			lay: behind(s, func(t *testing.T, e *lsm.Engine, f *vfs.Fs) { writes(t, e, set("b", "1")) }),
		},
		"a compaction, Lower not empty": {
			setup: s, call: working(api.WorkCompact), known: 11, seen: told(has("a", 3, long("3")), has("b", 4, long("4"))),
			lay: behind(s, func(t *testing.T, e *lsm.Engine, f *vfs.Fs) {
				flushed(t, e, []api.Write{set("a", long("1"))}, []api.Write{set("a", long("2"))})
				works(t, e, api.WorkCompact)
				flushed(t, e, []api.Write{set("a", long("3"))}, []api.Write{set("b", long("4"))})
			}),
			operations: together(
				reads(tableName(4), 1), reads(tableName(3), 1),
				made(tableName(6), tableBytes(t, s, has("a", 3, long("3")))), one(syncDir()), reads(tableName(6), 3),
				one(write(manifestName(1), editRow(api.Edit{Next: 7, Seq: 4, Log: 5,
					Drops: []api.Drop{{Level: 0, Number: 4}, {Level: 1, Number: 3}}, Adds: []api.Add{add(1, fileOf(t, s, 6, has("a", 3, long("3"))))}})), syncs(manifestName(1))),
				one(remove(tableName(4)), remove(tableName(3)), syncDir())),
		},
	}
}

// strike makes the operation behind n further ones fail, and answers how.
type strike func(t *testing.T, f *vfs.Fs, n int) api.Errno

func byFuse(t *testing.T, f *vfs.Fs, n int) api.Errno {
	t.Helper()
	fine(t, f.Fuse(n))
	return api.ErrOff
}

func byFault(e api.Errno) strike {
	return func(t *testing.T, f *vfs.Fs, n int) api.Errno {
		t.Helper()
		fine(t, f.Fault(n, e))
		return e
	}
}

// play goes through a scene whose operation n fails, or none, and answers the
// engine, if there is one, and its disk. It fails unless the disk is like one on
// which just the operations ahead of it were done, which is answered, too.
func (c scene) play(t *testing.T, what string, n int, how strike) (e *lsm.Engine, f, twin *vfs.Fs) {
	t.Helper()
	e, f = c.lay(t)
	_, twin = c.lay(t)
	ops, isOpen := f.Ops(), e == nil
	var version string
	var open, frozen int
	if !isOpen {
		version = toldVersion(e.Version())
		open, frozen = e.Memory()
	}
	want, operations := how(t, f, n), n+1
	if n == len(c.operations) {
		want, operations = api.OK, n
	}
	e, x := c.call(t, e, f)
	refused(t, what, x, want)
	took(t, what, f, ops, operations)
	for i, do := range c.operations[:n] {
		if x := do(twin); x != api.OK {
			t.Fatalf("%s: operation %d: %d", what, i, x)
		}
	}
	if got, want := likeness(f), likeness(twin); got != want {
		t.Fatalf("%s: the disk has %s, want %s", what, got, want)
	}
	fine(t, f.Fuse(-1), f.Fault(-1, api.ErrIO))
	switch {
	case isOpen && (e == nil) != (want != api.OK):
		t.Fatalf("%s: Open: %v, %d", what, e, x)
	case isOpen || want == api.OK:
		return e, f, twin
	}
	stopped(t, what, e, f)
	memory(t, what, e, open, frozen)
	isKnown := c.known > 0 && n >= c.known
	if got := toldVersion(e.Version()); (got != version) != isKnown {
		t.Errorf("%s: Version %s, was %s", what, got, version)
	}
	return e, f, twin
}

// scenes tells all of them.
func scenes(t *testing.T) map[string]scene {
	t.Helper()
	all := scenesOfOpen(t)
	for name, c := range scenesOfWork(t) {
		all[name] = c
	}
	return all
}

// fits fails unless what is seen at the last number is what the scene tells.
func (c scene) fits(t *testing.T, what string, e *lsm.Engine, done bool) {
	t.Helper()
	got, written := sees(t, what, e, e.Seq()), c.written
	if written == "" {
		written = c.seen
	}
	if got != written && (done || got != c.seen) {
		t.Errorf("%s: it sees %s, want %s", what, got, c.seen)
	}
}

func TestOperationsOneByOne(t *testing.T) {
	t.Parallel()
	for name, c := range scenes(t) {
		for n := range len(c.operations) + 1 {
			for dir := range 7 {
				for _, keep := range []int{0, 1, 13, 40, 1 << 20} {
					what := fmt.Sprintf("%s, off at %d, crash of %d, %d", name, n, dir, keep)
					_, f, twin := c.play(t, what, n, byFuse)
					keeps := []int{keep, keep, keep, keep, keep, keep, keep, keep}
					fine(t, f.Crash(dir, keeps), twin.Crash(dir, keeps))
					if got, want := contents(t, f), contents(t, twin); got != want {
						t.Fatalf("%s: the disk has %s, want %s", what, got, want)
					}
					e := opened(t, what, f, c.setup)
					c.fits(t, what, e, n == len(c.operations))
					rest(t, e)
					c.fits(t, what+", at rest", e, n == len(c.operations))
				}
			}
		}
	}
}

// P16.7: behind an error what was answered stays, and reads go on.
func TestErrorAtEveryOperation(t *testing.T) {
	for name, c := range scenes(t) {
		for n := range len(c.operations) + 1 {
			for _, how := range []strike{byFuse, byFault(api.ErrIO), byFault(api.ErrFull)} {
				what := fmt.Sprintf("%s, struck at %d", name, n)
				e, f, _ := c.play(t, what, n, how)
				if !f.On() {
					fine(t, f.Crash(0, nil))
				}
				struck := n < len(c.operations)
				if e != nil && struck {
					// What was read is told on, also by one that is read-only.
					if got := sees(t, what, e, e.Seq()); got != c.seen {
						t.Errorf("%s: it sees %s, want %s", what, got, c.seen)
					}
					stopped(t, what+", the disk being on again", e, f)
				}
				for range 2 {
					e = opened(t, what+", opened anew", f, c.setup)
					c.fits(t, what+", opened anew", e, !struck)
				}
				rest(t, e)
				c.fits(t, what+", at rest", e, !struck)
				writes(t, e, set("z", "z"))
				fine(t, f.Crash(0, nil))
				gets(t, opened(t, what+", crashed", f, c.setup), e.Seq(), "z", "z")
			}
		}
	}
}
