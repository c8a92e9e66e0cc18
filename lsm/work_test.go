package lsm_test

import (
	"fmt"
	"slices"
	"strings"
	"testing"

	"bootprint/api"
	"bootprint/block"
	"bootprint/bloom"
	"bootprint/vfs"
	"bootprint/wire"
)

// P16.2, Work and Idle

// Where several steps might come, the first one does.
func TestWhichStepComesFirst(t *testing.T) {
	e, _ := begun(t, small())
	fill := []api.Write{set("a", long("x"))}
	writes(t, e, fill...)
	works(t, e, api.WorkFreeze)
	memory(t, "frozen", e, 0, 74)
	// One is frozen, the next is full: what is frozen goes first.
	writes(t, e, fill...)
	memory(t, "both", e, 74, 74)
	works(t, e, api.WorkFlush)
	memory(t, "flushed", e, 74, 0)
	works(t, e, api.WorkFreeze)
	writes(t, e, fill...)
	works(t, e, api.WorkFlush)
	// Now two files wait to be put together, and one is full.
	if levels(e.Version()) != "1 2////" {
		t.Fatal(levels(e.Version()))
	}
	works(t, e, api.WorkFreeze, api.WorkFlush, api.WorkCompact, api.WorkNone, api.WorkNone)
	if levels(e.Version()) != "/4///" {
		t.Fatal(levels(e.Version()))
	}
	memory(t, "at rest", e, 0, 0)
	// Frozen ahead of a compaction.
	flushed(t, e, fill, fill)
	writes(t, e, fill...)
	works(t, e, api.WorkFreeze)
	if levels(e.Version()) != "5 6/4///" {
		t.Fatal(levels(e.Version()))
	}
	works(t, e, api.WorkFlush, api.WorkCompact, api.WorkNone)
	gets(t, e, e.Seq(), "a", long("x"))
}

func TestFreezeBeginsASegment(t *testing.T) {
	e, f := begun(t, small())
	writes(t, e, set("a", long("x")))
	works(t, e, api.WorkFreeze)
	holds(t, f, segmentName(2), segment(2))
	writes(t, e, set("b", "y"))
	holds(t, f, segmentName(2), segment(2, batchBytes(2, set("b", "y"))))
	holds(t, f, segmentName(1), segment(1, batchBytes(1, set("a", long("x")))))
	memory(t, "frozen", e, 34, 74)
	gets(t, e, 2, "a", long("x"), "b", "y")
	// What is written while a table is frozen stays in the log.
	works(t, e, api.WorkFlush)
	named(t, "flushed", f, "current", manifestName(1), tableName(1), segmentName(2))
	if v := e.Version(); v.Log != 2 || v.Seq != 1 || v.Next != 2 {
		t.Errorf("Version: %s", toldVersion(v))
	}
	memory(t, "flushed", e, 34, 0)
	gets(t, e, 2, "a", long("x"), "b", "y")
	fine(t, f.Crash(0, nil))
	gets(t, opened(t, "crashed", f, small()), 2, "a", long("x"), "b", "y")
}

// Of one key what nobody sees stays out of the file.
func TestFlushLeavesOutWhatNobodySees(t *testing.T) {
	e, f := begun(t, quiet())
	writes(t, e, set("a", "1"))
	if _, x := e.Snapshot(); x != api.OK {
		t.Fatal(x)
	}
	writes(t, e, set("a", "2"), set("a", "3"), set("b", long("4")))
	if _, x := e.Snapshot(); x != api.OK {
		t.Fatal(x)
	}
	writes(t, e, gone("a"), gone("c"), set("b", "5"))
	works(t, e, api.WorkFreeze, api.WorkFlush)
	want := []api.Entry{hasNot("a", 5), has("a", 3, "3"), has("a", 1, "1"), has("b", 7, "5"), has("b", 4, long("4")), hasNot("c", 6)}
	holds(t, f, tableName(1), tableBytes(t, quiet(), want...))
	if v := e.Version(); toldVersion(v) != toldVersion(api.Version{Levels: [][]api.File{{fileOf(t, quiet(), 1, want...)}, nil, nil, nil, nil}, Next: 2, Seq: 7, Log: 2}) {
		t.Errorf("Version: %s", toldVersion(v))
	}
	gets(t, e, 1, "a", "1", "b", "-")
	gets(t, e, 4, "a", "3", "b", long("4"), "c", "-")
	gets(t, e, 7, "a", "-", "b", "5", "c", "-")
	fine(t, e.Release(1), e.Release(4))
	// A flush is not the bottom: deletes stay.
	flushed(t, e, []api.Write{gone("x"), gone("y")})
	holds(t, f, tableName(2), tableBytes(t, quiet(), hasNot("x", 8), hasNot("y", 9)))
}

// The version's Seq is the greatest of the frozen entries, whatever their order,
// and whatever was written since.
func TestFlushNotesTheLastNumber(t *testing.T) {
	e, f := begun(t, quiet())
	writes(t, e, set("z", long("1")), set("a", "2"), set("m", "3"))
	works(t, e, api.WorkFreeze)
	writes(t, e, set("a", "4"))
	works(t, e, api.WorkFlush)
	if v := e.Version(); v.Seq != 3 || v.Log != 2 || e.Seq() != 4 {
		t.Errorf("Seq %d, Log %d; %d", v.Seq, v.Log, e.Seq())
	}
	e = opened(t, "anew", f, quiet())
	if e.Seq() != 4 {
		t.Errorf("Seq %d", e.Seq())
	}
	writes(t, e, set("b", long("5")))
	works(t, e, api.WorkFreeze, api.WorkFlush)
	if v := e.Version(); v.Seq != 5 || v.Log != 4 {
		t.Errorf("Seq %d, Log %d", v.Seq, v.Log)
	}
	// All is in files: the number is the version's.
	if e = opened(t, "all in files", f, quiet()); e.Seq() != 5 {
		t.Errorf("Seq %d", e.Seq())
	}
}

// Files are cut at Target, behind a key.
func TestFlushOfSeveralFiles(t *testing.T) {
	for target, want := range map[int]string{64: "1 2 3 4////", 74: "1 2 3 4////", 75: "1 2////", 148: "1 2////", 149: "1 2////", 222: "1 2////", 223: "1////", 1 << 19: "1////"} {
		s := quiet()
		s.Target = target
		e, f := begun(t, s)
		flushed(t, e, []api.Write{set("a", long("1")), set("b", long("2")), set("c", long("3")), set("d", long("4"))})
		if levels(e.Version()) != want {
			t.Errorf("Target %d: %s, want %s", target, levels(e.Version()), want)
		}
		if v := e.Version(); int(v.Next) != len(v.Levels[0])+1 {
			t.Errorf("Target %d: Next %d", target, v.Next)
		}
		gets(t, e, 4, "a", long("1"), "b", long("2"), "c", long("3"), "d", long("4"))
		e = opened(t, "anew", f, s)
		scans(t, e, "", "", 4, 9, has("a", 1, long("1")), has("b", 2, long("2")), has("c", 3, long("3")), has("d", 4, long("4")))
	}
}

// Compactions

func TestCompactionsGoDownTheLevels(t *testing.T) {
	s := small()
	s.Pick = api.PickSetup{Trigger: 1, Base: 1, Factor: 2}
	e, f := begun(t, s)
	flushed(t, e, []api.Write{set("a", long("x")), gone("b")})
	for _, want := range []string{"/2///", "//3//", "///4/", "////5"} {
		works(t, e, api.WorkCompact)
		if levels(e.Version()) != want {
			t.Fatalf("%s, want %s", levels(e.Version()), want)
		}
		gets(t, e, 2, "a", long("x"), "b", "-")
	}
	works(t, e, api.WorkNone)
	named(t, "all the way down", f, "current", manifestName(1), tableName(5), segmentName(2))
	// At the bottom, which is each level without a deeper file, the delete went.
	holds(t, f, tableName(5), tableBytes(t, s, has("a", 1, long("x"))))
	// Above files of the same keys it is not the bottom.
	flushed(t, e, []api.Write{gone("a"), set("c", long("y"))})
	works(t, e, api.WorkCompact)
	holds(t, f, tableName(7), tableBytes(t, s, hasNot("a", 3), has("c", 4, long("y"))))
	works(t, e, api.WorkCompact, api.WorkCompact)
	holds(t, f, tableName(9), tableBytes(t, s, hasNot("a", 3), has("c", 4, long("y"))))
	works(t, e, api.WorkCompact, api.WorkNone)
	holds(t, f, tableName(10), tableBytes(t, s, has("c", 4, long("y"))))
	if levels(e.Version()) != "////10" {
		t.Errorf("%s", levels(e.Version()))
	}
	gets(t, e, 4, "a", "-", "b", "-", "c", long("y"))
}

// A level is due by its bytes, and of its files the oldest goes, with those of
// the next level that have keys between its own.
func TestCompactionOfADeeperLevel(t *testing.T) {
	s := small()
	size := fileOf(t, s, 1, has("a", 1, long("1"))).Size
	s.Pick = api.PickSetup{Trigger: 1, Base: 3 * size, Factor: 100}
	e, f := begun(t, s)
	for i, c := range []struct {
		key         string
		first, then string
	}{
		{"e", "/2///", ""},
		{"c", "/4 2///", ""},
		{"a", "/6 4 2///", "/6 4/7//"},
		{"g", "/6 4 9/7//", "/6 9/10 7//"},
		{"c", "/6 12 9/10 7//", "/12 9/13 10 7//"},
		{"i", "/12 9 15/13 10 7//", "/12 15/13 10 7 16//"},
		{"j", "/12 15 18/13 10 7 16//", "/15 18/13 19 7 16//"},
	} {
		flushed(t, e, []api.Write{set(c.key, long(fmt.Sprint(i)))})
		works(t, e, api.WorkCompact)
		if levels(e.Version()) != c.first {
			t.Fatalf("%d: %s, want %s", i, levels(e.Version()), c.first)
		}
		if c.then != "" {
			works(t, e, api.WorkCompact)
			if levels(e.Version()) != c.then {
				t.Fatalf("%d: %s, want %s", i, levels(e.Version()), c.then)
			}
		}
		works(t, e, api.WorkNone)
	}
	holds(t, f, tableName(19), tableBytes(t, s, has("c", 5, long("4"))))
	gets(t, e, 7, "a", long("2"), "c", long("4"), "e", long("0"), "g", long("3"), "i", long("5"), "j", long("6"))
}

// What nobody looks at any more goes with the next compaction.
func TestCompactionBySnapshots(t *testing.T) {
	e, f := begun(t, small())
	writes(t, e, set("a", "1"))
	one, x := e.Snapshot()
	fine(t, x)
	flushed(t, e, []api.Write{set("a", long("2"))}, []api.Write{set("a", long("3")), gone("b")})
	works(t, e, api.WorkCompact)
	holds(t, f, tableName(3), tableBytes(t, small(), has("a", 3, long("3")), has("a", 1, "1")))
	gets(t, e, one, "a", "1")
	gets(t, e, e.Seq(), "a", long("3"))
	fine(t, e.Release(one))
	flushed(t, e, []api.Write{set("b", long("5"))}, []api.Write{gone("a"), set("c", long("6"))})
	works(t, e, api.WorkCompact, api.WorkNone)
	// 4 has b alone, 5 a and c: they overlap, and all of 3 is below them.
	holds(t, f, tableName(6), tableBytes(t, small(), has("b", 5, long("5")), has("c", 7, long("6"))))
	gets(t, e, e.Seq(), "a", "-", "b", long("5"))
}

// Upper's newest file is read first, then the others, then Lower's in order: of
// several that are bad it is that one's error that is told.
func TestTheOrderInWhichFilesAreRead(t *testing.T) {
	lay := func(t *testing.T) (*vfs.Fs, api.Setup) {
		t.Helper()
		s := small()
		s.Pick.Trigger = 3
		e, f := begun(t, s)
		flushed(t, e, []api.Write{set("a", long("1")), set("b", long("1"))}, []api.Write{set("a", long("2"))}, []api.Write{set("b", long("3"))})
		works(t, e, api.WorkCompact)
		flushed(t, e, []api.Write{set("a", long("4"))}, []api.Write{set("a", long("5")), set("b", long("5"))}, []api.Write{set("b", long("6"))})
		if levels(e.Version()) != "5 6 7/4///" {
			t.Fatal(levels(e.Version()))
		}
		return f, s
	}
	order := []uint64{7, 6, 5, 4}
	for i, missing := range order {
		for _, bad := range order {
			if bad == missing {
				continue
			}
			f, s := lay(t)
			e := opened(t, "anew", f, s)
			fine(t, f.Turn(tableName(bad), 20, 1), f.Remove(tableName(missing)))
			want := api.ErrNone
			if slices.Index(order, bad) < i {
				want = api.ErrBad
			}
			if what, x := e.Work(); what != 0 || x != want {
				t.Errorf("%d missing, %d bad: %d, %d; want %d", missing, bad, what, x, want)
			}
			stopped(t, "behind it", e, f)
		}
	}
	f, s := lay(t)
	e := opened(t, "anew", f, s)
	works(t, e, api.WorkCompact, api.WorkNone)
	holds(t, f, tableName(8), tableBytes(t, s, has("a", 6, long("5")), has("b", 8, long("6"))))
}

// Entries and files that can't be put together so are ErrBad.
func TestFilesThatCanNotBePutTogether(t *testing.T) {
	s := small()
	s.Pick.Trigger = 1
	a, z := []api.Entry{has("a", 1, "x")}, []api.Entry{has("z", 2, "x")}
	tell := func(f api.File, least, most string) api.File {
		f.Least, f.Most = []byte(least), []byte(most)
		return f
	}
	for what, c := range map[string]struct {
		adds  []api.Add
		files map[string]string
	}{
		// The file has other keys than the version tells: what comes overlaps.
		"the file that comes overlaps": {
			adds:  []api.Add{add(0, tell(fileOf(t, s, 2, z...), "b", "c")), add(1, fileOf(t, s, 1, z...))},
			files: map[string]string{tableName(2): tableBytes(t, s, z...), tableName(1): tableBytes(t, s, z...)},
		},
		// Its blocks are in no order, which its index hides.
		"the entries are in no order": {
			adds:  []api.Add{add(0, fileOf(t, s, 2, has("c", 2, ""), has("z", 3, "")))},
			files: map[string]string{tableName(2): disordered(t)},
		},
	} {
		f := laid(t, []api.Edit{{Next: 5, Seq: 9, Log: 1, Adds: c.adds}}, c.files)
		e := opened(t, what, f, s)
		if n, x := e.Work(); n != 0 || x != api.ErrBad {
			t.Errorf("%s: Work %d, %d", what, n, x)
		}
		stopped(t, what, e, f)
		if got := levels(e.Version()); got != levels(opened(t, "anew", f, s).Version()) {
			t.Errorf("%s: %s", what, got)
		}
	}
	// A Scan of such a file is ErrBad, too.
	f := laid(t, []api.Edit{{Next: 5, Seq: 9, Log: 1, Adds: []api.Add{add(1, fileOf(t, s, 2, has("c", 2, ""), has("z", 3, "")))}}}, map[string]string{tableName(2): disordered(t)})
	e := opened(t, "in no order", f, s)
	if l, x := e.Scan(nil, nil, 9, 9); len(l) != 0 || x != api.ErrBad {
		t.Errorf("Scan: %s, %d", told(l...), x)
	}
	// Where all is as it must be, the same goes.
	f = laid(t, []api.Edit{{Next: 5, Seq: 9, Log: 1, Adds: []api.Add{add(0, fileOf(t, s, 2, a...)), add(1, fileOf(t, s, 1, z...))}}},
		map[string]string{tableName(2): tableBytes(t, s, a...), tableName(1): tableBytes(t, s, z...)})
	works(t, opened(t, "as it must be", f, s), api.WorkCompact, api.WorkNone)
}

// disordered tells a table of two blocks, the second of which begins ahead of
// where the first one ends.
func disordered(t *testing.T) string {
	t.Helper()
	blocks := [][]api.Entry{{has("d", 1, "x")}, {has("c", 2, "x"), has("z", 3, "x")}}
	out, index := "", short(2)
	for _, l := range blocks {
		b, x := block.Append(nil, l)
		fine(t, x)
		row, last := framed(2, string(b)), l[len(l)-1]
		index += short(uint64(len(out)), uint64(len(row))) + pieceOf(last.Key) + short(last.Seq)
		out += row
	}
	filter, x := bloom.Make([][]byte{[]byte("d"), []byte("c"), []byte("z")}, 10)
	fine(t, x)
	out += framed(3, string(filter))
	place := len(out)
	out += framed(4, index+short(3, 1, 3)+pieceOf([]byte("d"))+pieceOf([]byte("z")))
	return out + string(wire.Ordered(nil, uint64(place))) + "bootmark"
}

// A version that has no room for another file: the edit is refused, which is
// ErrBad.
func TestAVersionWithTooManyBytes(t *testing.T) {
	s := quiet()
	e, f := begun(t, s)
	// In the version each file's two keys have 8,192 bytes: 128 are too many.
	key := func(i int) string { return fmt.Sprintf("%04d", i) + strings.Repeat("k", 4092) }
	for i := range 127 {
		flushed(t, e, []api.Write{set(key(i), "x")})
	}
	for range 2 {
		if e.Seq() == 127 {
			writes(t, e, set(key(127), "y"))
		}
		works(t, e, api.WorkFreeze)
		if what, x := e.Work(); what != 0 || x != api.ErrBad {
			t.Fatalf("Work: %d, %d", what, x)
		}
		stopped(t, "too many bytes", e, f)
		if v := e.Version(); len(v.Levels[0]) != 127 || v.Next != 128 || f.Size(tableName(128)) < 0 {
			t.Errorf("%d files, Next %d", len(v.Levels[0]), v.Next)
		}
		gets(t, e, 128, key(0), "x", key(126), "x", key(127), "y", key(128), "-")
		e = opened(t, "anew", f, s)
		if f.Size(tableName(128)) >= 0 {
			t.Error("the file that was left is there")
		}
		gets(t, e, 128, key(0), "x", key(126), "x", key(127), "y", key(128), "-")
	}
}

func TestNumbersThatRunOut(t *testing.T) {
	s := small()
	// Of segments.
	f := laid(t, nil, map[string]string{segmentName(trillion - 2): segment(trillion - 2)})
	e := opened(t, "the last segment", f, s)
	writes(t, e, set("a", long("x")))
	if what, x := e.Work(); what != 0 || x != api.ErrArg {
		t.Errorf("Work: %d, %d", what, x)
	}
	stopped(t, "no segment left", e, f)
	gets(t, e, 1, "a", long("x"))
	// Of files.
	f = laid(t, []api.Edit{{Next: trillion - 1}}, nil)
	e = opened(t, "the last file", f, s)
	flushed(t, e, []api.Write{set("a", long("x"))})
	if v := e.Version(); v.Next != trillion || levels(v) != "999999999999////" {
		t.Errorf("%s", toldVersion(v))
	}
	gets(t, opened(t, "anew", f, s), 1, "a", long("x"))
	writes(t, e, set("b", long("y")))
	works(t, e, api.WorkFreeze)
	if what, x := e.Work(); what != 0 || x != api.ErrBad {
		t.Errorf("Work: %d, %d", what, x)
	}
	stopped(t, "no file left", e, f)
	gets(t, e, 2, "a", long("x"), "b", long("y"))
	gets(t, opened(t, "anew", f, s), 2, "a", long("x"), "b", long("y"))
}
