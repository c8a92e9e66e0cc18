package manifest_test

import (
	"fmt"
	"strings"
	"testing"

	"bootprint/api"
	"bootprint/manifest"
	"bootprint/version"
	"bootprint/vfs"
)

// P13.1: Open

func TestOpenOfNoFileSystem(t *testing.T) {
	for _, f := range []*vfs.Fs{nil, {}, new(vfs.Fs)} {
		notOpened(t, "no file system", f, api.ErrNil)
	}
}

func TestOpenOfAnEmptyFileSystem(t *testing.T) {
	f := fresh(t)
	m := opened(t, "empty", f, version.First(), 1)
	took(t, "Open", f, 0, 9)
	named(t, f, "current", first)
	if m.Size() != len(rowOf(beginning())) {
		t.Errorf("Size: %d, want %d", m.Size(), len(rowOf(beginning())))
	}
	// All of it is synced.
	fine(t, f.Crash(0, nil))
	named(t, f, "current", first)
	holds(t, f, "current", first+"\n")
	holds(t, f, first, rowOf(beginning()))
}

// Without current there is no manifest, whatever other files there are.
func TestOpenWithoutCurrent(t *testing.T) {
	f := fresh(t)
	for _, name := range []string{first, second, last, "manifest-000000000000", "current.tmp", "wal-000000000001", "table-000000000001", "a"} {
		put(t, f, name, "other "+name)
	}
	opened(t, "without current", f, version.First(), 1)
	named(t, f, "a", "current", "manifest-000000000000", first, second, last, "table-000000000001", "wal-000000000001")
	for _, name := range []string{"a", "manifest-000000000000", second, last, "table-000000000001", "wal-000000000001"} {
		holds(t, f, name, "other "+name)
	}
	holds(t, f, "current", first+"\n")
	holds(t, f, first, rowOf(beginning()))
}

func TestOpenOfADiskThatIsOff(t *testing.T) {
	_, whole := begun(t, some()...)
	for _, f := range []*vfs.Fs{fresh(t), whole, disk(t, 1, "bad")} {
		fine(t, f.Fuse(0))
		refused(t, "SyncDir", f.SyncDir(), api.ErrOff)
		notOpened(t, "off", f, api.ErrOff)
	}
}

func TestCurrentThatIsNotAsTold(t *testing.T) {
	for _, line := range []string{
		"",
		"\n",
		first,
		first + " ",
		first + "\r\n",
		first + "\n\n",
		first + "\nx",
		first + "\n" + first + "\n",
		first + "\x00\n",
		" " + first + "\n",
		"\n" + first + "\n",
		first[1:] + "\n",
		first[:20] + "\n",
		first + "1\n",
		"000000000001\n",
		"manifest-1\n",
		"manifest-+00000000001\n",
		"manifest-1000000000000\n",
		"manifest-\n",
		"MANIFEST-000000000001\n",
		"wal-000000000001\n",
		"table-000000000001\n",
		"current\n",
		"current.tmp\n",
		strings.Repeat(first+"\n", 100),
	} {
		f := disk(t, 1, rowOf(beginning()))
		put(t, f, "current", line)
		isBad(t, fmt.Sprintf("current of %q", shortly(line)), f, 1)
	}
}

func TestManifestsFileThatIsNotThere(t *testing.T) {
	for _, name := range []string{second, "manifest-000000000000", last} {
		f := disk(t, 1, rowOf(beginning()))
		put(t, f, "current", name+"\n")
		isBad(t, "no "+name, f, 1)
	}
}

// No Read is done of a file that is not there: the one of current is the only
// operation, and what strikes the one behind it strikes none of Open's.
func TestStruckWithoutTheManifestsFile(t *testing.T) {
	for _, how := range []strike{byFuse, byFault(api.ErrIO), byFault(api.ErrFull)} {
		f := fresh(t)
		put(t, f, "current", "manifest-000000000005\n")
		for n := range 3 {
			before, e := f.Ops(), how(t, f, n+1)
			notOpened(t, "no file, struck behind", f, api.ErrBad)
			took(t, "Open", f, before, 1)
			if !f.On() {
				t.Fatal("the disk is off")
			}
			for range n {
				fine(t, f.SyncDir())
			}
			refused(t, "what is behind Open", f.SyncDir(), e)
			fine(t, f.Crash(0, nil))
			// The Read of current is struck ahead of all that it would tell.
			e = how(t, f, 0)
			notOpened(t, "no file, struck", f, e)
			fine(t, f.Crash(0, nil))
		}
		isBad(t, "no file", f, 1)
	}
}

// badRows tells rows that are no manifest's, whatever stands behind them.
func badRows() map[string]string {
	good := rowOf(beginning())
	one := editBytes(adds(2))
	rows := map[string]string{
		"a first frame with a bit turned":      "\x04" + good[1:],
		"a second frame with a bit turned":     good + "\x04" + good[1:],
		"a frame that says it is too long":     good + headFor(5, 1<<20+1) + strings.Repeat("x", 1<<20+5),
		"a first one that says it is too long": headFor(5, 1<<20+1) + strings.Repeat("x", 1<<20+5),
		"other bytes":                          good + "some other bytes",
		"an edit without bytes":                good + framed(5, ""),
		"a first edit without bytes":           framed(5, ""),
		"an edit with a byte behind":           good + framed(5, one+"\x00"),
		"an edit with a number above 2^62":     good + framed(5, short(1<<62+1, 0, 0, 0, 0)),
		"an edit with too many drops":          good + framed(5, short(1, 0, 0, 10001)+strings.Repeat("\x00\x01", 10001)+"\x00"),
		"an edit with too many adds":           good + framed(5, short(1, 0, 0, 0, 10001)),
		"an edit with a number too long":       good + framed(5, "\x80\x00"+one[1:]),
		"a first edit that drops":              rowOf(api.Edit{Next: 2, Drops: []api.Drop{drop(0, 1)}}),
		"an edit that drops what is not there": rowOf(beginning(), adds(2), api.Edit{Next: 2, Drops: []api.Drop{drop(1, 1)}}),
		"an edit that adds what is there":      rowOf(beginning(), adds(2), adds(2)),
		"a first edit without Next":            rowOf(api.Edit{}),
		"an edit without Next":                 rowOf(beginning(), api.Edit{}),
		"a first edit whose Next is too low":   rowOf(api.Edit{Next: 1, Adds: adds(2).Adds}),
		"an edit of a level that is none":      rowOf(beginning(), api.Edit{Next: 2, Adds: []api.Add{add(5, file(1, "a", "b"))}}),
		"an edit that overlaps":                rowOf(beginning(), api.Edit{Next: 3, Adds: []api.Add{add(1, file(1, "a", "c")), add(1, file(2, "c", "d"))}}),
		"an edit with too great a Seq":         rowOf(beginning(), api.Edit{Next: 1, Seq: 1 << 56}),
		"an edit with too great a Log":         rowOf(beginning(), api.Edit{Next: 1, Log: trillion}),
		"an edit with too great a Next":        rowOf(beginning(), api.Edit{Next: trillion + 1}),
		"an edit with too great a file":        rowOf(beginning(), api.Edit{Next: 2, Adds: []api.Add{add(0, api.File{Number: 1, Size: 1<<24 + 1, Least: []byte("a"), Most: []byte("b"), Entries: 1})}}),
	}
	for n := range len(one) {
		rows[fmt.Sprintf("an edit of %d bytes", n)] = good + framed(5, one[:n])
	}
	for kind := range 256 {
		if kind != 5 {
			rows[fmt.Sprintf("a first frame of the Kind %d", kind)] = framed(byte(kind), editBytes(beginning()))
			rows[fmt.Sprintf("a frame of the Kind %d", kind)] = good + framed(byte(kind), one)
		}
	}
	return rows
}

func TestManifestsFileThatIsBad(t *testing.T) {
	for what, row := range badRows() {
		isBad(t, what, disk(t, 1, row), 2)
		// Neither what follows, nor that it is torn, makes it better: where one
		// edit is bad, nothing is rolled.
		isBad(t, what+", an edit behind", disk(t, 1, row+rowOf(adds(2))), 2)
		isBad(t, what+", torn behind", disk(t, 7, row+rowOf(adds(2))[:9]), 2)
	}
}

func TestManifestsFileWithoutAWholeFirstFrame(t *testing.T) {
	row := rowOf(adds(2))
	for n := range len(row) {
		isBad(t, fmt.Sprintf("a file of %d bytes", n), disk(t, 1, row[:n]), 2)
		// With files in the way: they stay.
		f := disk(t, 1, row[:n])
		put(t, f, second, "left")
		put(t, f, "current.tmp", "left")
		isBad(t, fmt.Sprintf("a file of %d bytes, and others", n), f, 2)
	}
}

// ends tells at which places of the row of these edits a frame ends, and how
// many frames there are ahead.
func ends(edits ...api.Edit) map[int]int {
	places := map[int]int{}
	for n := range len(edits) + 1 {
		places[len(rowOf(edits[:n]...))] = n
	}
	return places
}

func TestRowCutAtEveryPlace(t *testing.T) {
	edits := append([]api.Edit{beginning()}, some()...)
	row := rowOf(edits...)
	places := ends(edits...)
	whole := 1
	for cut := len(rowOf(edits[0])); cut <= len(row); cut++ {
		n, isEnd := places[cut]
		if isEnd {
			whole = n
		}
		v := made(t, edits[:whole]...)
		what := fmt.Sprintf("cut at %d", cut)
		f := disk(t, 41, row[:cut])
		ops := f.Ops()
		if isEnd {
			opened(t, what, f, v, 41)
			took(t, what, f, ops, 3)
			named(t, f, "current", "manifest-000000000041")
			holds(t, f, "manifest-000000000041", row[:cut])
			holds(t, f, "current", "manifest-000000000041\n")
			continue
		}
		opened(t, what, f, v, 42)
		took(t, what, f, ops, 12)
		named(t, f, "current", "manifest-000000000042")
		holds(t, f, "manifest-000000000042", wholeRow(v))
		holds(t, f, "current", "manifest-000000000042\n")
		fine(t, f.Crash(0, nil))
		opened(t, what+", crashed", f, v, 42)
	}
}

// A row that is cut has files in its way when it is rolled.
func TestTornRowWithFilesLeft(t *testing.T) {
	row := rowOf(beginning(), adds(2)) + rowOf(adds(3))[:11]
	for _, left := range []string{"", "left", wholeRow(made(t, some()...))} {
		f := disk(t, 1, row)
		put(t, f, second, left)
		put(t, f, "current.tmp", left+"x")
		put(t, f, third, left)
		ops := f.Ops()
		opened(t, "files left", f, made(t, adds(2)), 2)
		took(t, "Open", f, ops, 14)
		named(t, f, "current", second, third)
		holds(t, f, third, left)
		holds(t, f, "current", second+"\n")
		holds(t, f, second, wholeRow(made(t, adds(2))))
	}
}

// Every bit of the row turned: never is another version told.
func TestRowTornByAnotherError(t *testing.T) {
	row := rowOf(append([]api.Edit{beginning()}, some()[:3]...)...)
	for at := range len(row) {
		for bit := range 8 {
			f := disk(t, 1, row)
			fine(t, f.Turn(first, at, 1<<bit))
			isBad(t, fmt.Sprintf("bit %d of byte %d turned", bit, at), f, 2)
		}
	}
}

func TestBitsOfCurrentTurned(t *testing.T) {
	for at := range 22 {
		for bit := range 8 {
			f := disk(t, 1, rowOf(beginning(), adds(2)))
			fine(t, f.Turn("current", at, 1<<bit))
			// Another name may be told, but no file of that name is there.
			what := fmt.Sprintf("bit %d of byte %d of current turned", bit, at)
			isBad(t, what, f, 1)
		}
	}
}

// A row that is not torn is synced: what is told now is told behind a crash.
func TestWholeRowIsSynced(t *testing.T) {
	edits := some()
	for n := range len(edits) {
		f := disk(t, 1, rowOf(beginning()))
		fine(t, f.Append(first, []byte(rowOf(edits[:n]...))))
		v := made(t, edits[:n]...)
		opened(t, "not synced", f, v, 1)
		fine(t, f.Crash(0, nil))
		opened(t, "crashed", f, v, 1)
		fine(t, f.Crash(0, nil))
		opened(t, "crashed again", f, v, 1)
	}
}

// Files that current does not name are none of the manifest's.
func TestOpenLeavesOtherFiles(t *testing.T) {
	f := disk(t, 2, rowOf(beginning(), adds(2)))
	for _, name := range []string{first, third, "manifest-000000000000", "manifest-1", "current.tmp", "wal.tmp", "wal-000000000001", "table-000000000001"} {
		put(t, f, name, "other "+name)
	}
	before := contents(t, f)
	opened(t, "other files", f, made(t, adds(2)), 2)
	if got := contents(t, f); got != before {
		t.Errorf("the disk has %s, want %s", got, before)
	}
}

func TestNumberZero(t *testing.T) {
	const zero = "manifest-000000000000"
	f := disk(t, 0, rowOf(beginning(), adds(2)))
	m := opened(t, "0", f, made(t, adds(2)), 0)
	fine(t, m.Append(adds(3)))
	tells(t, "0, appended", m, f, made(t, adds(2), adds(3)), 0)
	fine(t, m.Roll())
	tells(t, "rolled to 1", m, f, made(t, adds(2), adds(3)), 1)
	named(t, f, "current", first)

	// Torn, it is rolled to 1, and there is one ahead.
	f = disk(t, 0, rowOf(beginning(), adds(2))+"torn")
	ops := f.Ops()
	opened(t, "0, torn", f, made(t, adds(2)), 1)
	took(t, "Open", f, ops, 12)
	named(t, f, "current", first)
	if f.Size(zero) >= 0 {
		t.Error("the one ahead is left")
	}
}

// The greatest number has none behind it: it is not rolled, and goes on.
func TestGreatestNumber(t *testing.T) {
	f := disk(t, trillion-1, rowOf(beginning(), adds(2)))
	m := opened(t, "the greatest", f, made(t, adds(2)), trillion-1)
	for next := uint64(3); next < 6; next++ {
		ops := f.Ops()
		refused(t, "Roll", m.Roll(), api.ErrArg)
		took(t, "Roll", f, ops, 0)
		fine(t, m.Append(adds(next)))
	}
	v := made(t, adds(2), adds(3), adds(4), adds(5))
	tells(t, "the greatest, appended", m, f, v, trillion-1)
	named(t, f, "current", last)
	opened(t, "the greatest, anew", f, v, trillion-1)

	fine(t, f.Append(last, []byte("torn")))
	before := contents(t, f)
	ops := f.Ops()
	notOpened(t, "the greatest, torn", f, api.ErrArg)
	took(t, "Open", f, ops, 2)
	if got := contents(t, f); got != before {
		t.Errorf("the disk has %s, want %s", got, before)
	}

	f = disk(t, trillion-2, rowOf(beginning()))
	m = opened(t, "the greatest but one", f, version.First(), trillion-2)
	fine(t, m.Roll())
	tells(t, "the greatest but one, rolled", m, f, version.First(), trillion-1)
	refused(t, "Roll", m.Roll(), api.ErrArg)
	if manifest.Name(m.Number()) != last {
		t.Errorf("Number: %d", m.Number())
	}
}
