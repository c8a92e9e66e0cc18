package lsm_test

import (
	"fmt"
	"strings"
	"testing"

	"bootprint/api"
	"bootprint/lsm"
	"bootprint/vfs"
)

// P16.1, Open

func TestOpenOfNoFileSystem(t *testing.T) {
	for _, f := range []*vfs.Fs{nil, {}, new(vfs.Fs)} {
		notOpened(t, "none", f, small(), api.ErrNil)
		notOpened(t, "none, and a setup that may not be", f, api.Setup{}, api.ErrNil)
	}
}

func TestOpenOfADiskThatIsOff(t *testing.T) {
	f := fresh(t)
	fine(t, f.Fuse(0))
	notOpened(t, "the fuse goes off", f, small(), api.ErrOff)
	notOpened(t, "off", f, small(), api.ErrOff)
	notOpened(t, "off, and a setup that may not be", f, api.Setup{}, api.ErrArg)
	fine(t, f.Crash(0, nil))
	opened(t, "on again", f, small())
}

func TestOpenOfAnEmptyDisk(t *testing.T) {
	e, f := begun(t, small())
	named(t, "new", f, "current", manifestName(1), segmentName(1))
	holds(t, f, segmentName(1), segment(1))
	if e.Seq() != 0 || e.ReadOnly() || !e.Idle() || len(e.Snapshots()) != 0 {
		t.Errorf("Seq %d, ReadOnly %t, Idle %t, Snapshots %v", e.Seq(), e.ReadOnly(), e.Idle(), e.Snapshots())
	}
	if v := toldVersion(e.Version()); v != "Next 1, Seq 0, Log 0, 5 levels:" {
		t.Errorf("Version: %s", v)
	}
	memory(t, "new", e, 0, 0)
	works(t, e, api.WorkNone, api.WorkNone)
	gets(t, e, 0, "a", "-", "", "-")
	scans(t, e, "", "", 0, 9)
	// And again, which begins a segment each time.
	for n := uint64(2); n < 5; n++ {
		e = opened(t, "again", f, small())
		if f.Size(segmentName(n)) < 0 || f.Size(segmentName(n+1)) >= 0 || e.Seq() != 0 {
			t.Errorf("opened %d times: %q", n, f.Names())
		}
	}
}

// Behind each kind of work, as it is, and behind a crash.
func TestOpenBehindEachKindOfWork(t *testing.T) {
	type stage struct {
		what   string
		do     func(t *testing.T, e *lsm.Engine)
		levels string
		open   int // what the table in memory has when the engine is opened then
	}
	work := func(want int) func(t *testing.T, e *lsm.Engine) {
		return func(t *testing.T, e *lsm.Engine) { t.Helper(); works(t, e, want) }
	}
	write := func(l ...api.Write) func(t *testing.T, e *lsm.Engine) {
		return func(t *testing.T, e *lsm.Engine) { t.Helper(); writes(t, e, l...) }
	}
	stages := []stage{
		{"a write", write(set("a", "x"), set("b", "y")), "////", 68},
		{"a freeze", work(api.WorkFreeze), "////", 68},
		{"a write ahead of a flush", write(set("c", "z")), "////", 102},
		{"a flush", work(api.WorkFlush), "1////", 34},
		{"a write that fills", write(gone("a")), "1////", 67},
		{"a second freeze", work(api.WorkFreeze), "1////", 67},
		{"a second flush", work(api.WorkFlush), "1 2////", 0},
		{"a compaction", work(api.WorkCompact), "/3///", 0},
		{"nothing", work(api.WorkNone), "/3///", 0},
	}
	for _, crash := range []bool{false, true} {
		for n := range len(stages) + 1 {
			e, f := begun(t, small())
			for _, s := range stages[:n] {
				s.do(t, e)
			}
			seq, want := e.Seq(), sees(t, "ahead", e, e.Seq())
			if crash {
				fine(t, f.Crash(0, nil))
			}
			e = opened(t, "anew", f, small())
			what := fmt.Sprintf("behind %d stages", n)
			if got := sees(t, what, e, seq); got != want || e.Seq() != seq {
				t.Errorf("%s: Seq %d, %s; want %d, %s", what, e.Seq(), got, seq, want)
			}
			if n > 0 {
				s := stages[n-1]
				if levels(e.Version()) != s.levels {
					t.Errorf("behind %s: %s, want %s", s.what, levels(e.Version()), s.levels)
				}
				memory(t, "behind "+s.what, e, s.open, 0)
			}
			// It goes on from there.
			writes(t, e, set("d", "d"))
			rest(t, e)
			gets(t, e, e.Seq(), "d", "d")
		}
	}
}

// The segment that is begun, by those that are there and the version's Log.
func TestTheSegmentThatIsBegun(t *testing.T) {
	for _, c := range []struct {
		there []uint64
		log   uint64
		begun uint64
	}{
		{nil, 0, 1}, {nil, 1, 1}, {nil, 7, 7}, {nil, trillion - 1, trillion - 1},
		{[]uint64{0}, 0, 1}, {[]uint64{1}, 0, 2}, {[]uint64{1}, 1, 2}, {[]uint64{1}, 2, 2}, {[]uint64{1}, 3, 3}, {[]uint64{1, 5}, 3, 6}, {[]uint64{4, 5}, 5, 6},
		{[]uint64{2, 3}, 9, 9}, {[]uint64{9}, 9, 10}, {[]uint64{9}, 2, 10}, {[]uint64{trillion - 2}, 1, trillion - 1},
	} {
		files := map[string]string{}
		for _, n := range c.there {
			files[segmentName(n)] = segment(n)
		}
		f := laid(t, []api.Edit{{Next: 1, Log: c.log}}, files)
		what := fmt.Sprintf("segments %v, Log %d", c.there, c.log)
		opened(t, what, f, small())
		if f.Size(segmentName(c.begun)) < 0 || len(f.Names()) != 3+len(c.there) {
			t.Errorf("%s: %q, want segment %d", what, f.Names(), c.begun)
		}
	}
	// Behind the last number there is none.
	f := laid(t, nil, map[string]string{segmentName(trillion - 1): segment(trillion - 1)})
	notOpened(t, "no number left", f, small(), api.ErrArg)
}

// The log's records

// withLog answers a disk with that version's Seq and Log, and these segments.
func withLog(t *testing.T, seq, log uint64, segments ...string) *vfs.Fs {
	t.Helper()
	files := map[string]string{}
	for i, s := range segments {
		files[segmentName(uint64(i+1))] = s
	}
	return laid(t, []api.Edit{{Next: 1, Seq: seq, Log: log}}, files)
}

func TestRecordsThatAreApplied(t *testing.T) {
	one, two := batchBytes(1, set("a", "1")), batchBytes(2, set("b", "2"), set("a", "3"))
	four := batchBytes(4, gone("b"))
	torn := segment(1, one, two, four)
	torn = torn[:len(torn)-1]
	for what, c := range map[string]struct {
		f    *vfs.Fs
		seq  uint64
		want string
	}{
		"none":                                 {withLog(t, 0, 0), 0, ""},
		"one":                                  {withLog(t, 0, 0, segment(1, one)), 1, `"a" at 1 = "1"; `},
		"all, in one segment":                  {withLog(t, 0, 0, segment(1, one, two, four)), 4, `"a" at 3 = "3"; `},
		"all, in several":                      {withLog(t, 0, 1, segment(1, one, two), segment(2), segment(3, four)), 4, `"a" at 3 = "3"; `},
		"torn":                                 {withLog(t, 0, 0, torn), 3, `"a" at 3 = "3"; "b" at 2 = "2"; `},
		"the segment below Log is none":        {withLog(t, 1, 2, segment(1, one), segment(2, two)), 3, `"a" at 3 = "3"; "b" at 2 = "2"; `},
		"no segment at Log":                    {withLog(t, 4, 2, segment(1, one, two, four)), 4, ""},
		"one that the version has":             {withLog(t, 1, 1, segment(1, one, two)), 3, `"a" at 3 = "3"; "b" at 2 = "2"; `},
		"all that the version has":             {withLog(t, 4, 1, segment(1, one, two), segment(2, four)), 4, ""},
		"some that the version has, over two":  {withLog(t, 3, 1, segment(1, one, two), segment(2, four)), 4, ""},
		"what the version has, behind another": {withLog(t, 3, 1, segment(1, four, one, two, batchBytes(5, set("c", "5")))), 5, `"c" at 5 = "5"; `},
		"what the version has, out of order":   {withLog(t, 3, 1, segment(1, two, one, one, four)), 4, ""},
		"the version is far ahead":             {withLog(t, 1<<40, 1, segment(1, one, two, four)), 1 << 40, ""},
		"no batch, below Log":                  {withLog(t, 1, 2, segment(1, "no batch", four), segment(2, two)), 3, `"a" at 3 = "3"; "b" at 2 = "2"; `},
		"a gap, below Log":                     {withLog(t, 3, 2, segment(1, batchBytes(77, set("z", "z"))), segment(2, four)), 4, ""},
		"the last number there is":             {withLog(t, api.MaxSeq-1, 1, segment(1, batchBytes(api.MaxSeq, set("z", "z")))), api.MaxSeq, fmt.Sprintf(`"z" at %d = "z"; `, api.MaxSeq)},
	} {
		e := opened(t, what, c.f, small())
		if got := sees(t, what, e, c.seq); e.Seq() != c.seq || got != c.want {
			t.Errorf("%s: Seq %d, %s; want %d, %s", what, e.Seq(), got, c.seq, c.want)
		}
	}
}

func TestRecordsThatMayNotBe(t *testing.T) {
	one, two := batchBytes(1, set("a", "1")), batchBytes(2, set("b", "2"), set("a", "3"))
	for what, f := range map[string]*vfs.Fs{
		"no batch":                            withLog(t, 0, 0, segment(1, "no batch")),
		"no bytes":                            withLog(t, 0, 0, segment(1, "")),
		"no batch behind one":                 withLog(t, 0, 0, segment(1, one, "x")),
		"no batch in the second segment":      withLog(t, 0, 0, segment(1, one), segment(2, "x")),
		"a byte behind a batch":               withLog(t, 0, 0, segment(1, one+"\x00")),
		"a byte missing":                      withLog(t, 0, 0, segment(1, one[:len(one)-1])),
		"no writes":                           withLog(t, 0, 0, segment(1, batchBytes(1))),
		"a write of no kind":                  withLog(t, 0, 0, segment(1, batchBytes(1, api.Write{Kind: 3, Key: []byte("a")}))),
		"a write without a key":               withLog(t, 0, 0, segment(1, batchBytes(1, set("", "x")))),
		"a key that is too long":              withLog(t, 0, 0, segment(1, batchBytes(1, set(strings.Repeat("k", 4097), "x")))),
		"too many writes":                     withLog(t, 0, 0, segment(1, batchBytes(1, make1025()...))),
		"Seq 0":                               withLog(t, 0, 0, segment(1, batchBytes(0, set("a", "x")))),
		"Seq 0, no batch beyond the version":  withLog(t, 5, 0, segment(1, batchBytes(0, set("a", "x")))),
		"no batch, the version has all":       withLog(t, 5, 1, segment(1, "x")),
		"it begins too late":                  withLog(t, 0, 0, segment(1, two)),
		"a gap":                               withLog(t, 0, 0, segment(1, one, batchBytes(3, set("c", "x")))),
		"a gap between segments":              withLog(t, 0, 0, segment(1, one), segment(2, batchBytes(3, set("c", "x")))),
		"the same again":                      withLog(t, 0, 0, segment(1, one, one)),
		"the number of the one ahead":         withLog(t, 0, 0, segment(1, one, two, batchBytes(3, set("c", "x")))),
		"a lower number behind what applied":  withLog(t, 1, 0, segment(1, two, batchBytes(2, set("c", "x")))),
		"half of it the version has":          withLog(t, 2, 1, segment(1, one, two)),
		"a gap behind the version":            withLog(t, 7, 1, segment(1, one, batchBytes(9, set("c", "x")))),
		"the version is behind, segment gone": withLog(t, 0, 2, segment(1, one), segment(2, two)),
		"above the last number there is":      withLog(t, api.MaxSeq, 1, segment(1, batchBytes(api.MaxSeq+1, set("z", "z")))),
		"the log's mistake":                   withLog(t, 0, 0, segment(2, one)),
		"torn, not the last one":              withLog(t, 0, 0, segment(1, one)[:20], segment(2)),
	} {
		for range 2 {
			notOpened(t, what, f, small(), api.ErrBad)
		}
		// The records are gone through ahead of all that would change the disk.
		if f.Size(segmentName(3)) >= 0 {
			t.Errorf("%s: a segment was begun: %q", what, f.Names())
		}
	}
}

// make1025 answers one write more than a batch may have.
func make1025() []api.Write {
	var l []api.Write
	for range 1025 {
		l = append(l, set("k", ""))
	}
	return l
}

// A batch whose numbers go over the version's Seq is ErrBad, even if it would
// go on with the next one.
func TestABatchAtTheVersionsSeq(t *testing.T) {
	three := batchBytes(5, set("a", "5"), set("b", "6"), set("c", "7"))
	for seq := uint64(3); seq < 10; seq++ {
		f := withLog(t, seq, 1, segment(1, three))
		switch {
		case seq == 4:
			e := opened(t, "the next", f, small())
			gets(t, e, 7, "a", "5", "b", "6", "c", "7")
		case seq >= 7:
			e := opened(t, "left out", f, small())
			if e.Seq() != seq {
				t.Errorf("Seq %d, want %d", e.Seq(), seq)
			}
			gets(t, e, seq, "a", "-")
			memory(t, "left out", e, 0, 0)
		default:
			notOpened(t, fmt.Sprint("Seq ", seq), f, small(), api.ErrBad)
		}
	}
}

// The manifest and the files

// sizedRow tells the row of a manifest that has that many bytes.
func sizedRow(t *testing.T, size int) string {
	t.Helper()
	// A file with keys as long as it takes comes and goes.
	pair := func(n int) string {
		keys := [2][]byte{make([]byte, min(n, api.MaxKey)), make([]byte, max(n-api.MaxKey, 1))}
		keys[1][0] = 1
		return editRow(api.Edit{Next: 2, Adds: []api.Add{add(0, api.File{Number: 1, Entries: 1, Least: keys[0], Most: keys[1]})}}) +
			editRow(api.Edit{Next: 2, Seq: 3, Drops: []api.Drop{{Level: 0, Number: 1}}})
	}
	row := editRow(api.Edit{Next: 2, Seq: 3})
	for len(row) < size {
		n := 5000
		if rest := size - len(row); rest < 6000 {
			for n = max(rest-100, 1); len(pair(n)) < rest; n++ {
			}
		}
		row += pair(n)
	}
	if len(row) != size {
		t.Fatalf("%d bytes, want %d", len(row), size)
	}
	return row
}

// withManifest answers a disk whose manifest of the number 5 has this row.
func withManifest(t *testing.T, row string) *vfs.Fs {
	t.Helper()
	f := fresh(t)
	put(t, f, manifestName(5), row)
	put(t, f, "current", manifestName(5)+"\n")
	return f
}

func TestAManifestThatIsRolled(t *testing.T) {
	for size, rolled := range map[int]bool{17: false, 200: false, 1<<16 - 1: false, 1 << 16: false, 1<<16 + 1: true, 1<<16 + 17: true, 1 << 17: true} {
		f := withManifest(t, sizedRow(t, size))
		what := fmt.Sprintf("%d bytes", size)
		for range 2 { // the second time it is small
			e := opened(t, what, f, small())
			name, want := manifestName(5), size
			if rolled {
				v := e.Version()
				name, want = manifestName(6), len(editRow(api.Edit{Next: v.Next, Seq: v.Seq, Log: v.Log}))
			}
			if f.Size(name) != want || content(t, f, "current") != name+"\n" {
				t.Errorf("%s: %s; want %s of %d", what, likeness(f), name, want)
			}
			for _, other := range []uint64{4, 5, 6, 7} {
				if n := manifestName(other); n != name && f.Size(n) >= 0 {
					t.Errorf("%s: %s is there", what, n)
				}
			}
		}
	}
}

func TestAManifestThatIsBad(t *testing.T) {
	for what, files := range map[string]map[string]string{
		"current is none":      {"current": "x"},
		"its file is not here": {"current": manifestName(7) + "\n"},
		"its file is bad":      {manifestName(1): "no frame at all"},
		"its file is empty":    {manifestName(1): ""},
	} {
		notOpened(t, what, laid(t, nil, files), small(), api.ErrBad)
	}
}

// tables answers a disk whose version has files on three levels, and these
// files' entries.
func tables(t *testing.T) *vfs.Fs {
	t.Helper()
	s := small()
	newer, old, older := []api.Entry{has("a", 9, "new"), hasNot("b", 8)}, []api.Entry{has("b", 5, "old"), has("c", 6, "old")}, []api.Entry{has("a", 1, "x"), has("d", 2, "d")}
	return laid(t, []api.Edit{{Next: 8, Seq: 9, Log: 1, Adds: []api.Add{
		add(0, fileOf(t, s, 7, newer...)), add(1, fileOf(t, s, 3, old...)), add(4, fileOf(t, s, 5, older...)),
	}}}, map[string]string{
		tableName(7): tableBytes(t, s, newer...), tableName(3): tableBytes(t, s, old...), tableName(5): tableBytes(t, s, older...),
	})
}

func TestOpenOfAVersionWithFiles(t *testing.T) {
	f := tables(t)
	e := opened(t, "three files", f, small())
	gets(t, e, 9, "a", "new", "b", "-", "c", "old", "d", "d", "e", "-")
	scans(t, e, "", "", 9, 9, has("a", 9, "new"), has("c", 6, "old"), has("d", 2, "d"))
	if levels(e.Version()) != "7/3///5" || e.Seq() != 9 {
		t.Errorf("Version: %s, Seq %d", toldVersion(e.Version()), e.Seq())
	}
}

func TestAFileOfTheVersionIsMissing(t *testing.T) {
	for _, n := range []uint64{3, 5, 7} {
		f := tables(t)
		fine(t, f.Remove(tableName(n)), f.SyncDir())
		for range 2 {
			notOpened(t, tableName(n), f, small(), api.ErrBad)
		}
		// One that is no table.
		for what, b := range map[string]string{"empty": "", "short": "bootmark", "no table": strings.Repeat("x", 99)} {
			f = tables(t)
			put(t, f, tableName(n), b)
			notOpened(t, tableName(n)+", "+what, f, small(), api.ErrBad)
		}
	}
}

// Files that are none of the engine's

func TestFilesThatAreRemovedAndFilesThatStay(t *testing.T) {
	f := tables(t)
	removed := []string{
		"current.tmp", "wal.tmp",
		manifestName(0), manifestName(2), manifestName(9), manifestName(trillion - 1),
		tableName(0), tableName(1), tableName(4), tableName(8), tableName(trillion - 1),
	}
	stay := []string{
		"other", "current.tm", "current.tmp.tmp", "wal.tmp2", "tmp", "table.tmp", "manifest.tmp", "wal-tmp", "-", "0", "table", "table-", "manifest-", "wal-",
		"table-1", "table-00000000001", "table-0000000000001", "table-00000000000a", "table--00000000001", "table-000000000001.", "atable-000000000001", "tables-000000000001",
		"manifest-1", "manifest-00000000002", "manifest-0000000000002", "manifest-00000000000b", "manifest-000000000002.tmp", "a-manifest-000000000002",
		"wal-1", "wal-0000000000001", "lock", "zz",
	}
	for _, name := range append(removed, stay...) {
		put(t, f, name, "of somebody: "+name)
	}
	e := opened(t, "with others", f, small())
	gets(t, e, 9, "a", "new", "b", "-", "c", "old", "d", "d")
	for _, name := range removed {
		if f.Size(name) >= 0 {
			t.Errorf("%s is there", name)
		}
	}
	for _, name := range stay {
		holds(t, f, name, "of somebody: "+name)
	}
	for _, name := range []string{"current", manifestName(1), segmentName(1), tableName(3), tableName(5), tableName(7)} {
		if f.Size(name) < 0 {
			t.Errorf("%s is not there", name)
		}
	}
	// They are gone behind a crash, too.
	fine(t, f.Crash(0, nil))
	for _, name := range removed {
		if f.Size(name) >= 0 {
			t.Errorf("behind a crash %s is there", name)
		}
	}
	opened(t, "again", f, small())
}

// Files are made by numbers from the version's Next on, whatever lay there.
func TestAFileLiesWhereTheNextOneComes(t *testing.T) {
	f := laid(t, nil, map[string]string{tableName(1): "left", tableName(2): "left too", segmentName(1): segment(1)[:7]})
	e := opened(t, "left", f, small())
	flushed(t, e, []api.Write{set("a", long("x"))})
	gets(t, opened(t, "anew", f, small()), 1, "a", long("x"))
	holds(t, f, tableName(1), tableBytes(t, small(), has("a", 1, long("x"))))
}
