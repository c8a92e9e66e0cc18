package wal_test

import (
	"fmt"
	"slices"
	"strings"
	"testing"

	"bootprint/api"
	"bootprint/vfs"
	"bootprint/wal"
)

// P5.2

func TestOpenOfNoFileSystem(t *testing.T) {
	for _, f := range []*vfs.Fs{nil, {}, new(vfs.Fs)} {
		notOpened(t, "no file system", f, api.ErrNil)
	}
}

func TestOpenWithoutSegments(t *testing.T) {
	f := fresh(t)
	has(t, "an empty one", opened(t, f, ""))
	took(t, "Open of an empty one", f, 0, 0)
	named(t, f)
}

func TestOpenLeavesWhatIsNotTheLogs(t *testing.T) {
	names := []string{"a", "manifest-000000000001", "table-000000000001", "wal", "wal-", "wal-0000000000001", "wal-00000000001", "wal-00000000001a", "wal-7", "wal.000000000001", "wal.tmp"}
	f := fresh(t)
	for _, name := range names {
		put(t, f, name, segmentOf(1, "none of the log's")[:25])
	}
	before := f.Ops()
	has(t, "no segments", opened(t, f, ""))
	took(t, "Open without segments", f, before, 0)

	put(t, f, wal.Name(5), segmentOf(5, "x"))
	before = f.Ops()
	has(t, "one segment", opened(t, f, "5:x "), 5)
	took(t, "Open of one segment", f, before, 2)
	named(t, f, slices.Sorted(slices.Values(append(slices.Clip(names), wal.Name(5))))...)
	for _, name := range names {
		holds(t, f, name, segmentOf(1, "none of the log's")[:25])
	}
}

func TestOpenTellsAllRecordsInOrder(t *testing.T) {
	f := fresh(t)
	put(t, f, wal.Name(128), segmentOf(128, "g"))
	put(t, f, wal.Name(2), segmentOf(2, "a", "b", "", "a"))
	put(t, f, wal.Name(10), segmentOf(10))
	put(t, f, wal.Name(11), segmentOf(11, "f\x00", segmentOf(11, "within")))
	put(t, f, wal.Name(1e12-1), segmentOf(1e12-1, "last"))
	before := f.Ops()
	l := opened(t, f, "2:a 2:b 2: 2:a 11:f\x00 11:"+segmentOf(11, "within")+" 128:g 999999999999:last ")
	took(t, "Open", f, before, 6) // each is read once, the last one is synced
	has(t, "Open", l, 2, 10, 11, 128, 1e12-1)
	refused(t, "Begin behind the greatest one", l.Begin(1e12), api.ErrArg)
}

func TestOpenOfTheSegmentZero(t *testing.T) {
	f := fresh(t)
	put(t, f, wal.Name(0), segmentOf(0, "a"))
	l := opened(t, f, "0:a ")
	if s := l.Segments(); len(s) != 1 || s[0] != 0 || l.Number() != 0 {
		t.Errorf("Segments %d, Number %d", s, l.Number())
	}
	fine(t, l.Append([]byte("b")), l.Sync())
	refused(t, "Begin of 0", l.Begin(0), api.ErrArg)
	fine(t, l.Begin(1), l.Drop(0))
	opened(t, f, "0:a 0:b ")
	fine(t, l.Drop(1))
	has(t, "Drop(1)", l, 1)
}

func TestOpenOfLongRecords(t *testing.T) {
	long := strings.Repeat("0123456789abcdef", api.MaxFrame/16)
	f := fresh(t)
	put(t, f, wal.Name(3), segmentOf(3, long, "", "x"))
	opened(t, f, "3:"+long+" 3: 3:x ")
}

// A segment with every place where it may be cut.
func TestOpenOfATornLastSegment(t *testing.T) {
	records := []string{"one", "", "and the third one"}
	row := segmentOf(300, records...)
	ends := map[int]int{} // at which places a frame ends, and how many records stand ahead
	for i := range len(records) + 1 {
		ends[len(segmentOf(300, records[:i]...))] = i
	}
	for _, left := range []string{"", "rubbish"} { // what wal.tmp has
		for cut := range len(row) + 1 {
			f := fresh(t)
			put(t, f, wal.Name(1), segmentOf(1, "ahead"))
			put(t, f, wal.Name(300), row[:cut])
			if left != "" {
				put(t, f, "wal.tmp", left)
			}
			checkTorn(t, f, row, cut, ends, left)
		}
	}
}

// checkTorn opens the log whose last segment has the row up to the cut, and
// looks at what is left of it.
func checkTorn(t *testing.T, f *vfs.Fs, row string, cut int, ends map[int]int, left string) {
	t.Helper()
	whole := cut // where the frames that are whole end
	for ; whole > 0; whole-- {
		if _, ok := ends[whole]; ok {
			break
		}
	}
	what := fmt.Sprintf("cut at %d", cut)
	records, numbers, operations := "1:ahead ", []uint64{1, 300}, 2
	for _, r := range []string{"one", "", "and the third one"}[:ends[whole]] {
		records += "300:" + r + " "
	}
	files := []string{wal.Name(1), wal.Name(300)}
	switch {
	case whole == 0: // Remove, SyncDir
		operations += 2
		numbers, files = numbers[:1], files[:1]
	case whole == cut: // Sync
		operations++
	default: // Create, Append, Sync, Rename, SyncDir
		operations += 5
		if left != "" {
			operations++
			left = ""
		}
	}
	if left != "" {
		files = append(files, "wal.tmp")
	}
	before := f.Ops()
	l := opened(t, f, records)
	took(t, what, f, before, operations)
	has(t, what, l, numbers...)
	named(t, f, files...)
	holds(t, f, wal.Name(1), segmentOf(1, "ahead"))
	if whole > 0 {
		holds(t, f, wal.Name(300), row[:whole])
	}
	// It stays so, and is written to behind what is whole.
	fine(t, f.Crash(0, nil))
	l = opened(t, f, records)
	fine(t, l.Append([]byte("more")), l.Sync(), f.Crash(0, nil))
	opened(t, f, records+fmt.Sprintf("%d:more ", numbers[len(numbers)-1]))
}

func TestOpenOfTheOnlySegmentTornInItsFirstFrame(t *testing.T) {
	row := segmentOf(9)
	for cut := range len(row) {
		f := fresh(t)
		put(t, f, wal.Name(9), row[:cut])
		l := opened(t, f, "")
		has(t, "removed", l)
		named(t, f)
		refused(t, "Append", l.Append(nil), api.ErrNone)
		fine(t, f.Crash(0, nil))
		named(t, f)
		fine(t, l.Begin(9), l.Append([]byte("x")))
		opened(t, f, "9:x ")
	}
}

func TestOpenOfATornSegmentThatIsNotTheLast(t *testing.T) {
	row := segmentOf(4, "one", "", "three")
	ends := []string{segmentOf(4), segmentOf(4, "one"), segmentOf(4, "one", ""), row}
	for cut := range len(row) + 1 {
		f := fresh(t)
		put(t, f, wal.Name(3), segmentOf(3, "x"))
		put(t, f, wal.Name(4), row[:cut])
		put(t, f, wal.Name(5), segmentOf(5, "y"))
		put(t, f, wal.Name(6), segmentOf(6))
		isEnd := false
		for _, s := range ends {
			isEnd = isEnd || len(s) == cut
		}
		if isEnd {
			l, _, e := wal.Open(f)
			fine(t, e)
			has(t, "whole", l, 3, 4, 5, 6)
			continue
		}
		before := f.Ops()
		notOpened(t, fmt.Sprintf("cut at %d", cut), f, api.ErrBad)
		took(t, "Open", f, before, 2) // the segments behind are not read
		holds(t, f, wal.Name(4), row[:cut])
		named(t, f, wal.Name(3), wal.Name(4), wal.Name(5), wal.Name(6))
	}
}

// A segment whose bit is turned, and so in none of the ways that a crash has.
func TestOpenOfATurnedBit(t *testing.T) {
	row := segmentOf(2, "one", "", "three")
	for place := range len(row) {
		for bit := range 8 {
			for _, last := range []bool{true, false} {
				f := fresh(t)
				put(t, f, wal.Name(1), segmentOf(1, "x"))
				put(t, f, wal.Name(2), row)
				if !last {
					put(t, f, wal.Name(3), segmentOf(3, "y"))
				}
				fine(t, f.Turn(wal.Name(2), place, 1<<bit))
				before := f.Ops()
				notOpened(t, fmt.Sprintf("bit %d of %d", bit, place), f, api.ErrBad)
				took(t, "Open", f, before, 2)
				fine(t, f.Turn(wal.Name(2), place, 1<<bit))
				holds(t, f, wal.Name(2), row)
			}
		}
	}
}

// wrongSegments tells rows that no crash makes of the segment 7.
func wrongSegments() map[string]string {
	number := framed(0, short(7))
	return map[string]string{
		"a first frame of the Kind 1":               framed(1, short(7)),
		"a first frame of the Kind 2":               framed(2, short(7)),
		"a first frame of the Kind 255, a record":   framed(255, short(7)) + framed(1, "a"),
		"a first frame of a lower number":           framed(0, short(6)),
		"a first frame of a higher number":          framed(0, short(8)) + framed(1, "a"),
		"a first frame of the number 0":             framed(0, short(0)),
		"a first frame of a number with low bits":   framed(0, short(7+128)),
		"a first frame without a number":            framed(0, ""),
		"a first frame with a byte behind":          framed(0, short(7)+"\x00"),
		"a first frame with two numbers":            framed(0, short(7)+short(7)),
		"a first frame with a needless byte":        framed(0, "\x87\x00"),
		"a first frame with half a number":          framed(0, "\x87"),
		"a first frame with a number of 8 bytes":    framed(0, "\x00\x00\x00\x00\x00\x00\x00\x07"),
		"a first frame with the number as a text":   framed(0, "7"),
		"no first frame":                            framed(1, "a") + framed(1, "b"),
		"two first frames":                          number + number,
		"a record of the Kind 0":                    number + framed(1, "a") + framed(0, "b"),
		"a record of the Kind 2":                    number + framed(2, "a") + framed(1, "b"),
		"a last record of the Kind 255":             number + framed(1, "a") + framed(255, ""),
		"a record of the Kind 5, then torn":         number + framed(5, "a") + framed(1, "b")[:9],
		"a first frame of the Kind 1, then torn":    framed(1, short(7)) + framed(1, "b")[:3],
		"a first frame of another number, torn":     framed(0, short(8)) + framed(1, "b")[:12],
		"a frame that is too long":                  number + string(headFor(1, api.MaxFrame+1)),
		"a first frame that is too long":            string(headFor(0, api.MaxFrame+1)),
		"a frame that is too long, with bytes":      number + string(headFor(1, 1<<24-1)) + "bytes",
		"eight bytes that are no head":              number + "12345678",
		"bytes 0":                                   strings.Repeat("\x00", 40),
		"bytes 0 behind":                            segmentOf(7, "a") + strings.Repeat("\x00", 8),
		"another sum, then a whole frame":           number + framed(1, "a")[:9] + "sum?" + framed(1, "b"),
		"another sum of the last one":               number + framed(1, "a")[:9] + "sum?",
		"a cut frame with another one right behind": number + framed(1, "abcd")[:10] + framed(1, "b"),
	}
}

func TestOpenOfAWrongSegment(t *testing.T) {
	for what, row := range wrongSegments() {
		f := fresh(t)
		put(t, f, wal.Name(7), row)
		notOpened(t, what, f, api.ErrBad)
		put(t, f, wal.Name(6), segmentOf(6, "x"))
		notOpened(t, what+", behind another", f, api.ErrBad)
		put(t, f, wal.Name(8), segmentOf(8, "y"))
		put(t, f, wal.Name(9), "unread")
		before := f.Ops()
		notOpened(t, what+", not the last one", f, api.ErrBad)
		took(t, what, f, before, 2)
		holds(t, f, wal.Name(7), row)
		holds(t, f, wal.Name(9), "unread")
	}
}

// Where two are wrong, that one counts which comes first.
func TestOpenAnswersTheFirstError(t *testing.T) {
	for _, c := range []struct {
		what  string
		bad   int // which segment is bad
		fault int // which operation fails
		want  api.Errno
		ops   int
	}{
		{"bad, the next one can't be read", 1, 1, api.ErrBad, 1},
		{"can't be read, and is bad", 1, 0, api.ErrIO, 1},
		{"can't be read, the next one is bad", 2, 0, api.ErrIO, 1},
		{"bad, the last one can't be synced", 3, 3, api.ErrBad, 3},
		{"the last one can't be read", 0, 2, api.ErrIO, 3},
		{"the last one can't be synced", 0, 3, api.ErrIO, 4},
	} {
		f := fresh(t)
		for n := range 3 {
			row := segmentOf(uint64(n+1), "x")
			if n+1 == c.bad {
				row += framed(3, "")
			}
			put(t, f, wal.Name(uint64(n+1)), row)
		}
		before := f.Ops()
		fine(t, f.Fault(c.fault, api.ErrIO))
		notOpened(t, c.what, f, c.want)
		took(t, c.what, f, before, c.ops)
		fine(t, f.Fault(-1, api.ErrIO))
		if c.bad == 0 { // an error that is gone is no longer told
			has(t, c.what, opened(t, f, "1:x 2:x 3:x "), 1, 2, 3)
		}
	}
}

func TestOpenWithoutRoomToMend(t *testing.T) {
	row := segmentOf(1, "abc", "def")
	f, e := vfs.New(len(row) + 20)
	fine(t, e)
	put(t, f, wal.Name(1), row[:len(row)-1])
	notOpened(t, "no room", f, api.ErrFull)
	named(t, f, wal.Name(1), "wal.tmp")
	holds(t, f, wal.Name(1), row[:len(row)-1])
}

// What was told must not be lost by the next crash.
func TestOpenSyncsTheLastSegment(t *testing.T) {
	l, f := begun(t, 2)
	fine(t, l.Append([]byte("not synced")))
	opened(t, f, "1:a 2:b 2:not synced ")
	fine(t, f.Crash(0, nil))
	opened(t, f, "1:a 2:b 2:not synced ")
}

func TestOpenOfADiskThatIsOff(t *testing.T) {
	_, f := begun(t, 2)
	fine(t, f.Fuse(0))
	refused(t, "SyncDir", f.SyncDir(), api.ErrOff)
	notOpened(t, "off", f, api.ErrOff)
	fine(t, f.Crash(0, nil))
	opened(t, f, "1:a 2:b ")
}
