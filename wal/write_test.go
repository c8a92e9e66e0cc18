package wal_test

import (
	"bytes"
	"fmt"
	"strings"
	"testing"

	"bootprint/api"
	"bootprint/vfs"
	"bootprint/wal"
)

// P5.3, Append and Sync

func TestAppendWithoutASegment(t *testing.T) {
	f := fresh(t)
	l := opened(t, f, "")
	for _, b := range [][]byte{nil, {}, []byte("a"), make([]byte, api.MaxFrame)} {
		refused(t, "Append", l.Append(b), api.ErrNone)
	}
	refused(t, "Sync", l.Sync(), api.ErrNone)
	took(t, "without a segment", f, 0, 0)
	refused(t, "Append of too much", l.Append(make([]byte, api.MaxFrame+1)), api.ErrLong)
	fine(t, l.Begin(1), l.Append([]byte("a")), l.Sync())
}

func TestAppendPutsAFrameBehind(t *testing.T) {
	f := fresh(t)
	l := opened(t, f, "")
	fine(t, l.Begin(300))
	holds(t, f, wal.Name(300), segmentOf(300))
	records := []string{"a", "", "a", "\x00\xff", segmentOf(300, "x"), strings.Repeat("long", 1000)}
	for i, r := range records {
		before := f.Ops()
		fine(t, l.Append([]byte(r)))
		took(t, "Append", f, before, 1)
		holds(t, f, wal.Name(300), segmentOf(300, records[:i+1]...))
	}
	named(t, f, wal.Name(300))
	has(t, "Append", l, 300)
}

func TestAppendOfNothing(t *testing.T) {
	l, f := begun(t, 1)
	fine(t, l.Append(nil), l.Append([]byte{}))
	opened(t, f, "1:a 1: 1: ")
}

func TestAppendOfMuch(t *testing.T) {
	l, f := begun(t, 1)
	long := bytes.Repeat([]byte{7}, api.MaxFrame+2)
	before := f.Ops()
	for range 2 {
		refused(t, "Append of one more", l.Append(long[:api.MaxFrame+1]), api.ErrLong)
		refused(t, "Append of two more", l.Append(long), api.ErrLong)
	}
	took(t, "Append of too much", f, before, 0)
	// What was refused has changed nothing.
	fine(t, l.Sync(), l.Append(long[:api.MaxFrame]), l.Sync(), l.Append([]byte("b")))
	opened(t, f, "1:a 1:"+string(long[:api.MaxFrame])+" 1:b ")
}

func TestSyncIsOfTheLastSegment(t *testing.T) {
	l, f := begun(t, 2)
	before := f.Ops()
	fine(t, l.Append([]byte("x")), l.Sync(), l.Append([]byte("y")))
	took(t, "Append, Sync, Append", f, before, 3)
	fine(t, f.Crash(0, nil))
	opened(t, f, "1:a 2:b 2:x ")
}

func TestAppendIsNotSynced(t *testing.T) {
	l, f := begun(t, 2)
	fine(t, l.Append([]byte("x")), f.Crash(0, nil))
	opened(t, f, "1:a 2:b ")
}

// spoil answers a log with two segments, spoilt by Append or by Sync with the
// error, and its file system. (ErrOff: the disk is off, and on again.)
func spoil(t *testing.T, byAppend bool, e api.Errno) (*wal.Log, *vfs.Fs) {
	t.Helper()
	l, f := begun(t, 2)
	switch e {
	case api.ErrOff:
		fine(t, f.Fuse(0))
	case api.ErrNone:
		fine(t, f.Remove(wal.Name(2)))
	default:
		fine(t, f.Fault(0, e))
	}
	do := l.Sync
	if byAppend {
		do = func() api.Errno { return l.Append([]byte("lost")) }
	}
	refused(t, "what spoils the log", do(), e)
	if e == api.ErrOff {
		fine(t, f.Crash(0, nil))
	}
	if e == api.ErrNone {
		put(t, f, wal.Name(2), segmentOf(2, "b"))
	}
	return l, f
}

func TestSpoiltLog(t *testing.T) {
	for _, byAppend := range []bool{true, false} {
		for _, e := range []api.Errno{api.ErrFull, api.ErrIO, api.ErrOff, api.ErrNone} {
			what := fmt.Sprintf("spoilt by Append: %t, %d", byAppend, e)
			l, f := spoil(t, byAppend, e)
			before := f.Ops()
			for range 3 {
				refused(t, what+": Append", l.Append([]byte("x")), e)
				refused(t, what+": Append of nothing", l.Append(nil), e)
				refused(t, what+": Sync", l.Sync(), e)
			}
			took(t, what, f, before, 0)
			// The error of the page that comes first is told first.
			refused(t, what+": Append of too much", l.Append(make([]byte, api.MaxFrame+1)), api.ErrLong)
			refused(t, what+": Begin of a number that is there", l.Begin(2), api.ErrArg)
			refused(t, what+": Append", l.Append([]byte("x")), e)
			has(t, what, l, 1, 2)
			holds(t, f, wal.Name(2), segmentOf(2, "b"))

			fine(t, l.Begin(3), l.Append([]byte("c")), l.Sync(), l.Append([]byte("d")))
			has(t, what, l, 1, 2, 3)
			opened(t, f, "1:a 2:b 3:c 3:d ")
		}
	}
}

func TestSpoiltLogIsDroppedFrom(t *testing.T) {
	l, f := spoil(t, true, api.ErrIO)
	fine(t, l.Drop(9))
	has(t, "Drop", l, 2)
	refused(t, "Append", l.Append(nil), api.ErrIO)
	opened(t, f, "2:b ")
}

func TestSpoiltLogStaysSoWhereBeginFails(t *testing.T) {
	for place := range 4 {
		l, f := spoil(t, false, api.ErrFull)
		fine(t, f.Fault(place, api.ErrIO))
		refused(t, "Begin", l.Begin(3), api.ErrIO)
		refused(t, "Append", l.Append(nil), api.ErrFull)
		refused(t, "Sync", l.Sync(), api.ErrFull)
		has(t, "half begun", l, 1, 2)
		fine(t, l.Begin(3), l.Append([]byte("c")), l.Sync())
		opened(t, f, "1:a 2:b 3:c ")
	}
}

// A log that is opened anew is none that was spoilt.
func TestSpoiltLogOpenedAnew(t *testing.T) {
	l, f := spoil(t, true, api.ErrIO)
	again := opened(t, f, "1:a 2:b ")
	fine(t, again.Append([]byte("x")), again.Sync())
	refused(t, "Append", l.Append([]byte("y")), api.ErrIO)
	opened(t, f, "1:a 2:b 2:x ")
}

func TestAppendWithoutRoom(t *testing.T) {
	f, e := vfs.New(len(segmentOf(1, "abc")) + 5)
	fine(t, e)
	l := opened(t, f, "")
	fine(t, l.Begin(1), l.Append([]byte("abc")))
	refused(t, "Append without room", l.Append(nil), api.ErrFull)
	refused(t, "Sync", l.Sync(), api.ErrFull)
	refused(t, "Begin without room", l.Begin(2), api.ErrFull)
	named(t, f, wal.Name(1), wal.Name(2))
	holds(t, f, wal.Name(1), segmentOf(1, "abc"))
	has(t, "without room", l, 1)
}

// P5.3, Begin

func TestBegin(t *testing.T) {
	f := fresh(t)
	l := opened(t, f, "")
	var numbers []uint64
	for _, n := range []uint64{1, 2, 127, 128, 300, 1 << 21, 1e12 - 2, 1e12 - 1} {
		before := f.Ops()
		fine(t, l.Begin(n))
		took(t, "Begin", f, before, 4)
		numbers = append(numbers, n)
		has(t, "Begin", l, numbers...)
		holds(t, f, wal.Name(n), segmentOf(n))
		fine(t, f.Crash(0, nil)) // it is synced, and its name is
		holds(t, f, wal.Name(n), segmentOf(n))
	}
	if len(f.Names()) != len(numbers) {
		t.Errorf("Names: %q", f.Names())
	}
	has(t, "Open", opened(t, f, ""), numbers...)
}

func TestBeginRefuses(t *testing.T) {
	f := fresh(t)
	l := opened(t, f, "")
	refuses := func(numbers ...uint64) {
		t.Helper()
		before := f.Ops()
		for _, n := range append(numbers, 0, 1e12, 1e12+1, 1<<63, 1<<64-1) {
			refused(t, fmt.Sprintf("Begin(%d)", n), l.Begin(n), api.ErrArg)
		}
		took(t, "Begin that is refused", f, before, 0)
	}
	refuses()
	fine(t, l.Begin(5))
	refuses(1, 4, 5)
	fine(t, l.Begin(1e12-1), l.Append([]byte("x")))
	refuses(5, 6, 1e12-2, 1e12-1)
	fine(t, l.Drop(1e12))
	refuses(5, 6, 1e12-1)
	has(t, "Begin", l, 1e12-1)
	opened(t, f, "999999999999:x ")
}

func TestBeginWhereAFileIsThere(t *testing.T) {
	l, f := begun(t, 1)
	put(t, f, wal.Name(2), segmentOf(2, "old", "older"))
	put(t, f, wal.Name(3), "other bytes")
	before := f.Ops()
	fine(t, l.Begin(2))
	took(t, "Begin", f, before, 5)
	holds(t, f, wal.Name(2), segmentOf(2))
	holds(t, f, wal.Name(3), "other bytes")
	has(t, "Begin", l, 1, 2)
	fine(t, l.Begin(3), l.Append([]byte("new")))
	opened(t, f, "1:a 3:new ")
}

// P5.3, Drop

func TestDrop(t *testing.T) {
	for _, c := range []struct {
		n    uint64
		left []uint64
	}{
		{0, []uint64{1, 2, 3, 4}},
		{1, []uint64{1, 2, 3, 4}},
		{2, []uint64{2, 3, 4}},
		{3, []uint64{3, 4}},
		{4, []uint64{4}},
		{5, []uint64{4}},
		{1e12, []uint64{4}},
		{1<<64 - 1, []uint64{4}},
	} {
		l, f := begun(t, 4)
		before := f.Ops()
		fine(t, l.Drop(c.n))
		operations := 4 - len(c.left)
		if operations > 0 {
			operations++ // SyncDir
		}
		took(t, fmt.Sprintf("Drop(%d)", c.n), f, before, operations)
		has(t, fmt.Sprintf("Drop(%d)", c.n), l, c.left...)
		fine(t, f.Crash(0, nil)) // what is dropped stays so
		want := ""
		for _, n := range c.left {
			want += fmt.Sprintf("%d:%c ", n, 'a'+n-1)
		}
		opened(t, f, want)
		before = f.Ops()
		fine(t, l.Drop(c.n))
		took(t, "Drop once more", f, before, 0)
		fine(t, l.Append([]byte("x")))
		opened(t, f, want+"4:x ")
	}
}

func TestDropByNumbersThatAreNotThere(t *testing.T) {
	f := fresh(t)
	l := opened(t, f, "")
	fine(t, l.Drop(0), l.Drop(7), l.Begin(10), l.Begin(20), l.Begin(30))
	fine(t, l.Drop(10))
	has(t, "Drop(10)", l, 10, 20, 30)
	fine(t, l.Drop(11))
	has(t, "Drop(11)", l, 20, 30)
	fine(t, l.Drop(29))
	has(t, "Drop(29)", l, 30)
	fine(t, l.Begin(31), l.Drop(31))
	has(t, "Drop(31)", l, 31)
	named(t, f, wal.Name(31))
}

func TestDropTheLowestFirst(t *testing.T) {
	for place := range 4 {
		l, f := begun(t, 4)
		before := f.Ops()
		fine(t, f.Fault(place, api.ErrIO))
		refused(t, "Drop", l.Drop(4), api.ErrIO)
		took(t, "Drop", f, before, place+1)
		left := []uint64{1, 2, 3, 4}[place:]
		has(t, "Drop with an error", l, left...)
		var files []string
		for _, n := range left {
			files = append(files, wal.Name(n))
		}
		named(t, f, files...)
		fine(t, l.Append([]byte("x")), l.Sync(), l.Drop(4)) // the log is not spoilt by it
		has(t, "Drop again", l, 4)
		opened(t, f, "4:d 4:x ")
	}
}

func TestDropOfAFileThatWent(t *testing.T) {
	l, f := begun(t, 3)
	fine(t, f.Remove(wal.Name(2)))
	refused(t, "Drop", l.Drop(3), api.ErrNone)
	has(t, "Drop", l, 2, 3)
	named(t, f, wal.Name(3))
}

func TestDropLeavesOtherFiles(t *testing.T) {
	l, f := begun(t, 2)
	put(t, f, "wal.tmp", "x")
	put(t, f, wal.Name(0), segmentOf(0))
	put(t, f, "wal-1", "y")
	fine(t, l.Drop(2))
	named(t, f, wal.Name(0), wal.Name(2), "wal-1", "wal.tmp")
}

// P5.4

func TestNumberAndSegments(t *testing.T) {
	f := fresh(t)
	l := opened(t, f, "")
	has(t, "none", l)
	fine(t, l.Begin(3))
	has(t, "one", l, 3)
	fine(t, l.Begin(4), l.Append([]byte("a")), l.Begin(9))
	has(t, "three", l, 3, 4, 9)
	refused(t, "Begin", l.Begin(9), api.ErrArg)
	has(t, "three", l, 3, 4, 9)
	has(t, "opened", opened(t, f, "4:a "), 3, 4, 9)
	fine(t, l.Drop(4))
	has(t, "two", l, 4, 9)
	has(t, "opened", opened(t, f, "4:a "), 4, 9)
	fine(t, l.Begin(10), l.Drop(10), l.Begin(11))
	has(t, "two others", l, 10, 11)
}

func TestTellingIsNoOperation(t *testing.T) {
	l, f := begun(t, 2)
	fine(t, f.Fuse(0))
	before := f.Ops()
	has(t, "with a fuse", l, 1, 2)
	took(t, "Number, Segments", f, before, 0)
	refused(t, "Sync", l.Sync(), api.ErrOff)
	has(t, "on a disk that is off", l, 1, 2)
}
