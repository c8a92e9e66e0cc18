package wal_test

import (
	"bytes"
	"fmt"
	"slices"
	"testing"

	"bootprint/api"
	"bootprint/vfs"
	"bootprint/wal"
)

// Rule 4

func TestAppendKeepsNothingOfWhatItWasHanded(t *testing.T) {
	l, f := begun(t, 1)
	whole := []byte("bytes and spare room")
	before := bytes.Clone(whole)
	fine(t, l.Append(whole[:5]), l.Append(whole[6:9]))
	if !bytes.Equal(whole, before) {
		t.Errorf("what was handed in is %q", whole)
	}
	spare(whole)
	fine(t, l.Append([]byte("more")), l.Sync())
	opened(t, f, "1:a 1:bytes 1:and 1:more ")
}

func TestOpenAnswersNewMemory(t *testing.T) {
	_, f := begun(t, 3)
	put(t, f, wal.Name(3), segmentOf(3, "some", "", "records")+"torn")
	files := copied(t, f)
	for range 2 {
		l, first, e := wal.Open(f)
		fine(t, e)
		_, second, e := wal.Open(f)
		fine(t, e)
		const want = "1:a 2:b 3:some 3: 3:records "
		if told(first) != want || told(second) != want {
			t.Fatalf("Open tells %q, %q", told(first), told(second))
		}
		// No two of the lists share room, their spare room neither.
		for i := range first {
			body := first[i].Body
			room := body[:cap(body)]
			for j := range room {
				room[j] = byte(i)
			}
		}
		for i := range first {
			for _, c := range first[i].Body[:cap(first[i].Body)] {
				if c != byte(i) {
					t.Fatalf("two records share memory")
				}
			}
		}
		room := first[:cap(first)]
		for i := range room {
			room[i] = api.LogRecord{Segment: 99}
		}
		if told(second) != want {
			t.Errorf("two answers share memory: %q", told(second))
		}
		fine(t, l.Append(nil), l.Begin(l.Number()+1), l.Drop(l.Number()))
		if told(second) != want {
			t.Errorf("an answer follows the log: %q", told(second))
		}
		f = files
	}
}

func TestSegmentsAnswersNewMemory(t *testing.T) {
	l, _ := begun(t, 3)
	for range 3 {
		a, b := l.Segments(), l.Segments()
		room := a[:cap(a)]
		for i := range room {
			room[i] = 77
		}
		if !slices.Equal(b, []uint64{1, 2, 3}) {
			t.Errorf("two answers share memory: %d", b)
		}
		_ = append(b, 88)
	}
	has(t, "Segments", l, 1, 2, 3)
	b := l.Segments()
	fine(t, l.Begin(4), l.Drop(3), l.Begin(5))
	if !slices.Equal(b, []uint64{1, 2, 3}) {
		t.Errorf("the answer follows the log: %d", b)
	}
	_ = append(l.Segments(), 6)
	fine(t, l.Begin(7))
	has(t, "Segments", l, 3, 4, 5, 7)
}

// The file system is kept: what is done to it elsewhere is what the log finds.
func TestLogKeepsTheFileSystem(t *testing.T) {
	l, f := begun(t, 1)
	fine(t, f.Append(wal.Name(1), []byte(framed(1, "by another"))), l.Append([]byte("b")), l.Sync())
	holds(t, f, wal.Name(1), segmentOf(1, "a", "by another", "b"))
	opened(t, f, "1:a 1:by another 1:b ")
}

// Two logs of one file system, or of two, know nothing of each other.
func TestLogsStandApart(t *testing.T) {
	l, f := begun(t, 1)
	other, g := begun(t, 2)
	again := opened(t, f, "1:a ")
	fine(t, l.Begin(2), f.Fault(0, api.ErrIO))
	refused(t, "Append", l.Append(nil), api.ErrIO)
	fine(t, again.Append([]byte("x")), other.Append([]byte("y")))
	has(t, "the one", l, 1, 2)
	has(t, "the other one of the same disk", again, 1)
	has(t, "the one of another disk", other, 1, 2)
	opened(t, f, "1:a 1:x ")
	opened(t, g, "1:a 2:b 2:y ")
}

// Rule 5

func TestNoLog(t *testing.T) {
	unmade := wal.Log{}
	for _, l := range []*wal.Log{nil, {}, new(wal.Log), &unmade} {
		for _, b := range [][]byte{nil, []byte("a"), make([]byte, api.MaxFrame+1)} {
			refused(t, "Append", l.Append(b), api.ErrNil)
		}
		refused(t, "Sync", l.Sync(), api.ErrNil)
		for _, n := range []uint64{0, 1, 1e12, 1<<64 - 1} {
			refused(t, "Begin", l.Begin(n), api.ErrNil)
			refused(t, "Drop", l.Drop(n), api.ErrNil)
		}
		if n, s := l.Number(), l.Segments(); n != 0 || len(s) != 0 {
			t.Errorf("Number %d, Segments %d", n, s)
		}
	}
}

// The chapter's examples

func TestExamplesOfTheChapter(t *testing.T) {
	f := fresh(t)
	l := opened(t, f, "")
	refused(t, "Append", l.Append([]byte("a")), api.ErrNone)

	fine(t, l.Begin(1), l.Append([]byte("a")), l.Sync(), l.Append([]byte("b")))
	l = opened(t, f, "1:a 1:b ")

	fine(t, l.Begin(2), l.Append([]byte("c")), l.Sync(), l.Drop(2))
	opened(t, f, "2:c ")

	if s := wal.Name(7); s != "wal-000000000007" {
		t.Errorf("Name of 7: %q", s)
	}
	if n, ok := wal.ParseName("wal-7"); n != 0 || ok {
		t.Errorf("ParseName of wal-7: %d, %t", n, ok)
	}
}

func ExampleOpen() {
	f, _ := vfs.New(1 << 20)
	l, _, _ := wal.Open(f)
	l.Begin(1)
	l.Append([]byte("synced"))
	l.Sync()
	l.Append([]byte("torn"))
	f.Crash(0, []int{9})
	_, records, e := wal.Open(f)
	for _, r := range records {
		fmt.Println(r.Segment, string(r.Body))
	}
	fmt.Println(e)
	// Output:
	// 1 synced
	// 0
}
