package wal_test

import (
	"bytes"
	"fmt"
	"hash/crc32"
	"math/bits"
	"slices"
	"testing"

	"bootprint/api"
	"bootprint/vfs"
	"bootprint/wal"
)

const greatest = 1<<63 - 1

// fresh answers a new file system.
func fresh(t *testing.T) *vfs.Fs {
	t.Helper()
	f, e := vfs.New(1 << 22)
	if f == nil || e != api.OK {
		t.Fatalf("New: %v, %d", f, e)
	}
	return f
}

// fine fails unless every error is OK.
func fine(t *testing.T, errors ...api.Errno) {
	t.Helper()
	for i, e := range errors {
		if e != api.OK {
			t.Fatalf("call %d: %d, want OK", i, e)
		}
	}
}

// refused fails unless e is the error that is wanted.
func refused(t *testing.T, what string, e, want api.Errno) {
	t.Helper()
	if e != want {
		t.Errorf("%s: %d, want %d", what, e, want)
	}
}

// maskedSum tells the masked sum of b as four bytes, by the library's sum.
func maskedSum(b []byte) []byte {
	s := crc32.Checksum(b, crc32.MakeTable(crc32.Castagnoli))
	m := bits.RotateLeft32(s, 17) + 0xA282EAD8
	return []byte{byte(m), byte(m >> 8), byte(m >> 16), byte(m >> 24)}
}

// headFor tells a frame's head with its sum, of whatever length it says.
func headFor(kind byte, length int) []byte {
	b := []byte{kind, byte(length), byte(length >> 8), byte(length >> 16)}
	return append(b, maskedSum(b)...)
}

// framed tells a frame's bytes as the chapter of frames says them.
func framed(kind byte, body string) string {
	b := append(headFor(kind, len(body)), body...)
	return string(append(b, maskedSum([]byte(body))...))
}

// short tells a short number as the chapter of numbers says it.
func short(n uint64) string {
	var b []byte
	for ; n >= 128; n /= 128 {
		b = append(b, byte(n%128+128))
	}
	return string(append(b, byte(n)))
}

// segmentOf tells the bytes of a segment with these records.
func segmentOf(n uint64, records ...string) string {
	s := framed(0, short(n))
	for _, r := range records {
		s += framed(1, r)
	}
	return s
}

// put makes a file of these bytes, or puts them in the place of those it has;
// they and its name are synced.
func put(t *testing.T, f *vfs.Fs, name, b string) {
	t.Helper()
	if f.Size(name) >= 0 {
		fine(t, f.Remove(name))
	}
	fine(t, f.Create(name), f.Append(name, []byte(b)), f.Sync(name), f.SyncDir())
}

// content tells the bytes of a file.
func content(t *testing.T, f *vfs.Fs, name string) string {
	t.Helper()
	b, e := f.Read(name, 0, api.MaxDisk)
	if e != api.OK {
		t.Fatalf("Read of %s: %d", name, e)
	}
	return string(b)
}

// holds fails unless the file has just these bytes.
func holds(t *testing.T, f *vfs.Fs, name, want string) {
	t.Helper()
	if b := content(t, f, name); b != want {
		t.Errorf("%s has %q, want %q", name, b, want)
	}
}

// named fails unless the directory has just these names.
func named(t *testing.T, f *vfs.Fs, want ...string) {
	t.Helper()
	if l := f.Names(); !slices.Equal(l, want) {
		t.Errorf("Names: %q, want %q", l, want)
	}
}

// took fails unless there were so many operations since before.
func took(t *testing.T, what string, f *vfs.Fs, before, want int) {
	t.Helper()
	if n := f.Ops() - before; n != want {
		t.Errorf("%s: %d operations, want %d", what, n, want)
	}
}

// told writes records as a text, segment:body, so that they are compared whole.
func told(l []api.LogRecord) string {
	s := ""
	for _, r := range l {
		s += fmt.Sprintf("%d:%s ", r.Segment, r.Body)
	}
	return s
}

// opened opens the log, and fails unless it tells just these records.
func opened(t *testing.T, f *vfs.Fs, want string) *wal.Log {
	t.Helper()
	l, records, e := wal.Open(f)
	if l == nil || e != api.OK {
		t.Fatalf("Open: %v, %d", l, e)
	}
	if got := told(records); got != want {
		t.Fatalf("Open tells %q, want %q", got, want)
	}
	return l
}

// notOpened fails unless Open answers that error, and nothing else.
func notOpened(t *testing.T, what string, f *vfs.Fs, want api.Errno) {
	t.Helper()
	l, records, e := wal.Open(f)
	if l != nil || len(records) != 0 || e != want {
		t.Errorf("%s: Open: %v, %q, %d; want nothing and %d", what, l, told(records), e, want)
	}
}

// has fails unless the log has just these segments.
func has(t *testing.T, what string, l *wal.Log, want ...uint64) {
	t.Helper()
	last := uint64(0)
	if len(want) > 0 {
		last = want[len(want)-1]
	}
	if got := l.Segments(); !slices.Equal(got, want) || l.Number() != last {
		t.Errorf("%s: Segments %d, Number %d; want %d", what, got, l.Number(), want)
	}
}

// begun answers a log with the segments 1 to n, each with the one record that
// its number's letter is (a of 1), all synced, and its file system.
func begun(t *testing.T, n int) (*wal.Log, *vfs.Fs) {
	t.Helper()
	f := fresh(t)
	l := opened(t, f, "")
	for i := range n {
		fine(t, l.Begin(uint64(i+1)), l.Append([]byte{byte('a' + i)}), l.Sync())
	}
	return l, f
}

// copied answers a file system with the same files, all synced.
func copied(t *testing.T, f *vfs.Fs) *vfs.Fs {
	t.Helper()
	g := fresh(t)
	for _, name := range f.Names() {
		put(t, g, name, content(t, f, name))
	}
	return g
}

// spare overwrites a list, its spare room too.
func spare(b []byte) {
	room := b[:cap(b)]
	copy(room, bytes.Repeat([]byte{0x55}, len(room)))
}
