package manifest_test

import (
	"fmt"
	"hash/crc32"
	"math/bits"
	"slices"
	"strings"
	"testing"

	"bootprint/api"
	"bootprint/manifest"
	"bootprint/version"
	"bootprint/vfs"
)

const (
	trillion = 1000 * 1000 * 1000 * 1000
	greatest = 1<<64 - 1

	first  = "manifest-000000000001"
	second = "manifest-000000000002"
	third  = "manifest-000000000003"
	last   = "manifest-999999999999"
)

// The disk

// fresh answers a new file system.
func fresh(t *testing.T) *vfs.Fs {
	t.Helper()
	f, e := vfs.New(1 << 24)
	if f == nil || e != api.OK {
		t.Fatalf("New: %v, %d", f, e)
	}
	return f
}

// fine fails unless every error is OK.
func fine(t *testing.T, errors ...api.Errno) {
	t.Helper()
	for i, e := range errors {
		if e != api.OK {
			t.Fatalf("call %d: %d, want OK", i, e)
		}
	}
}

// refused fails unless e is the error that is wanted.
func refused(t *testing.T, what string, e, want api.Errno) {
	t.Helper()
	if e != want {
		t.Errorf("%s: %d, want %d", what, e, want)
	}
}

// put makes a file of these bytes, or puts them in the place of those it has;
// they and its name are synced.
func put(t *testing.T, f *vfs.Fs, name, b string) {
	t.Helper()
	if f.Size(name) >= 0 {
		fine(t, f.Remove(name))
	}
	fine(t, f.Create(name), f.Append(name, []byte(b)), f.Sync(name), f.SyncDir())
}

// content tells the bytes of a file.
func content(t *testing.T, f *vfs.Fs, name string) string {
	t.Helper()
	b, e := f.Read(name, 0, api.MaxDisk)
	if e != api.OK {
		t.Fatalf("Read of %s: %d", name, e)
	}
	return string(b)
}

// contents tells all files, with their bytes.
func contents(t *testing.T, f *vfs.Fs) string {
	t.Helper()
	var s strings.Builder
	for _, name := range f.Names() {
		fmt.Fprintf(&s, "%s: %q\n", name, content(t, f, name))
	}
	return s.String()
}

// holds fails unless the file has just these bytes.
func holds(t *testing.T, f *vfs.Fs, name, want string) {
	t.Helper()
	if b := content(t, f, name); b != want {
		t.Errorf("%s has %q, want %q", name, shortly(b), shortly(want))
	}
}

// named fails unless the directory has just these names.
func named(t *testing.T, f *vfs.Fs, want ...string) {
	t.Helper()
	if l := f.Names(); !slices.Equal(l, want) {
		t.Errorf("Names: %q, want %q", l, want)
	}
}

// took fails unless there were so many operations since before.
func took(t *testing.T, what string, f *vfs.Fs, before, want int) {
	t.Helper()
	if n := f.Ops() - before; n != want {
		t.Errorf("%s: %d operations, want %d", what, n, want)
	}
}

// The bytes, as the chapters say them

// maskedSum tells the masked sum of s as four bytes, by the library's sum.
func maskedSum(s string) string {
	m := bits.RotateLeft32(crc32.Checksum([]byte(s), crc32.MakeTable(crc32.Castagnoli)), 17) + 0xA282EAD8
	return string([]byte{byte(m), byte(m >> 8), byte(m >> 16), byte(m >> 24)})
}

// headFor tells a frame's head with its sum, of whatever length it says.
func headFor(kind byte, length int) string {
	s := string([]byte{kind, byte(length), byte(length >> 8), byte(length >> 16)})
	return s + maskedSum(s)
}

// framed tells a frame.
func framed(kind byte, body string) string {
	return headFor(kind, len(body)) + body + maskedSum(body)
}

// short tells short numbers.
func short(numbers ...uint64) string {
	var b []byte
	for _, n := range numbers {
		for ; n >= 128; n /= 128 {
			b = append(b, byte(n%128+128))
		}
		b = append(b, byte(n))
	}
	return string(b)
}

func pieceOf(b []byte) string {
	return short(uint64(len(b))) + string(b)
}

// editBytes tells an edit's.
func editBytes(e api.Edit) string {
	var s strings.Builder
	s.WriteString(short(e.Next, e.Seq, e.Log, uint64(len(e.Drops))))
	for _, d := range e.Drops {
		s.WriteString(short(uint64(d.Level), d.Number))
	}
	s.WriteString(short(uint64(len(e.Adds))))
	for _, a := range e.Adds {
		s.WriteString(short(uint64(a.Level), a.File.Number, uint64(a.File.Size), uint64(a.File.Entries), a.File.MostSeq))
		s.WriteString(pieceOf(a.File.Least) + pieceOf(a.File.Most))
	}
	return s.String()
}

// rowOf tells the row of edits, as a manifest's file holds it.
func rowOf(edits ...api.Edit) string {
	s := ""
	for _, e := range edits {
		s += framed(5, editBytes(e))
	}
	return s
}

// wholeRow tells the row of the one edit that makes v.
func wholeRow(v api.Version) string {
	e := api.Edit{Next: v.Next, Seq: v.Seq, Log: v.Log}
	for level, files := range v.Levels {
		for _, f := range files {
			e.Adds = append(e.Adds, add(level, f))
		}
	}
	return rowOf(e)
}

// Versions and edits

func file(number uint64, least, most string) api.File {
	return api.File{Number: number, Size: 100, Least: []byte(least), Most: []byte(most), Entries: 3, MostSeq: 7}
}

func add(level int, f api.File) api.Add { return api.Add{Level: level, File: f} }

func drop(level int, number uint64) api.Drop { return api.Drop{Level: level, Number: number} }

// adds answers the edit that adds a file of the number ahead of next to level 0.
func adds(next uint64) api.Edit {
	return api.Edit{Next: next, Seq: next * 10, Log: next / 2, Adds: []api.Add{add(0, file(next-1, "a", "c"))}}
}

// beginning is the edit that makes the first version.
func beginning() api.Edit { return api.Edit{Next: 1} }

// some are edits that can be applied to the first version, one after the other:
// files come, go, and go down.
func some() []api.Edit {
	return []api.Edit{
		adds(2),
		adds(3),
		{Next: 4, Seq: 30, Log: 2, Drops: []api.Drop{drop(0, 1), drop(0, 2)}, Adds: []api.Add{add(1, file(3, "a", "c"))}},
		{Next: 6, Seq: 50, Log: 2, Adds: []api.Add{add(1, file(5, "x", "zz")), add(3, file(4, "b", strings.Repeat("y", 150)))}},
		{Next: 6, Seq: 60, Log: 5},
		{Next: 300, Seq: 1<<56 - 1, Log: trillion - 1, Drops: []api.Drop{drop(3, 4)}},
	}
}

// made answers what edits make of the first version.
func made(t *testing.T, edits ...api.Edit) api.Version {
	t.Helper()
	v := version.First()
	for _, e := range edits {
		w, err := version.Apply(v, e)
		fine(t, err)
		v = w
	}
	return v
}

// told writes a version as a text, so that it is compared whole.
func told(v api.Version) string {
	var s strings.Builder
	fmt.Fprintf(&s, "Next %d, Seq %d, Log %d, %d levels:", v.Next, v.Seq, v.Log, len(v.Levels))
	for level, l := range v.Levels {
		for _, f := range l {
			fmt.Fprintf(&s, " %d at %d (%d bytes, %q to %q, %d up to %d)", f.Number, level, f.Size, f.Least, f.Most, f.Entries, f.MostSeq)
		}
	}
	return s.String()
}

// What the package tells

// opened opens the manifest, and fails unless it tells that version, that
// number, and the size of that file.
func opened(t *testing.T, what string, f *vfs.Fs, v api.Version, number uint64) *manifest.Manifest {
	t.Helper()
	m, e := manifest.Open(f)
	if m == nil || e != api.OK {
		t.Fatalf("%s: Open: %v, %d", what, m, e)
	}
	tells(t, what, m, f, v, number)
	return m
}

// tells fails unless the manifest tells that version, that number, and the size
// of that file.
func tells(t *testing.T, what string, m *manifest.Manifest, f *vfs.Fs, v api.Version, number uint64) {
	t.Helper()
	if got, want := told(m.Version()), told(v); got != want {
		t.Fatalf("%s: Version: %s; want %s", what, shortly(got), shortly(want))
	}
	name := fmt.Sprintf("manifest-%012d", number)
	if m.Number() != number || m.Size() != f.Size(name) || m.Size() <= 0 {
		t.Fatalf("%s: Number %d, Size %d; want %d, %d", what, m.Number(), m.Size(), number, f.Size(name))
	}
}

// notOpened fails unless Open answers that error and nothing else.
func notOpened(t *testing.T, what string, f *vfs.Fs, want api.Errno) {
	t.Helper()
	if m, e := manifest.Open(f); m != nil || e != want {
		t.Errorf("%s: Open: %v, %d; want nothing and %d", what, m, e, want)
	}
}

// isBad fails unless Open answers ErrBad by so many operations, and leaves the
// disk as it is.
func isBad(t *testing.T, what string, f *vfs.Fs, operations int) {
	t.Helper()
	before, ops := contents(t, f), 0
	for range 2 {
		ops = f.Ops()
		notOpened(t, what, f, api.ErrBad)
		took(t, what, f, ops, operations)
	}
	if got := contents(t, f); got != before {
		t.Errorf("%s: the disk has %s, want %s", what, got, before)
	}
}

// disk answers a file system with the manifest of that number, whose file has
// these bytes; all is synced.
func disk(t *testing.T, number uint64, row string) *vfs.Fs {
	t.Helper()
	f := fresh(t)
	name := fmt.Sprintf("manifest-%012d", number)
	put(t, f, name, row)
	put(t, f, "current", name+"\n")
	return f
}

// begun answers a manifest of the number 1 to which these edits were appended,
// and its disk.
func begun(t *testing.T, edits ...api.Edit) (*manifest.Manifest, *vfs.Fs) {
	t.Helper()
	f := fresh(t)
	m := opened(t, "a new one", f, version.First(), 1)
	for _, e := range edits {
		fine(t, m.Append(e))
	}
	return m, f
}

// shortly tells what a text begins with.
func shortly(s string) string {
	if len(s) > 600 {
		return fmt.Sprintf("%s.. (%d bytes)", s[:600], len(s))
	}
	return s
}
