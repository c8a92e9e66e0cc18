package manifest_test

import (
	"bytes"
	"fmt"
	"slices"
	"testing"

	"bootprint/api"
	"bootprint/manifest"
	"bootprint/version"
	"bootprint/vfs"
)

// Rule 4

// scribble writes over all memory of a version, its spare room too.
func scribble(v api.Version) {
	for _, files := range v.Levels[:cap(v.Levels)] {
		for i := range files[:cap(files)] {
			f := &files[:cap(files)][i]
			for _, key := range [][]byte{f.Least, f.Most} {
				copy(key[:cap(key)], bytes.Repeat([]byte{0x55}, cap(key)))
			}
			*f = file(77, "scribble", "scribbled")
		}
	}
	for i := range v.Levels[:cap(v.Levels)] {
		v.Levels[:cap(v.Levels)][i] = []api.File{file(78, "x", "y")}
	}
}

func TestVersionAnswersNewMemory(t *testing.T) {
	m, f := begun(t)
	for i, e := range some() {
		fine(t, m.Append(e))
		if i == 3 {
			fine(t, m.Roll())
		}
		if i == 4 {
			again, err := manifest.Open(f)
			fine(t, err)
			m = again
		}
		want := told(made(t, some()[:i+1]...))
		a, b := m.Version(), m.Version()
		scribble(a)
		if told(b) != want || told(m.Version()) != want {
			t.Fatalf("two answers share memory, or one with the manifest: %s; %s; want %s", told(b), told(m.Version()), want)
		}
		for level := range b.Levels {
			_ = append(b.Levels[level], file(79, "x", "y"))
		}
		if told(m.Version()) != want {
			t.Fatalf("an answer's spare room is the manifest's: %s", told(m.Version()))
		}
	}
	opened(t, "anew", f, made(t, some()...), 2)
}

// No two keys of one answer share memory.
func TestKeysOfOneVersionStandApart(t *testing.T) {
	m, _ := begun(t, api.Edit{Next: 100, Adds: append(rising(1, 20, 9), add(0, file(50, "a", "b")), add(0, file(51, "a", "b")))})
	v := m.Version()
	var keys [][]byte
	for _, files := range v.Levels {
		for _, f := range files {
			keys = append(keys, f.Least[:cap(f.Least)], f.Most[:cap(f.Most)])
		}
	}
	for i, key := range keys {
		for j := range key {
			key[j] = byte(i)
		}
	}
	for i, key := range keys {
		if !bytes.Equal(key, bytes.Repeat([]byte{byte(i)}, len(key))) {
			t.Fatalf("key %d shares memory", i)
		}
	}
}

// A version that was told does not follow the manifest.
func TestVersionThatWasToldStays(t *testing.T) {
	m, _ := begun(t)
	var versions []api.Version
	for _, e := range some() {
		versions = append(versions, m.Version())
		fine(t, m.Append(e), m.Roll())
	}
	for i, v := range versions {
		if got, want := told(v), told(made(t, some()[:i]...)); got != want {
			t.Errorf("version %d: %s, want %s", i, got, want)
		}
	}
}

// What Append is handed is not changed, nor kept, nor is its spare room touched.
func TestAppendKeepsNothingOfWhatItWasHanded(t *testing.T) {
	m, f := begun(t, adds(2))
	keys := []byte("aabbccddeeff")
	room := []api.Add{
		add(1, api.File{Number: 2, Size: 5, Least: keys[0:2], Most: keys[2:4], Entries: 1}),
		add(0, api.File{Number: 3, Size: 5, Least: keys[4:6], Most: keys[6:8], Entries: 1}),
		add(9, file(99, "spare", "room")),
	}
	drops := []api.Drop{drop(0, 1), drop(9, 99)}
	e := api.Edit{Next: 4, Seq: 3, Log: 2, Drops: drops[:1], Adds: room[:2]}
	before := fmt.Sprint(e, room, drops, string(keys))
	fine(t, m.Append(e))
	if got := fmt.Sprint(e, room, drops, string(keys)); got != before {
		t.Errorf("what was handed in is %s, was %s", got, before)
	}
	want := told(m.Version())
	copy(keys, "xxxxxxxxxxxx")
	clear(room)
	clear(drops)
	if got := told(m.Version()); got != want {
		t.Errorf("the manifest follows what it was handed: %s, want %s", got, want)
	}
	fine(t, m.Roll())
	if again, err := manifest.Open(f); err != api.OK || told(again.Version()) != want {
		t.Errorf("Open: %d", err)
	}
}

// The file system is kept: what is done to it elsewhere is what the manifest
// finds.
func TestManifestKeepsTheFileSystem(t *testing.T) {
	m, f := begun(t, adds(2))
	fine(t, f.Append(first, []byte(rowOf(adds(3)))), m.Append(adds(4)))
	holds(t, f, first, rowOf(beginning(), adds(2), adds(3), adds(4)))
	if m.Size() != f.Size(first) {
		t.Errorf("Size: %d, want %d", m.Size(), f.Size(first))
	}
	opened(t, "anew", f, made(t, adds(2), adds(3), adds(4)), 1)

	// A file that went is the disk's error.
	m, f = begun(t, adds(2))
	fine(t, f.Remove(first))
	refused(t, "Append", m.Append(adds(3)), api.ErrNone)
	spoilt(t, "without its file", m, f, api.ErrNone)
	m, f = begun(t, adds(2))
	fine(t, f.Remove(first))
	refused(t, "Roll", m.Roll(), api.ErrNone)
	tells(t, "rolled without the one ahead", m, f, made(t, adds(2)), 2)
	spoilt(t, "rolled without the one ahead", m, f, api.ErrNone)
}

// Two manifests know nothing of each other.
func TestManifestsStandApart(t *testing.T) {
	m, f := begun(t, adds(2))
	other, g := begun(t)
	again := opened(t, "again", f, made(t, adds(2)), 1)
	fine(t, f.Fault(0, api.ErrIO))
	refused(t, "Append", m.Append(adds(3)), api.ErrIO)
	fine(t, again.Append(adds(3)), other.Append(adds(2)), other.Roll())
	tells(t, "the one", m, f, made(t, adds(2)), 1)
	tells(t, "the other one of the same disk", again, f, made(t, adds(2), adds(3)), 1)
	tells(t, "the one of another disk", other, g, made(t, adds(2)), 2)
}

// Rule 5

func TestNoManifest(t *testing.T) {
	unmade := manifest.Manifest{}
	for _, m := range []*manifest.Manifest{nil, {}, new(manifest.Manifest), &unmade} {
		for _, e := range []api.Edit{{}, beginning(), adds(2), {Next: greatest, Drops: []api.Drop{drop(-1, 0)}}} {
			refused(t, "Append", m.Append(e), api.ErrNil)
		}
		refused(t, "Roll", m.Roll(), api.ErrNil)
		v := m.Version()
		if len(v.Levels) != 0 || v.Next != 0 || v.Seq != 0 || v.Log != 0 || m.Number() != 0 || m.Size() != 0 {
			t.Errorf("%s, %d, %d; want nothing", told(v), m.Number(), m.Size())
		}
	}
}

// The chapter's examples

func TestExamplesOfTheChapter(t *testing.T) {
	f := fresh(t)
	m, e := manifest.Open(f)
	fine(t, e)
	if m.Number() != 1 {
		t.Errorf("Number: %d", m.Number())
	}
	named(t, f, "current", "manifest-000000000001")

	fine(t, m.Append(api.Edit{Next: 2, Adds: []api.Add{add(0, file(1, "a", "b"))}}))
	m, e = manifest.Open(f)
	fine(t, e)
	if v := m.Version(); v.Next != 2 {
		t.Errorf("Next: %d", v.Next)
	}

	fine(t, m.Roll())
	if m.Number() != 2 {
		t.Errorf("Number: %d", m.Number())
	}
	named(t, f, "current", "manifest-000000000002")
}

// A nil list and an empty one are one and the same.
func TestNilAndEmptyLists(t *testing.T) {
	m, f := begun(t)
	fine(t, m.Append(api.Edit{Next: 1, Drops: []api.Drop{}, Adds: []api.Add{}}), m.Append(api.Edit{Next: 1}))
	holds(t, f, first, rowOf(beginning(), beginning(), beginning()))
	if v := m.Version(); len(v.Levels) != api.MaxLevels || slices.ContainsFunc(v.Levels, func(l []api.File) bool { return len(l) > 0 }) {
		t.Errorf("Version: %s", told(v))
	}
	tells(t, "nothing changed", m, f, version.First(), 1)
}

func ExampleOpen() {
	f, _ := vfs.New(1 << 20)
	m, _ := manifest.Open(f)
	m.Append(api.Edit{Next: 2, Adds: []api.Add{{Level: 1, File: api.File{
		Number: 1, Size: 100, Least: []byte("a"), Most: []byte("c"), Entries: 3, MostSeq: 7,
	}}}})
	f.Fuse(1)
	e := m.Append(api.Edit{Next: 3})
	fmt.Println(e, m.Version().Next)
	f.Crash(0, []int{0, 9})
	m, e = manifest.Open(f)
	fmt.Println(e, m.Version().Next, m.Number(), f.Names())
	// Output:
	// 9 2
	// 0 2 2 [current manifest-000000000002]
}
