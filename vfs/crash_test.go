package vfs_test

import (
	"bytes"
	"fmt"
	"slices"
	"testing"

	"bootprint/api"
	"bootprint/vfs"
)

// P4.4, Crash

func TestCrashKeepsFirstChanges(t *testing.T) {
	wants := [][]string{{"a"}, {"a", "b"}, {"b", "c"}, {"c"}, {"c", "d"}, {"d"}}
	for dir := -3; dir < 20; dir++ {
		f := fresh(t, 10)
		fine(t, f.Create("a"), f.SyncDir())
		fine(t, f.Create("b"), f.Rename("a", "c"), f.Remove("b"), f.Create("d"), f.Remove("c"))
		fine(t, f.Crash(dir, nil))
		named(t, f, wants[max(dir, 0)%6]...)
	}
	for _, c := range []struct{ dir, want int }{{least, 0}, {greatest, greatest % 6}, {1 << 40, 1 << 40 % 6}} {
		f := fresh(t, 10)
		fine(t, f.Create("a"), f.SyncDir())
		fine(t, f.Create("b"), f.Rename("a", "c"), f.Remove("b"), f.Create("d"), f.Remove("c"))
		fine(t, f.Crash(c.dir, nil))
		named(t, f, wants[c.want]...)
	}
}

func TestCrashKeepsFirstBytes(t *testing.T) {
	for keep := -3; keep < 15; keep++ {
		f := fresh(t, 10)
		fine(t, f.Create("a"), f.SyncDir(), f.Append("a", []byte("01")), f.Sync("a"), f.Append("a", []byte("23")), f.Append("a", []byte("4")))
		fine(t, f.Crash(0, []int{keep}))
		holds(t, f, "a", "01234"[:2+max(keep, 0)%4])
	}
	for _, c := range []struct{ keep, want int }{{least, 0}, {greatest, greatest % 4}} {
		f := fresh(t, 10)
		fine(t, f.Create("a"), f.SyncDir(), f.Append("a", []byte("012")), f.Crash(0, []int{c.keep}))
		holds(t, f, "a", "012"[:c.want])
	}
}

func TestCrashTakesKeepByRisingNames(t *testing.T) {
	for _, c := range []struct {
		keep []int
		want [3]string
	}{
		{nil, [3]string{"", "", ""}},
		{[]int{}, [3]string{"", "", ""}},
		{[]int{1}, [3]string{"a", "", ""}},
		{[]int{0, 2}, [3]string{"", "bb", ""}},
		{[]int{1, -1, 3}, [3]string{"a", "", "ccc"}},
		{[]int{3, 2, 1}, [3]string{"aaa", "bb", "c"}},
		{[]int{4, 5, 6, 1, 1}, [3]string{"", "b", "cc"}},
	} {
		f := fresh(t, 20)
		fine(t, f.Create("c"), f.Create("a"), f.Create("b"))
		fine(t, f.Append("a", []byte("aaa")), f.Append("b", []byte("bbb")), f.Append("c", []byte("ccc")))
		fine(t, f.Crash(3, c.keep))
		named(t, f, "a", "b", "c")
		for i, name := range []string{"a", "b", "c"} {
			holds(t, f, name, c.want[i])
		}
	}
}

func TestCrashCountsNamesThatAreLeft(t *testing.T) {
	// a goes, b comes back: b has the first number, though it has nothing to keep.
	f := fresh(t, 20)
	fine(t, f.Create("b"), f.Append("b", []byte("b")), f.Sync("b"), f.Create("c"), f.Append("c", []byte("cc")), f.SyncDir())
	fine(t, f.Remove("b"), f.Create("a"), f.Append("a", []byte("aa")))
	fine(t, f.Crash(0, []int{7, 1}))
	named(t, f, "b", "c")
	holds(t, f, "b", "b")
	holds(t, f, "c", "c")
}

func TestCrashUndoesARenameOntoAFile(t *testing.T) {
	for dir := range 2 {
		f := fresh(t, 20)
		fine(t, f.Create("a"), f.Append("a", []byte("old")), f.Sync("a"), f.Append("a", []byte("er")))
		fine(t, f.Create("tmp"), f.Append("tmp", []byte("new")), f.Sync("tmp"), f.SyncDir())
		fine(t, f.Rename("tmp", "a"), f.Append("a", []byte("est")), f.Sync("a"))
		fine(t, f.Crash(dir, []int{1}))
		if dir == 0 {
			named(t, f, "a", "tmp")
			holds(t, f, "a", "olde")
			holds(t, f, "tmp", "newest") // what was synced by another name is synced
		} else {
			named(t, f, "a")
			holds(t, f, "a", "newest")
		}
	}
}

func TestCrashUndoesARemoval(t *testing.T) {
	f := fresh(t, 20)
	fine(t, f.Create("a"), f.Append("a", []byte("xy")), f.Sync("a"), f.SyncDir(), f.Remove("a"), f.Create("a"), f.Append("a", []byte("other")), f.Sync("a"))
	fine(t, f.Crash(0, nil))
	holds(t, f, "a", "xy")
	fine(t, f.Remove("a"), f.Create("a"), f.Crash(1, nil))
	named(t, f)
	fine(t, f.Create("a"))
	holds(t, f, "a", "")
}

func TestCrashSyncsAll(t *testing.T) {
	f := fresh(t, 20)
	fine(t, f.Create("a"), f.Append("a", []byte("abc")), f.Create("b"), f.Append("b", []byte("def")), f.Crash(2, []int{2, 3}))
	for dir := range 4 {
		fine(t, f.Crash(dir, []int{dir, dir}))
		named(t, f, "a", "b")
		holds(t, f, "a", "ab")
		holds(t, f, "b", "def")
	}
	// What is done since then is what the next one undoes.
	fine(t, f.Append("a", []byte("c")), f.Remove("b"), f.Crash(0, nil))
	named(t, f, "a", "b")
	holds(t, f, "a", "ab")
}

func TestCrashForgetsWhatItUndid(t *testing.T) {
	f := fresh(t, 20)
	fine(t, f.Create("a"), f.Create("b"), f.Crash(0, nil))
	named(t, f)
	fine(t, f.Create("c"), f.Crash(2, nil)) // modulo 2: of the one change none
	named(t, f)
	fine(t, f.Create("c"), f.Crash(1, nil))
	named(t, f, "c")
}

func TestCrashBytesThatWentAreNotThereLater(t *testing.T) {
	f := fresh(t, 20)
	fine(t, f.Create("a"), f.SyncDir(), f.Append("a", []byte("abcdef")), f.Crash(0, []int{2}))
	fine(t, f.Append("a", []byte("x")))
	holds(t, f, "a", "abx")
	fine(t, f.Crash(0, []int{1}))
	holds(t, f, "a", "abx")
}

// P4.5

// act is an operation of a script, for a file system and for the plain one.
type act struct {
	kind     int
	name, to string
	bytes    []byte
	at, n    int
}

func (a act) String() string {
	return fmt.Sprintf("%d %s %s %q %d %d", a.kind, a.name, a.to, a.bytes, a.at, a.n)
}

// both does it to both, and fails unless they answer the same.
func (a act) both(t *testing.T, f *vfs.Fs, p *plain) api.Errno {
	t.Helper()
	var got, want api.Errno
	var b, c []byte
	switch a.kind {
	case 0:
		got, want = f.Create(a.name), p.create(a.name)
	case 1:
		got, want = f.Append(a.name, a.bytes), p.append(a.name, a.bytes)
	case 2:
		got, want = f.Sync(a.name), p.sync(a.name)
	case 3:
		got, want = f.SyncDir(), p.syncDir()
	case 4:
		got, want = f.Rename(a.name, a.to), p.rename(a.name, a.to)
	case 5:
		got, want = f.Remove(a.name), p.remove(a.name)
	case 6:
		b, got = f.Read(a.name, a.at, a.n)
		c, want = p.read(a.name, a.at, a.n)
	}
	if got != want || !slices.Equal(b, c) {
		t.Fatalf("%v: %q, %d; want %q, %d", a, b, got, c, want)
	}
	alike(t, a.String(), f, p)
	return got
}

// script tells so many operations on few names, so that they meet.
func script(seed uint64, length int) []act {
	r := scrambled(seed)
	kinds := []int{0, 0, 1, 1, 1, 1, 2, 2, 3, 4, 4, 5, 6}
	names := []string{"a", "b", "c", "d"}
	var l []act
	for i := range length {
		l = append(l, act{
			kind: kinds[r.IntN(len(kinds))], name: names[r.IntN(4)], to: names[r.IntN(4)],
			bytes: bytes.Repeat([]byte{byte('A' + i%26)}, r.IntN(4)),
			at:    r.IntN(8), n: r.IntN(8),
		})
	}
	return l
}

// crashAt does the script till the place, where the disk goes off, and answers
// both file systems behind the crash.
func crashAt(t *testing.T, l []act, place, dir int, keep []int) (*vfs.Fs, *plain) {
	t.Helper()
	f, p := fresh(t, 25), newPlain(25)
	fine(t, f.Fuse(place))
	p.fuse = place
	for _, a := range l[:min(place+2, len(l))] {
		a.both(t, f, p)
	}
	fine(t, f.Crash(dir, keep))
	p.crash(dir, keep)
	sameBytes(t, fmt.Sprintf("crash at %d, %d, %d", place, dir, keep), f, p)
	return f, p
}

func TestCrashesAtEveryPlace(t *testing.T) {
	keeps := [][]int{nil, {1, 1, 1, 1}, {0, 2, 1}, {-1, 9, 3, 1}, {greatest, greatest, greatest, greatest, greatest}}
	for seed := range uint64(6) {
		l := script(seed, 60)
		for place := range len(l) + 1 {
			for dir := -1; dir < 9; dir++ {
				f, p := crashAt(t, l, place, dir, keeps[(dir+1)%5])
				// And it goes on from there.
				for _, a := range script(seed+100, 10) {
					a.both(t, f, p)
				}
				fine(t, f.Crash(1, []int{1}))
				p.crash(1, []int{1})
				sameBytes(t, "a second crash", f, p)
			}
		}
	}
}

func TestScriptsWithFaultsAndCrashes(t *testing.T) {
	for seed := range uint64(300) {
		r := scrambled(seed)
		f, p := fresh(t, 30), newPlain(30)
		for _, a := range script(seed, 150) {
			switch r.IntN(16) {
			case 0:
				n := r.IntN(12) - 2
				fine(t, f.Fuse(n))
				p.fuse = p.ops + n
				if n < 0 {
					p.fuse = -1
				}
			case 1:
				n, e := r.IntN(6)-2, api.ErrFull+api.Errno(r.IntN(2))
				fine(t, f.Fault(n, e))
				p.fault, p.failure = p.ops+n, e
				if n < 0 {
					p.fault = -1
				}
			case 2:
				dir, keep := r.IntN(9)-2, make([]int, r.IntN(6))
				for i := range keep {
					keep[i] = r.IntN(7) - 1
				}
				fine(t, f.Crash(dir, keep))
				p.crash(dir, keep)
				sameBytes(t, "a crash amid", f, p)
			case 3:
				if x := p.directory()[a.name]; x != nil && a.at < len(x.bytes) {
					fine(t, f.Turn(a.name, a.at, 1<<a.n))
					x.bytes[a.at] ^= 1 << a.n
				}
			}
			a.both(t, f, p)
		}
		fine(t, f.Crash(0, nil))
		p.crash(0, nil)
		sameBytes(t, "the end", f, p)
	}
}

// What follows, told by what was synced alone, whatever else was done.
func TestWhatWasSyncedIsThereWhole(t *testing.T) {
	after := func(f *vfs.Fs) {
		fine(t, f.Append("kept", []byte("-more")), f.Create("b"), f.Append("b", []byte("bb")), f.Rename("b", "z"), f.Create("a"), f.Remove("z"))
	}
	all := "synced-more"
	for dir := -1; dir < 8; dir++ {
		for keep := -1; keep < 12; keep++ {
			f := fresh(t, 100)
			fine(t, f.Create("kept"), f.Append("kept", []byte("synced")), f.Sync("kept"), f.SyncDir())
			after(f)
			fine(t, f.Crash(dir, []int{keep, keep, keep}))
			n := f.Size("kept")
			if n < len("synced") || n > len(all) {
				t.Fatalf("Crash(%d, %d): %d bytes", dir, keep, n)
			}
			holds(t, f, "kept", all[:n])
			if slices.Index([]string{"[kept]", "[b kept]", "[kept z]", "[a kept z]", "[a kept]"}, fmt.Sprint(f.Names())) < 0 {
				t.Errorf("Crash(%d, %d): no first part of the changes: %q", dir, keep, f.Names())
			}
		}
	}
}

func TestCrashBehindSyncChangesNothing(t *testing.T) {
	for seed := range uint64(100) {
		f, p := fresh(t, 60), newPlain(60)
		for _, a := range script(seed, 80) {
			a.both(t, f, p)
		}
		for _, name := range f.Names() {
			fine(t, f.Sync(name), p.sync(name))
		}
		fine(t, f.SyncDir(), p.syncDir())
		for dir := -1; dir < 5; dir++ {
			fine(t, f.Crash(dir, []int{dir, 3, greatest, 1}))
			sameBytes(t, "a crash with all synced", f, p)
		}
	}
}
