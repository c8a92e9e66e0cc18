package vfs_test

import (
	"bytes"
	"testing"

	"bootprint/api"
	"bootprint/vfs"
)

// P4.2, what each operation does

func TestCreate(t *testing.T) {
	f := fresh(t, 10)
	fine(t, f.Create("a"), f.Create("b"))
	holds(t, f, "a", "")
	fine(t, f.Append("a", []byte("xy")))
	refused(t, "Create of a name that is there", f.Create("a"), api.ErrThere)
	holds(t, f, "a", "xy")
	holds(t, f, "b", "")
	named(t, f, "a", "b")
}

func TestCreateOfANameThatWent(t *testing.T) {
	f := fresh(t, 10)
	fine(t, f.Create("a"), f.Append("a", []byte("xy")), f.Remove("a"), f.Create("a"))
	holds(t, f, "a", "")
	fine(t, f.Append("a", []byte("z")), f.Rename("a", "b"), f.Create("a"))
	holds(t, f, "a", "")
	holds(t, f, "b", "z")
	refused(t, "Create of a name that a file was renamed to", f.Create("b"), api.ErrThere)
}

func TestAppend(t *testing.T) {
	f := fresh(t, 100)
	refused(t, "Append to no file", f.Append("a", []byte("x")), api.ErrNone)
	refused(t, "Append of nothing to no file", f.Append("a", nil), api.ErrNone)
	refused(t, "Append of too much to no file", f.Append("a", make([]byte, 101)), api.ErrNone)
	named(t, f)
	fine(t, f.Create("a"), f.Create("b"))
	fine(t, f.Append("a", []byte("one")), f.Append("b", []byte("two")), f.Append("a", nil), f.Append("a", []byte{}), f.Append("a", []byte("three")))
	holds(t, f, "a", "onethree")
	holds(t, f, "b", "two")
	takes(t, f, 11)
}

func TestAppendWithRoomToTheByte(t *testing.T) {
	for taken := range 8 {
		f := fresh(t, 8)
		fine(t, f.Create("a"), f.Create("b"), f.Append("b", make([]byte, taken)))
		refused(t, "one byte more than there is room for", f.Append("a", make([]byte, 9-taken)), api.ErrFull)
		refused(t, "many more", f.Append("a", make([]byte, 1000)), api.ErrFull)
		holds(t, f, "a", "")
		takes(t, f, taken)
		fine(t, f.Append("a", bytes.Repeat([]byte("r"), 8-taken)), f.Append("a", nil))
		holds(t, f, "a", "rrrrrrrr"[taken:])
		takes(t, f, 8)
		refused(t, "a byte where there is no room", f.Append("b", []byte("x")), api.ErrFull)
	}
}

func TestSync(t *testing.T) {
	f := fresh(t, 10)
	refused(t, "Sync of no file", f.Sync("a"), api.ErrNone)
	fine(t, f.Create("a"), f.SyncDir(), f.Create("b"), f.SyncDir(), f.Append("a", []byte("xy")), f.Append("b", []byte("zz")), f.Sync("a"))
	holds(t, f, "a", "xy")
	fine(t, f.Crash(0, nil))
	holds(t, f, "a", "xy") // its own bytes, and no others
	holds(t, f, "b", "")
}

func TestSyncDir(t *testing.T) {
	f := fresh(t, 10)
	fine(t, f.SyncDir(), f.Create("a"), f.Append("a", []byte("xy")), f.SyncDir(), f.Create("b"))
	named(t, f, "a", "b")
	holds(t, f, "a", "xy")
	fine(t, f.Crash(0, nil))
	named(t, f, "a")
	holds(t, f, "a", "") // names alone are synced, not bytes
}

func TestRename(t *testing.T) {
	f := fresh(t, 20)
	refused(t, "Rename of no file", f.Rename("a", "b"), api.ErrNone)
	fine(t, f.Create("b"), f.Append("b", []byte("old")))
	refused(t, "Rename of no file onto one", f.Rename("a", "b"), api.ErrNone)
	holds(t, f, "b", "old")
	fine(t, f.Create("a"), f.Append("a", []byte("new")), f.Rename("a", "c"))
	named(t, f, "b", "c")
	holds(t, f, "c", "new")
	fine(t, f.Rename("c", "b"))
	named(t, f, "b")
	holds(t, f, "b", "new")
	refused(t, "Rename of a name that went", f.Rename("c", "d"), api.ErrNone)
	fine(t, f.Append("b", []byte("er")))
	holds(t, f, "b", "newer")
}

func TestRenameToItself(t *testing.T) {
	f := fresh(t, 4)
	refused(t, "Rename of no file to itself", f.Rename("a", "a"), api.ErrNone)
	fine(t, f.Create("a"), f.Append("a", []byte("xy")), f.Sync("a"), f.SyncDir(), f.Rename("a", "a"))
	named(t, f, "a")
	holds(t, f, "a", "xy")
	takes(t, f, 2)
	fine(t, f.Create("b")) // the one change that there is
	fine(t, f.Crash(1, nil))
	named(t, f, "a", "b")
	fine(t, f.Rename("a", "a"), f.Crash(0, nil))
	holds(t, f, "a", "xy")
}

func TestRemove(t *testing.T) {
	f := fresh(t, 10)
	refused(t, "Remove of no file", f.Remove("a"), api.ErrNone)
	fine(t, f.Create("a"), f.Create("b"), f.Append("b", []byte("xy")), f.Remove("a"))
	named(t, f, "b")
	holds(t, f, "b", "xy")
	for _, s := range eachOperation("a")[1:] {
		if s.name != "SyncDir" {
			refused(t, s.name+" of a file that went", s.do(f), api.ErrNone)
		}
	}
	if f.Size("a") != -1 {
		t.Errorf("Size of a file that went: %d", f.Size("a"))
	}
}

func TestReadOfParts(t *testing.T) {
	f := fresh(t, 100)
	whole := "0123456789"
	fine(t, f.Create("a"), f.Append("a", []byte(whole[:4])), f.Sync("a"), f.Append("a", []byte(whole[4:])))
	places := []int{0, 1, 3, 4, 5, 9, 10, 11, 100, 1 << 31, greatest}
	for _, at := range places {
		for _, n := range places {
			want := whole[min(at, 10):]
			want = want[:min(n, len(want))]
			if b, e := f.Read("a", at, n); string(b) != want || e != api.OK {
				t.Errorf("Read from %d of %d: %q, %d; want %q", at, n, b, e, want)
			}
			if b, e := f.Read("none", at, n); len(b) != 0 || e != api.ErrNone {
				t.Errorf("Read from %d of %d of no file: %q, %d", at, n, b, e)
			}
		}
	}
}

func TestReadRefuses(t *testing.T) {
	f := fresh(t, 100)
	fine(t, f.Create("a"), f.Append("a", []byte("0123")))
	for _, c := range []struct{ at, n int }{{-1, 0}, {-1, 1}, {0, -1}, {1, -1}, {-1, -1}, {least, 1}, {1, least}, {greatest, -1}, {-1, greatest}, {10, -1}} {
		if b, e := f.Read("a", c.at, c.n); len(b) != 0 || e != api.ErrArg {
			t.Errorf("Read from %d of %d: %q, %d; want none, ErrArg", c.at, c.n, b, e)
		}
	}
}

func TestReadWithAnErrorTellsNothing(t *testing.T) {
	f := fresh(t, 100)
	fine(t, f.Create("a"), f.Append("a", []byte("0123")), f.Fault(0, api.ErrFull))
	for _, want := range []api.Errno{api.ErrFull, api.ErrOff, api.ErrOff} {
		if b, e := f.Read("a", 0, 4); len(b) != 0 || e != want {
			t.Errorf("Read: %q, %d; want none, %d", b, e, want)
		}
		fine(t, f.Fuse(0))
	}
}

// P4.2, the order of errors

func TestNilAheadOfAllElse(t *testing.T) {
	for _, f := range []*vfs.Fs{nil, {}} {
		for _, s := range append(eachWrongCall(), eachOperation("a")...) {
			refused(t, s.name+" of no file system", s.do(f), api.ErrNil)
		}
	}
}

func TestWrongArgumentsAheadOfAllButNil(t *testing.T) {
	for _, s := range eachWrongCall() {
		f := fresh(t, 3)
		fine(t, f.Create("a"), f.Append("a", []byte("abc")))
		refused(t, s.name, s.do(f), api.ErrArg)
		fine(t, f.Fuse(0), f.Fault(0, api.ErrIO))
		refused(t, s.name+" with fuse and fault", s.do(f), api.ErrArg)
		if !f.On() || f.Ops() != 2 {
			t.Errorf("%s: On %t, Ops %d", s.name, f.On(), f.Ops())
		}
		refused(t, "Sync behind it", f.Sync("a"), api.ErrOff)
		refused(t, s.name+" with the disk off", s.do(f), api.ErrArg)
	}
}

func TestOffAheadOfWhatIsThere(t *testing.T) {
	for _, name := range []string{"a", "none"} {
		for _, s := range eachOperation(name) {
			f := fresh(t, 3)
			fine(t, f.Create("a"), f.Append("a", []byte("abc")), f.Fuse(0), f.Fault(0, api.ErrIO))
			refused(t, s.name+" of "+name+", the fuse going off", s.do(f), api.ErrOff)
			refused(t, s.name+" of "+name+", with the disk off", s.do(f), api.ErrOff)
			named(t, f, "a")
			if f.Size("a") != 3 || f.Used() != 3 || f.Ops() != 3 {
				t.Errorf("%s: Size %d, Used %d, Ops %d", s.name, f.Size("a"), f.Used(), f.Ops())
			}
		}
	}
}

func TestFaultAheadOfWhatIsThere(t *testing.T) {
	for _, e := range []api.Errno{api.ErrFull, api.ErrIO} {
		for _, name := range []string{"a", "none"} {
			for _, s := range eachOperation(name) {
				f := fresh(t, 10)
				fine(t, f.Create("a"), f.Append("a", []byte("abc")), f.Fault(0, e))
				refused(t, s.name+" of "+name, s.do(f), e)
				named(t, f, "a")
				holds(t, f, "a", "abc")
				takes(t, f, 3)
				// It was not done: nothing is synced.
				fine(t, f.Crash(0, nil))
				named(t, f)
			}
		}
	}
}

func TestSyncThatIsStruckSyncsNothing(t *testing.T) {
	f := fresh(t, 10)
	fine(t, f.Create("a"), f.SyncDir(), f.Append("a", []byte("xy")), f.Fault(0, api.ErrIO))
	refused(t, "Sync with a fault", f.Sync("a"), api.ErrIO)
	fine(t, f.Fuse(0))
	refused(t, "Sync with a fuse", f.Sync("a"), api.ErrOff)
	fine(t, f.Crash(0, nil))
	holds(t, f, "a", "")
}

func TestNoneAheadOfFull(t *testing.T) {
	f := fresh(t, 0)
	refused(t, "Append to no file without room", f.Append("a", []byte("x")), api.ErrNone)
}
