package vfs_test

import (
	"fmt"
	"slices"
	"testing"

	"bootprint/api"
	"bootprint/vfs"
)

// P4.3, Size, Names

func TestSize(t *testing.T) {
	f := fresh(t, 100)
	for _, name := range []string{"a", "", "A", "none"} {
		if n := f.Size(name); n != -1 {
			t.Errorf("Size of %q, no file: %d", name, n)
		}
	}
	fine(t, f.Create("a"))
	for n := range 10 {
		if f.Size("a") != n {
			t.Errorf("Size: %d, want %d", f.Size("a"), n)
		}
		fine(t, f.Append("a", []byte("x")))
	}
	fine(t, f.Rename("a", "b"))
	if f.Size("a") != -1 || f.Size("b") != 10 {
		t.Errorf("Size behind Rename: %d, %d", f.Size("a"), f.Size("b"))
	}
}

func TestNamesRise(t *testing.T) {
	f := fresh(t, 0)
	put := []string{"b", "a.b", "a", "-", "ab", "0", "a-b", ".", "z", "9", "aa", "..", "a0", "10", "2"}
	for i, name := range put {
		fine(t, f.Create(name))
		want := slices.Clone(put[:i+1])
		slices.Sort(want)
		named(t, f, want...)
	}
	// Byte by byte: - comes ahead of ., that ahead of figures, these ahead of letters.
	named(t, f, "-", ".", "..", "0", "10", "2", "9", "a", "a-b", "a.b", "a0", "aa", "ab", "b", "z")
}

func TestNamesOfMany(t *testing.T) {
	f := fresh(t, 0)
	var want []string
	for i := range 1000 {
		name := fmt.Sprintf("f-%03d", i*7%1000)
		fine(t, f.Create(name))
		want = append(want, fmt.Sprintf("f-%03d", i))
	}
	for range 5 {
		named(t, f, want...)
	}
}

// P4.3, Used, and the room

func TestFilesWithoutNameTakeRoom(t *testing.T) {
	lose := map[string]func(f *vfs.Fs) api.Errno{
		"Remove": func(f *vfs.Fs) api.Errno { return f.Remove("a") },
		"Rename": func(f *vfs.Fs) api.Errno { return f.Rename("b", "a") },
	}
	for how, do := range lose {
		for _, synced := range []bool{false, true} {
			f := fresh(t, 10)
			fine(t, f.Create("a"), f.Append("a", []byte("123456")), f.Create("b"), f.Append("b", []byte("7")), f.Create("c"))
			if synced {
				fine(t, f.SyncDir())
			}
			fine(t, do(f))
			takes(t, f, 7)
			refused(t, how+": Append to what a lost file takes", f.Append("c", make([]byte, 4)), api.ErrFull)
			fine(t, f.Append("c", make([]byte, 3)))
			takes(t, f, 10)
			fine(t, f.SyncDir())
			takes(t, f, 4)
			refused(t, how+": Append of more than the room", f.Append("c", make([]byte, 7)), api.ErrFull)
			fine(t, f.Append("c", make([]byte, 6)))
			takes(t, f, 10)
		}
	}
}

func TestRoomOfSeveralLostFiles(t *testing.T) {
	f := fresh(t, 100)
	for i := range 5 {
		fine(t, f.Create("a"), f.Append("a", make([]byte, i+1)), f.Create("tmp"), f.Append("tmp", make([]byte, 10)), f.Rename("tmp", "a"), f.Remove("a"))
	}
	takes(t, f, 65)
	fine(t, f.Create("a"), f.Append("a", []byte("x")))
	takes(t, f, 66)
	fine(t, f.SyncDir())
	takes(t, f, 1)
	fine(t, f.Remove("a"), f.SyncDir(), f.SyncDir())
	takes(t, f, 0)
}

func TestRoomBehindRenames(t *testing.T) {
	f := fresh(t, 100)
	fine(t, f.Create("a"), f.Append("a", []byte("xyz")))
	for range 4 {
		fine(t, f.Rename("a", "b"), f.Rename("b", "a"), f.Rename("a", "a"))
		takes(t, f, 3) // one file, however many changes tell of it
	}
	fine(t, f.SyncDir())
	takes(t, f, 3)
}

func TestRoomBehindACrash(t *testing.T) {
	f := fresh(t, 10)
	fine(t, f.Create("a"), f.Append("a", []byte("1234")), f.Sync("a"), f.SyncDir(), f.Append("a", []byte("56")))
	fine(t, f.Create("b"), f.Append("b", []byte("78")), f.Remove("a"))
	takes(t, f, 8)
	fine(t, f.Crash(1, []int{1, 1}))
	named(t, f, "a", "b")
	takes(t, f, 6)
	fine(t, f.Remove("a"), f.Crash(0, nil))
	takes(t, f, 6)
	fine(t, f.Remove("a"), f.Crash(1, nil))
	named(t, f, "b")
	takes(t, f, 1)
	fine(t, f.Append("b", make([]byte, 9)))
	refused(t, "Append of more than the room", f.Append("b", []byte("x")), api.ErrFull)
}

func TestRoomIsNotThatOfARefusedAppend(t *testing.T) {
	f := fresh(t, 5)
	fine(t, f.Create("a"), f.Fault(0, api.ErrIO))
	refused(t, "Append with a fault", f.Append("a", []byte("12345")), api.ErrIO)
	refused(t, "Append of too much", f.Append("a", []byte("123456")), api.ErrFull)
	refused(t, "Append to no file", f.Append("b", []byte("12345")), api.ErrNone)
	takes(t, f, 0)
	fine(t, f.Append("a", []byte("12345")))
	takes(t, f, 5)
}

// P4.3, On, Ops

func TestOpsCountOperations(t *testing.T) {
	f := fresh(t, 10)
	count := 0
	counts := func(what string, more int) {
		t.Helper()
		if count += more; f.Ops() != count {
			t.Fatalf("Ops behind %s: %d, want %d", what, f.Ops(), count)
		}
	}
	fine(t, f.Create("a"))
	counts("Create", 1)
	refused(t, "Create", f.Create("a"), api.ErrThere)
	counts("Create of what is there", 1)
	fine(t, f.Append("a", nil), f.Sync("a"), f.SyncDir(), f.Rename("a", "a"), read(f, "a", 0, 0), f.Remove("a"))
	counts("one of each", 6)
	for _, s := range eachOperation("none")[1:] {
		s.do(f)
		counts(s.name+" of no file", 1)
	}
	for _, s := range eachWrongCall() {
		s.do(f)
		counts(s.name, 0)
	}
	f.Fuse(5)
	f.Fault(5, api.ErrIO)
	f.Fault(5, api.OK)
	f.Turn("a", 0, 1)
	f.Size("a")
	f.Names()
	f.Used()
	f.On()
	f.Crash(0, nil)
	counts("what is no operation", 0)
}

func TestOpsCountWhatIsStruck(t *testing.T) {
	for _, s := range eachOperation("a") {
		f := fresh(t, 10)
		fine(t, f.Fault(0, api.ErrFull))
		refused(t, s.name, s.do(f), api.ErrFull)
		if f.Ops() != 1 || !f.On() {
			t.Errorf("%s with a fault: Ops %d, On %t", s.name, f.Ops(), f.On())
		}
		fine(t, f.Fuse(0))
		refused(t, s.name, s.do(f), api.ErrOff)
		for range 3 {
			if f.Ops() != 2 || f.On() {
				t.Errorf("%s with a fuse: Ops %d, On %t", s.name, f.Ops(), f.On())
			}
			refused(t, s.name+" with the disk off", s.do(f), api.ErrOff)
		}
		fine(t, f.Crash(0, nil))
		if f.Ops() != 2 || !f.On() {
			t.Errorf("%s behind a crash: Ops %d, On %t", s.name, f.Ops(), f.On())
		}
		fine(t, f.SyncDir())
		if f.Ops() != 3 {
			t.Errorf("one more: Ops %d", f.Ops())
		}
	}
}

func TestWhatIsToldWithTheDiskOff(t *testing.T) {
	f := fresh(t, 10)
	fine(t, f.Create("a"), f.Append("a", []byte("xyz")), f.Fuse(0))
	refused(t, "SyncDir", f.SyncDir(), api.ErrOff)
	named(t, f, "a")
	takes(t, f, 3)
	if f.Size("a") != 3 || f.Size("b") != -1 || f.On() || f.Ops() != 3 {
		t.Errorf("Size %d, %d, On %t, Ops %d", f.Size("a"), f.Size("b"), f.On(), f.Ops())
	}
}
