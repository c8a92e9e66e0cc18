package vfs_test

import (
	"bytes"
	"fmt"
	"slices"
	"testing"

	"bootprint/api"
	"bootprint/vfs"
)

// Rule 4

func TestAppendKeepsNothingOfWhatItWasHanded(t *testing.T) {
	f := fresh(t, 100)
	fine(t, f.Create("a"), f.Create("b"))
	whole := []byte("bytes and spare room")
	before := bytes.Clone(whole)
	fine(t, f.Append("a", whole[:5]), f.Append("a", whole[:5]), f.Append("b", whole[:5]))
	holds(t, f, "a", "bytesbytes")
	takes(t, f, 15)
	fine(t, f.Append("b", []byte("more")), f.Turn("a", 0, 0xff), f.Turn("a", 0, 0xff))
	if !bytes.Equal(whole, before) {
		t.Errorf("what was handed in is %q", whole)
	}
	clear(whole)
	holds(t, f, "a", "bytesbytes")
	holds(t, f, "b", "bytesmore")
}

func TestReadAnswersNewMemory(t *testing.T) {
	f := fresh(t, 100)
	fine(t, f.Create("a"), f.Append("a", []byte("some bytes")), f.Append("a", []byte(" and more")))
	for _, n := range []int{0, 4, 10, 19, 30} {
		b, _ := f.Read("a", 0, n)
		again, _ := f.Read("a", 0, n)
		kept := string(again)
		room := b[:cap(b)]
		for i := range room {
			room[i] ^= 0x55
		}
		if string(again) != kept {
			t.Errorf("Read of %d: two answers share memory", n)
		}
		holds(t, f, "a", "some bytes and more")
		// The answer stays as it is, whatever becomes of the file.
		fine(t, f.Turn("a", 0, 0xff))
		if string(again) != kept {
			t.Errorf("Read of %d: the answer follows the file", n)
		}
		fine(t, f.Turn("a", 0, 0xff))
	}
	b, _ := f.Read("a", 0, 4)
	fine(t, f.Crash(1, nil), f.Append("a", []byte("other")))
	if string(b) != "some" {
		t.Errorf("the answer is %q", b)
	}
	_ = append(b, "into spare room"...)
	holds(t, f, "a", "other")
}

func TestNamesAnswersNewMemory(t *testing.T) {
	f := fresh(t, 100)
	fine(t, f.Create("a"), f.Create("b"), f.Create("c"))
	l, again := f.Names(), f.Names()
	room := l[:cap(l)]
	for i := range room {
		room[i] = "x"
	}
	if !slices.Equal(again, []string{"a", "b", "c"}) {
		t.Errorf("two answers share memory: %q", again)
	}
	named(t, f, "a", "b", "c")
	fine(t, f.Remove("a"), f.Create("d"))
	if !slices.Equal(again, []string{"a", "b", "c"}) {
		t.Errorf("the answer follows the directory: %q", again)
	}
}

func TestCrashLeavesKeep(t *testing.T) {
	f := fresh(t, 100)
	fine(t, f.Create("a"), f.Create("b"), f.Append("a", []byte("aaa")), f.Append("b", []byte("bbb")))
	keep := []int{7, 2, 3, 4}
	fine(t, f.Crash(2, keep[:1]))
	if !slices.Equal(keep, []int{7, 2, 3, 4}) {
		t.Errorf("keep is %d", keep)
	}
	holds(t, f, "a", "aaa")
	holds(t, f, "b", "") // the spare room is not looked at
	fine(t, f.Append("b", []byte("bbb")))
	keep[0] = 1
	holds(t, f, "a", "aaa")
	fine(t, f.Crash(0, nil))
	holds(t, f, "b", "")
}

// Rule 5

func TestNoFileSystem(t *testing.T) {
	unmade := vfs.Fs{}
	for _, f := range []*vfs.Fs{nil, {}, new(vfs.Fs), &unmade} {
		for _, s := range eachOperation("a") {
			refused(t, s.name, s.do(f), api.ErrNil)
		}
		if b, e := f.Read("a", 0, 1); len(b) != 0 || e != api.ErrNil {
			t.Errorf("Read: %q, %d", b, e)
		}
		for _, n := range []int{-1, 0, 1} {
			refused(t, "Fuse", f.Fuse(n), api.ErrNil)
			refused(t, "Fault", f.Fault(n, api.ErrIO), api.ErrNil)
			refused(t, "Fault with another error", f.Fault(n, api.OK), api.ErrNil)
			refused(t, "Crash", f.Crash(n, []int{1}), api.ErrNil)
			refused(t, "Turn", f.Turn("a", n, 1), api.ErrNil)
		}
		for _, name := range []string{"a", "", "A"} {
			if n := f.Size(name); n != 0 {
				t.Errorf("Size of %q: %d, want 0", name, n)
			}
		}
		if l := f.Names(); len(l) != 0 || f.Used() != 0 || f.On() || f.Ops() != 0 {
			t.Errorf("Names %q, Used %d, On %t, Ops %d", l, f.Used(), f.On(), f.Ops())
		}
	}
	// A crash does not make one of it.
	unmade.Crash(0, nil)
	refused(t, "Create behind a crash", unmade.Create("a"), api.ErrNil)
}

// The chapter's examples

func TestExamplesOfTheChapter(t *testing.T) {
	f := fresh(t, 100)
	fine(t, f.Create("a"), f.Append("a", []byte("xy")), f.Crash(0, nil))
	named(t, f)

	begin := func() *vfs.Fs {
		f := fresh(t, 100)
		fine(t, f.Create("a"), f.SyncDir(), f.Append("a", []byte("xy")), f.Sync("a"), f.Append("a", []byte("z")))
		return f
	}
	f = begin()
	fine(t, f.Crash(0, []int{1}))
	holds(t, f, "a", "xyz")

	f = begin()
	fine(t, f.Crash(0, nil))
	holds(t, f, "a", "xy")
	fine(t, f.Rename("a", "b"), f.Crash(1, nil))
	named(t, f, "b")

	fine(t, f.Fuse(1), f.Sync("b"))
	refused(t, "Sync b", f.Sync("b"), api.ErrOff)
	if f.On() {
		t.Error("the disk is on")
	}

	fine(t, f.Crash(0, nil), f.Fault(0, api.ErrIO))
	if b, e := f.Read("b", 0, 9); len(b) != 0 || e != api.ErrIO {
		t.Errorf("Read b: %q, %d", b, e)
	}
	holds(t, f, "b", "xy")
}

func ExampleFs_Crash() {
	f, _ := vfs.New(1 << 20)
	f.Create("a")
	f.SyncDir()
	f.Append("a", []byte("xy"))
	f.Sync("a")
	f.Append("a", []byte("z"))
	f.Crash(0, nil)
	b, e := f.Read("a", 0, 9)
	fmt.Println(string(b), e)
	// Output: xy 0
}
