package vfs_test

import (
	"strings"
	"testing"

	"bootprint/api"
	"bootprint/vfs"
)

// P4.1, New

func TestNewRefuses(t *testing.T) {
	for _, limit := range []int{-1, -2, least, api.MaxDisk + 1, 1 << 31, 1 << 32, greatest} {
		if f, e := vfs.New(limit); f != nil || e != api.ErrArg {
			t.Errorf("New(%d): %v, %d; want nil, ErrArg", limit, f, e)
		}
	}
}

func TestNewIsEmptyAndOn(t *testing.T) {
	for _, limit := range []int{0, 1, 100, api.MaxDisk - 1, api.MaxDisk} {
		f := fresh(t, limit)
		named(t, f)
		takes(t, f, 0)
		if !f.On() || f.Ops() != 0 || f.Size("a") != -1 {
			t.Errorf("New(%d): On %t, Ops %d, Size %d", limit, f.On(), f.Ops(), f.Size("a"))
		}
	}
}

func TestNewLimitIsTheRoom(t *testing.T) {
	for _, limit := range []int{0, 1, 2, 1000} {
		f := fresh(t, limit)
		fine(t, f.Create("a"), f.Append("a", nil))
		refused(t, "Append of one byte too many", f.Append("a", make([]byte, limit+1)), api.ErrFull)
		takes(t, f, 0)
		fine(t, f.Append("a", make([]byte, limit)))
		takes(t, f, limit)
		refused(t, "Append where there is no room", f.Append("a", []byte{1}), api.ErrFull)
	}
	f, much := fresh(t, api.MaxDisk), make([]byte, 1<<20)
	fine(t, f.Create("a"), f.Append("a", much), f.Append("a", much))
	takes(t, f, 1<<21)
}

func TestFileSystemsAreApart(t *testing.T) {
	f, g := fresh(t, 10), fresh(t, 10)
	fine(t, f.Create("a"), f.Append("a", []byte("of f")), f.Fuse(0), g.Create("a"))
	holds(t, g, "a", "")
	takes(t, g, 0)
	refused(t, "the fuse of the other", f.Sync("a"), api.ErrOff)
	if !g.On() || g.Ops() != 2 {
		t.Errorf("On %t, Ops %d", g.On(), g.Ops())
	}
}

// P4.1, Name

const inNames = "abcdefghijklmnopqrstuvwxyz0123456789-."

func TestNameOfEachByte(t *testing.T) {
	for c := range 256 {
		s := string([]byte{byte(c)})
		want := strings.Contains(inNames, s)
		for _, name := range []string{s, s + "a", "a" + s, "a" + s + "z", s + s, strings.Repeat("a", 63) + s} {
			if vfs.Name(name) != want {
				t.Errorf("Name of %q: %t", name, !want)
			}
		}
	}
}

func TestNameOfEachLength(t *testing.T) {
	for n := range 200 {
		want := n >= 1 && n <= 64
		for _, c := range []string{"a", "-", ".", "9"} {
			if vfs.Name(strings.Repeat(c, n)) != want {
				t.Errorf("Name of %d bytes %s: %t", n, c, !want)
			}
		}
	}
	if vfs.Name(strings.Repeat("a", 1<<20)) || !vfs.Name(inNames) {
		t.Error("Name of a very long one, or of all bytes that may be in one")
	}
}

func TestNameOfRunes(t *testing.T) {
	for _, s := range []string{"é", "aé", "日", "\xff", "a\xc3", "ａ", "ı", "K"} {
		if vfs.Name(s) {
			t.Errorf("Name of %q: true", s)
		}
	}
}

func TestOperationsTakeWhatNameTakes(t *testing.T) {
	for c := range 256 {
		for _, name := range []string{string([]byte{byte(c)}), "x" + string([]byte{byte(c)}), strings.Repeat("b", c)} {
			f := fresh(t, 10)
			want := api.OK
			if !vfs.Name(name) {
				want = api.ErrArg
			}
			refused(t, "Create of "+name, f.Create(name), want)
			refused(t, "Append to "+name, f.Append(name, nil), want)
			refused(t, "Sync of "+name, f.Sync(name), want)
			refused(t, "Read of "+name, read(f, name, 0, 1), want)
			refused(t, "Rename of "+name, f.Rename(name, "to"), want)
			fine(t, f.Create("from"))
			refused(t, "Rename to "+name, f.Rename("from", name), want)
			refused(t, "Remove of "+name, f.Remove(name), want)
		}
	}
}
