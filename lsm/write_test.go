package lsm_test

import (
	"fmt"
	"strings"
	"testing"

	"bootprint/api"
)

// P16.2, Write

func TestWriteCountsOn(t *testing.T) {
	e, f := begun(t, quiet())
	row := segment(1)
	for i, l := range [][]api.Write{
		{set("a", "x")},
		{set("a", "y"), gone("b"), set("c", "")},
		{gone("a")},
		{set("a", "1"), set("a", "2"), gone("a"), set("a", "3")},
		{{Kind: api.WriteDelete, Key: []byte("c"), Value: []byte{}}},
	} {
		row += framed(1, batchBytes(e.Seq()+1, l...))
		ops := f.Ops()
		writes(t, e, l...)
		took(t, fmt.Sprint("batch ", i), f, ops, 2)
		holds(t, f, segmentName(1), row)
	}
	if e.Seq() != 10 {
		t.Errorf("Seq %d", e.Seq())
	}
	gets(t, e, 10, "a", "3", "b", "-", "c", "-")
	memory(t, "ten entries", e, 10*33+len("xy")+len("123"), 0)
	// What was answered stays, whatever is not synced.
	fine(t, f.Crash(0, nil))
	gets(t, opened(t, "crashed", f, quiet()), 10, "a", "3", "b", "-", "c", "-")
}

func TestWritesThatAreRefused(t *testing.T) {
	e, f := begun(t, small())
	writes(t, e, set("a", "x"))
	key, value := strings.Repeat("k", 4096), strings.Repeat("v", 1<<16)
	many := make1025()
	heavy := func(n int) []api.Write {
		var l []api.Write
		for range n {
			l = append(l, set(key, value))
		}
		return l
	}
	for what, c := range map[string]struct {
		l    []api.Write
		want api.Errno
	}{
		"no list":                     {nil, api.ErrArg},
		"an empty list":               {[]api.Write{}, api.ErrArg},
		"no kind":                     {[]api.Write{{Key: []byte("a")}}, api.ErrArg},
		"a kind that is none":         {[]api.Write{set("a", "x"), {Kind: 3, Key: []byte("a")}}, api.ErrArg},
		"no key":                      {[]api.Write{set("", "x")}, api.ErrArg},
		"a delete with a value":       {[]api.Write{{Kind: api.WriteDelete, Key: []byte("a"), Value: []byte("x")}}, api.ErrArg},
		"a key of 4,097 bytes":        {[]api.Write{set(key+"k", "")}, api.ErrLong},
		"a value of 2^16 + 1 bytes":   {[]api.Write{set("a", value+"v")}, api.ErrLong},
		"1,025 writes":                {many, api.ErrLong},
		"more than 2^20 bytes":        {heavy(16), api.ErrLong},
		"too long, and no key":        {[]api.Write{set(key+"k", ""), set("", "")}, api.ErrArg},
		"too many, the last one none": {append(many[:1024:1024], api.Write{}), api.ErrArg},
	} {
		ops, disk := f.Ops(), likeness(f)
		if n, x := e.Write(c.l); n != 0 || x != c.want {
			t.Errorf("%s: %d, %d; want %d", what, n, x, c.want)
		}
		took(t, what, f, ops, 0)
		if e.ReadOnly() || e.Seq() != 1 || likeness(f) != disk {
			t.Errorf("%s: ReadOnly %t, Seq %d, %s", what, e.ReadOnly(), e.Seq(), likeness(f))
		}
		memory(t, what, e, 34, 0)
	}
	// At the bounds they are taken, and told again.
	writes(t, e, many[:1024]...)
	writes(t, e, heavy(15)...)
	writes(t, e, set(key, value))
	e = opened(t, "anew", f, small())
	gets(t, e, e.Seq(), "a", "x", "k", "", key, value)
	rest(t, e)
	gets(t, e, e.Seq(), "a", "x", "k", "", key, value)
}

func TestWriteAtTheLastNumber(t *testing.T) {
	e := opened(t, "near the end", withLog(t, api.MaxSeq-2, 1), small())
	if n, x := e.Write([]api.Write{set("a", "1"), set("b", "2"), set("c", "3")}); n != 0 || x != api.ErrLong {
		t.Errorf("three: %d, %d", n, x)
	}
	writes(t, e, set("a", "1"), set("b", "2"))
	for range 2 {
		if n, x := e.Write([]api.Write{set("c", "3")}); n != 0 || x != api.ErrLong || e.ReadOnly() {
			t.Errorf("behind the last one: %d, %d", n, x)
		}
	}
	if e.Seq() != api.MaxSeq {
		t.Errorf("Seq %d", e.Seq())
	}
	// It works as ever.
	works(t, e, api.WorkFreeze, api.WorkFlush, api.WorkNone)
	gets(t, e, api.MaxSeq, "a", "1", "b", "2", "c", "-")
	if n, x := e.Snapshot(); n != api.MaxSeq || x != api.OK {
		t.Errorf("Snapshot: %d, %d", n, x)
	}
	gets(t, e, api.MaxSeq, "a", "1")
}

// A table in memory is full at Buffer.
func TestWriteAtBuffer(t *testing.T) {
	for _, buffer := range []int{64, 65, 100, 1000} {
		for less := -2; less <= 2; less++ {
			s := small()
			s.Buffer = buffer
			e, f := begun(t, s)
			size := buffer - less // of one entry
			writes(t, e, set("k", strings.Repeat("v", size-33)))
			memory(t, "one entry", e, size, 0)
			what := fmt.Sprintf("%d of %d bytes", size, buffer)
			for range 2 {
				if full := less <= 0; e.Idle() == full {
					t.Errorf("%s: Idle %t", what, e.Idle())
				}
				// Opened anew it has the same in memory.
				e = opened(t, what, f, s)
				memory(t, what+", opened anew", e, size, 0)
			}
			if less <= 0 {
				works(t, e, api.WorkFreeze)
				memory(t, what+", frozen", e, 0, size)
				continue
			}
			works(t, e, api.WorkNone)
			writes(t, e, gone("l"))
			works(t, e, api.WorkFreeze)
			memory(t, what+", frozen", e, 0, size+33)
		}
	}
}

// Each write that fails, by any error of the disk, is the last one.
func TestWriteOnADiskThatFails(t *testing.T) {
	for _, want := range []api.Errno{api.ErrIO, api.ErrFull, api.ErrOff} {
		for n := range 2 {
			e, f := begun(t, small())
			writes(t, e, set("a", "x"))
			if want == api.ErrOff {
				fine(t, f.Fuse(n))
			} else {
				fine(t, f.Fault(n, want))
			}
			if seq, x := e.Write([]api.Write{set("a", "y")}); seq != 0 || x != want {
				t.Errorf("Write: %d, %d; want %d", seq, x, want)
			}
			stopped(t, "behind it", e, f)
			gets(t, e, 1, "a", "x")
			memory(t, "behind it", e, 34, 0)
			// At the number that was not written nobody looks.
			if v, x := e.Get([]byte("a"), 2); v != nil || x != api.ErrArg {
				t.Errorf("Get: %q, %d", v, x)
			}
			if l := e.Snapshots(); len(l) != 0 {
				t.Errorf("Snapshots: %v", l)
			}
			if seq, x := e.Snapshot(); seq != 1 || x != api.OK {
				t.Errorf("Snapshot: %d, %d", seq, x)
			}
			fine(t, e.Release(1))
		}
	}
}

// A disk without room.
func TestWriteOnAFullDisk(t *testing.T) {
	const room = 1 << 12
	f := roomOf(t, room)
	e := opened(t, "a new one", f, small())
	writes(t, e, set("a", "x"))
	row := framed(1, batchBytes(2, set("b", "y")))
	put(t, f, "filler", strings.Repeat("f", room-f.Used()-len(row)))
	writes(t, e, set("b", "y"))
	if seq, x := e.Write([]api.Write{set("c", "z")}); seq != 0 || x != api.ErrFull {
		t.Errorf("Write: %d, %d", seq, x)
	}
	stopped(t, "full", e, f)
	gets(t, e, 2, "a", "x", "b", "y", "c", "-")
	fine(t, f.Remove("filler"), f.SyncDir())
	stopped(t, "room again", e, f)
	e = opened(t, "anew", f, small())
	gets(t, e, 2, "a", "x", "b", "y", "c", "-")
	writes(t, e, set("c", "z"))
}
