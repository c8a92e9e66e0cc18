package lsm_test

import (
	"slices"
	"testing"

	"bootprint/api"
	"bootprint/lsm"
)

// P16.4

// noted fails unless these numbers are noted.
func noted(t *testing.T, e *lsm.Engine, want ...uint64) {
	t.Helper()
	if l := e.Snapshots(); !slices.Equal(l, want) {
		t.Errorf("Snapshots: %v, want %v", l, want)
	}
}

// notes fails unless Snapshot answers that number.
func notes(t *testing.T, e *lsm.Engine, want uint64) {
	t.Helper()
	if seq, x := e.Snapshot(); seq != want || x != api.OK {
		t.Errorf("Snapshot: %d, %d; want %d", seq, x, want)
	}
}

func TestSnapshotsComeAndGo(t *testing.T) {
	e, f := begun(t, quiet())
	noted(t, e)
	refused(t, "Release of none", e.Release(0), api.ErrNone)
	notes(t, e, 0)
	noted(t, e, 0)
	writes(t, e, set("a", "1"), set("a", "2"))
	notes(t, e, 2)
	notes(t, e, 2)
	notes(t, e, 2)
	writes(t, e, set("a", "3"))
	notes(t, e, 3)
	noted(t, e, 0, 2, 3)
	for _, seq := range []uint64{1, 4, 5, api.MaxSeq, greatest} {
		refused(t, "Release of what is not noted", e.Release(seq), api.ErrNone)
	}
	noted(t, e, 0, 2, 3)
	// Noted thrice it is released thrice.
	gets(t, e, 2, "a", "2")
	fine(t, e.Release(2))
	gets(t, e, 2, "a", "2")
	fine(t, e.Release(2))
	noted(t, e, 0, 2, 3)
	gets(t, e, 2, "a", "2")
	fine(t, e.Release(2))
	noted(t, e, 0, 3)
	refused(t, "Release once more", e.Release(2), api.ErrNone)
	gets(t, e, 0, "a", "-")
	gets(t, e, 3, "a", "3")
	fine(t, e.Release(0), e.Release(3))
	noted(t, e)
	// It is looked at as the last number, noted or not.
	gets(t, e, 3, "a", "3")
	notes(t, e, 3)
	// None of them is on the disk.
	ops := f.Ops()
	notes(t, e, 3)
	fine(t, e.Release(3))
	took(t, "a snapshot", f, ops, 0)
	noted(t, opened(t, "anew", f, quiet()))
}

func TestThirtyTwoSnapshots(t *testing.T) {
	e, _ := begun(t, small())
	var all []uint64
	for range api.MaxSnaps {
		writes(t, e, set("a", "x"))
		notes(t, e, e.Seq())
		all = append(all, e.Seq())
	}
	// The last one may be noted as often as one likes.
	for range 40 {
		notes(t, e, 32)
	}
	writes(t, e, set("a", "y"))
	for range 2 {
		if seq, x := e.Snapshot(); seq != 0 || x != api.ErrBusy {
			t.Errorf("one more: %d, %d", seq, x)
		}
		noted(t, e, all...)
	}
	for _, seq := range all {
		gets(t, e, seq, "a", "x")
	}
	// There is room behind the last release of a number alone.
	fine(t, e.Release(32))
	if seq, x := e.Snapshot(); seq != 0 || x != api.ErrBusy {
		t.Errorf("noted still: %d, %d", seq, x)
	}
	fine(t, e.Release(7))
	notes(t, e, 33)
	notes(t, e, 33)
	noted(t, e, append(slices.Delete(slices.Clone(all), 6, 7), 33)...)
	writes(t, e, set("a", "z"))
	if seq, x := e.Snapshot(); seq != 0 || x != api.ErrBusy {
		t.Errorf("full again: %d, %d", seq, x)
	}
	rest(t, e)
	gets(t, e, 33, "a", "y")
	gets(t, e, 1, "a", "x")
}

// A snapshot keeps what it saw through all work, till it is released.
func TestSnapshotsThroughWork(t *testing.T) {
	s := small()
	s.Pick = api.PickSetup{Trigger: 1, Base: 1, Factor: 2}
	e, _ := begun(t, s)
	want := map[uint64]string{}
	for i := range 8 {
		key := string("ab"[i%2])
		writes(t, e, set(key, long(string(rune('0'+i)))), gone(string("ba"[i%2])), set("c", string(rune('0'+i))))
		notes(t, e, e.Seq())
		want[e.Seq()] = sees(t, "at once", e, e.Seq())
		rest(t, e)
		for seq, text := range want {
			if got := sees(t, "later", e, seq); got != text {
				t.Errorf("at %d: %s, want %s", seq, got, text)
			}
		}
	}
	if levels(e.Version()) == "" || len(e.Version().Levels[4]) == 0 {
		t.Errorf("nothing went down: %s", levels(e.Version()))
	}
	for seq := range want {
		fine(t, e.Release(seq))
		delete(want, seq)
		writes(t, e, set("d", long("x")))
		rest(t, e)
		for seq, text := range want {
			if got := sees(t, "later", e, seq); got != text {
				t.Errorf("at %d: %s, want %s", seq, got, text)
			}
		}
	}
	// Behind the last one no more is left than what is seen.
	flushed(t, e, []api.Write{set("a", long("x")), set("b", "x"), set("c", "x"), set("d", "x")})
	rest(t, e)
	entries := 0
	for _, l := range e.Version().Levels {
		for _, f := range l {
			entries += f.Entries
		}
	}
	if entries != 4 {
		t.Errorf("%d entries: %s", entries, toldVersion(e.Version()))
	}
}

// A read-only engine takes snapshots, and lets them go.
func TestSnapshotsOfAReadOnlyEngine(t *testing.T) {
	e, f := begun(t, small())
	writes(t, e, set("a", "x"))
	notes(t, e, 1)
	writes(t, e, set("a", "y"))
	fine(t, f.Fault(0, api.ErrIO))
	if _, x := e.Write([]api.Write{set("b", "z")}); x != api.ErrIO {
		t.Fatal(x)
	}
	notes(t, e, 2)
	noted(t, e, 1, 2)
	gets(t, e, 1, "a", "x")
	fine(t, e.Release(1))
	noted(t, e, 2)
	refused(t, "Release", e.Release(1), api.ErrNone)
}

// Memory, Version and Seq go along with what is done.
func TestWhatAnEngineTells(t *testing.T) {
	e, _ := begun(t, quiet())
	memory(t, "new", e, 0, 0)
	writes(t, e, set("a", "12"), gone("bc"))
	memory(t, "two entries", e, 35+34, 0)
	works(t, e, api.WorkFreeze)
	memory(t, "frozen", e, 0, 69)
	writes(t, e, set("a", ""))
	memory(t, "frozen, and one entry", e, 33, 69)
	if v := toldVersion(e.Version()); v != "Next 1, Seq 0, Log 0, 5 levels:" {
		t.Errorf("Version: %s", v)
	}
	works(t, e, api.WorkFlush)
	memory(t, "flushed", e, 33, 0)
	f := fileOf(t, quiet(), 1, has("a", 1, "12"), hasNot("bc", 2))
	want := toldVersion(api.Version{Levels: [][]api.File{{f}, nil, nil, nil, nil}, Next: 2, Seq: 2, Log: 2})
	if v := toldVersion(e.Version()); v != want || e.Seq() != 3 {
		t.Errorf("Version: %s, Seq %d; want %s, 3", v, e.Seq(), want)
	}
}
