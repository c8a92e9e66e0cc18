package lsm_test

import (
	"bytes"
	"fmt"
	"slices"
	"testing"

	"bootprint/api"
	"bootprint/lsm"
	"bootprint/vfs"
)

// Rule 2 is held by the tests of each call: with an error all else is nothing.

// Rule 4

// scribble writes over all memory of entries, their spare room too.
func scribble(l []api.Entry) {
	for _, e := range l {
		spoil(e.Key, e.Value)
	}
	room := l[:cap(l)]
	for i := range room {
		room[i] = has("scribbled", 99, "over")
	}
}

// spoil writes over lists, their spare room too.
func spoil(lists ...[]byte) {
	for _, l := range lists {
		room := l[:cap(l)]
		for i := range room {
			room[i] = 0x55
		}
	}
}

// An engine with something in memory, frozen, and in files of two levels.
func everywhere(t *testing.T) *lsm.Engine {
	t.Helper()
	e, _ := begun(t, small())
	flushed(t, e, []api.Write{set("a", long("1")), set("b", "2")}, []api.Write{set("a", long("3")), set("c", "4")})
	works(t, e, api.WorkCompact)
	flushed(t, e, []api.Write{set("b", long("5")), set("d", "6")})
	writes(t, e, set("e", long("7")), set("c", "8"))
	works(t, e, api.WorkFreeze)
	writes(t, e, set("f", "9"), set("d", "10"))
	if open, frozen := e.Memory(); open == 0 || frozen == 0 || levels(e.Version()) != "4/3///" {
		t.Fatal(levels(e.Version()))
	}
	return e
}

func TestAnswersAreNewMemory(t *testing.T) {
	e := everywhere(t)
	want := sees(t, "ahead", e, 10)
	l, x := e.Scan(nil, nil, 10, 99)
	fine(t, x)
	again, x := e.Scan(nil, nil, 10, 99)
	fine(t, x)
	scribble(l)
	if got := told(again...); got != want {
		t.Errorf("two answers share memory: %s, want %s", got, want)
	}
	if got := sees(t, "scribbled", e, 10); got != want {
		t.Errorf("an answer is the engine's memory: %s, want %s", got, want)
	}
	for _, entry := range again {
		v, x := e.Get(entry.Key, 10)
		fine(t, x)
		w, x := e.Get(entry.Key, 10)
		fine(t, x)
		spoil(v)
		if string(w) != string(entry.Value) {
			t.Errorf("two values of %q share memory", entry.Key)
		}
		gets(t, e, 10, string(entry.Key), string(entry.Value))
	}
	version := toldVersion(e.Version())
	v := e.Version()
	for _, files := range v.Levels[:cap(v.Levels)] {
		room := files[:cap(files)]
		for i := range room {
			spoil(room[i].Least, room[i].Most)
			room[i] = api.File{Number: 77}
		}
	}
	clear(v.Levels)
	if got := toldVersion(e.Version()); got != version {
		t.Errorf("Version follows what was answered: %s, want %s", got, version)
	}
	if got := sees(t, "the version scribbled", e, 10); got != want {
		t.Errorf("what is looked at follows Version's answer: %s, want %s", got, want)
	}
	fine(t, snapshotOf(e), snapshotOf(e))
	seqs := e.Snapshots()
	seqs = seqs[:cap(seqs)]
	for i := range seqs {
		seqs[i] = 3
	}
	if l := e.Snapshots(); !slices.Equal(l, []uint64{10}) {
		t.Errorf("Snapshots follows what was answered: %v", l)
	}
	// It works on as ever.
	rest(t, e)
	if got := sees(t, "at rest", e, 10); got != want {
		t.Errorf("at rest: %s, want %s", got, want)
	}
}

func snapshotOf(e *lsm.Engine) api.Errno {
	_, x := e.Snapshot()
	return x
}

// No two lists of one answer share memory.
func TestListsOfOneAnswerStandApart(t *testing.T) {
	e := everywhere(t)
	l, x := e.Scan(nil, nil, 10, 99)
	fine(t, x)
	var lists [][]byte
	for _, entry := range l {
		lists = append(lists, entry.Key, entry.Value)
	}
	for i, l := range lists {
		room := l[:cap(l)]
		for j := range room {
			room[j] = byte(i)
		}
	}
	for i, l := range lists {
		if !bytes.Equal(l[:cap(l)], bytes.Repeat([]byte{byte(i)}, cap(l))) {
			t.Fatalf("list %d shares memory", i)
		}
	}
}

// What is handed in is not changed, nor kept, nor is its spare room touched.
func TestNothingHandedInIsKept(t *testing.T) {
	e, f := begun(t, quiet())
	room := []byte("abcdefghijklmnop")
	l := []api.Write{
		{Kind: api.WritePut, Key: room[0:2], Value: room[2:5]},
		{Kind: api.WriteDelete, Key: room[5:6], Value: room[6:6]},
		{Kind: api.WritePut, Key: room[0:1], Value: room[0:16]},
		{Kind: api.WritePut, Key: []byte("spare"), Value: []byte("room")},
	}
	before := fmt.Sprint(l, string(room))
	if n, x := e.Write(l[:3]); n != 3 || x != api.OK {
		t.Fatal(n, x)
	}
	if got := fmt.Sprint(l, string(room)); got != before {
		t.Errorf("what was handed in is %s, was %s", got, before)
	}
	spoil(room)
	clear(l)
	want := told(has("a", 3, "abcdefghijklmnop"), has("ab", 1, "cde"))
	if got := sees(t, "spoilt", e, 3); got != want {
		t.Errorf("the engine keeps what it was handed: %s, want %s", got, want)
	}
	// Keys and bounds of looks.
	bounds := []byte("aabb..")
	for range 3 {
		if v, x := e.Get(bounds[0:1], 3); x != api.OK || string(v) != "abcdefghijklmnop" {
			t.Errorf("Get: %q, %d", v, x)
		}
		got, x := e.Scan(bounds[1:2], bounds[2:3], 3, 9)
		if x != api.OK || told(got...) != want || string(bounds) != "aabb.." {
			t.Errorf("Scan: %s, %d; the bounds are %q", told(got...), x, bounds)
		}
		spoil(bounds)
		if told(got...) != want {
			t.Errorf("the answer follows the bounds: %s", told(got...))
		}
		copy(bounds, "aabb..")
		_, x = e.Work()
		fine(t, x)
	}
	if got := sees(t, "opened anew", opened(t, "anew", f, quiet()), 3); got != want {
		t.Errorf("opened anew: %s, want %s", got, want)
	}
}

// The file system is kept: what is done to it elsewhere is what the engine
// finds.
func TestAnEngineKeepsItsFileSystem(t *testing.T) {
	e, f := begun(t, small())
	other, g := begun(t, small())
	writes(t, e, set("a", "x"))
	writes(t, other, set("a", "y"))
	fine(t, f.Fuse(0))
	if n, x := e.Write([]api.Write{set("b", "x")}); n != 0 || x != api.ErrOff {
		t.Errorf("Write: %d, %d", n, x)
	}
	writes(t, other, set("b", "y"))
	gets(t, e, 1, "a", "x", "b", "-")
	gets(t, other, 2, "a", "y", "b", "y")
	if !g.On() || f.On() {
		t.Errorf("the disks: %t, %t", f.On(), g.On())
	}
}

// Rule 5

func TestNoEngine(t *testing.T) {
	e, f := begun(t, small())
	writes(t, e, set("a", long("x")))
	fine(t, snapshotOf(e))
	copied, unmade := *e, lsm.Engine{}
	ops := f.Ops()
	for what, e := range map[string]*lsm.Engine{"nil": nil, "new": new(lsm.Engine), "a literal": {}, "a variable": &unmade, "a copy": &copied} {
		for _, l := range [][]api.Write{nil, {set("a", "x")}, {{}}} {
			if n, x := e.Write(l); n != 0 || x != api.ErrNil {
				t.Errorf("%s: Write: %d, %d", what, n, x)
			}
		}
		for _, seq := range []uint64{0, 1, 2, greatest} {
			if v, x := e.Get([]byte("a"), seq); v != nil || x != api.ErrNil {
				t.Errorf("%s: Get: %q, %d", what, v, x)
			}
			if l, x := e.Scan(nil, nil, seq, 9); l != nil || x != api.ErrNil {
				t.Errorf("%s: Scan: %s, %d", what, told(l...), x)
			}
			refused(t, what+": Release", e.Release(seq), api.ErrNil)
		}
		if n, x := e.Snapshot(); n != 0 || x != api.ErrNil {
			t.Errorf("%s: Snapshot: %d, %d", what, n, x)
		}
		if n, x := e.Work(); n != 0 || x != api.ErrNil {
			t.Errorf("%s: Work: %d, %d", what, n, x)
		}
		v := e.Version()
		if !e.Idle() || e.Seq() != 0 || e.ReadOnly() || len(e.Snapshots()) != 0 || len(v.Levels) != 0 || v.Next != 0 || v.Seq != 0 || v.Log != 0 {
			t.Errorf("%s: Idle %t, Seq %d, ReadOnly %t, %v, %s", what, e.Idle(), e.Seq(), e.ReadOnly(), e.Snapshots(), toldVersion(v))
		}
		memory(t, what, e, 0, 0)
	}
	took(t, "no engine", f, ops, 0)
	// The engine itself is as it was.
	works(t, e, api.WorkFreeze, api.WorkFlush, api.WorkNone)
	gets(t, e, 1, "a", long("x"))
}

// The chapter's examples

func TestExamplesOfTheChapter(t *testing.T) {
	e, f := begun(t, small())
	if n, x := e.Write([]api.Write{set("a", "x")}); n != 1 || x != api.OK {
		t.Errorf("Write: %d, %d", n, x)
	}
	gets(t, e, 1, "a", "x", "b", "-")
	if e.Seq() != 1 {
		t.Errorf("Seq: %d", e.Seq())
	}
	if n, x := e.Write([]api.Write{set("b", "y")}); n != 2 || x != api.OK {
		t.Errorf("Write: %d, %d", n, x)
	}
	for _, want := range []int{api.WorkFreeze, api.WorkFlush, api.WorkNone} {
		if what, x := e.Work(); what != want || x != api.OK {
			t.Errorf("Work: %d, %d; want %d", what, x, want)
		}
	}
	if n, x := e.Write([]api.Write{gone("a")}); n != 3 || x != api.OK {
		t.Errorf("Write: %d, %d", n, x)
	}
	if n, x := e.Snapshot(); n != 3 || x != api.OK {
		t.Errorf("Snapshot: %d, %d", n, x)
	}
	gets(t, e, 3, "a", "-")
	scans(t, e, "", "", 3, 99, has("b", 2, "y"))
	fine(t, f.Crash(0, nil))
	e, x := lsm.Open(f, small())
	fine(t, x)
	gets(t, e, 3, "b", "y", "a", "-")
}

func ExampleOpen() {
	f, _ := vfs.New(1 << 20)
	e, _ := lsm.Open(f, api.Setup{
		Buffer: 64,
		Pick:   api.PickSetup{Trigger: 2, Base: 1000, Factor: 10},
		Table:  api.TableSetup{Block: 64, Bits: 10},
		Target: 1000,
	})
	seq, err := e.Write([]api.Write{
		{Kind: api.WritePut, Key: []byte("a"), Value: []byte("x")},
		{Kind: api.WritePut, Key: []byte("b"), Value: []byte("y")},
	})
	fmt.Println(seq, err)
	for !e.Idle() {
		fmt.Println(e.Work())
	}
	v, err := e.Get([]byte("b"), e.Seq())
	fmt.Println(string(v), err)
	fmt.Println(f.Names())
	// Output:
	// 2 0
	// 1 0
	// 2 0
	// y 0
	// [current manifest-000000000001 table-000000000001 wal-000000000002]
}
