package lsm_test

import (
	"bytes"
	"fmt"
	"slices"
	"strings"
	"testing"

	"bootprint/api"
	"bootprint/lsm"
)

// P16.3

// layered answers an engine with entries in memory, frozen, in files of level 0
// and of others; noted at the numbers that are answered.
func layered(t *testing.T) (e *lsm.Engine, seqs []uint64) {
	t.Helper()
	s := small()
	s.Pick = api.PickSetup{Trigger: 3, Base: 1, Factor: 100}
	e, _ = begun(t, s)
	note := func() {
		seq, x := e.Snapshot()
		fine(t, x)
		seqs = append(seqs, seq)
	}
	note()
	flushed(t, e, []api.Write{set("a", long("1")), set("b", "2"), set("c", "3"), set("d", "4"), set("e", "5")})
	note()
	flushed(t, e, []api.Write{gone("b"), set("x", long("7"))}, []api.Write{set("c", "8"), set("c", "9"), set("y", long("10"))})
	note()
	if n := rest(t, e); n != 3 {
		t.Fatalf("%d steps: %s", n, levels(e.Version()))
	}
	// All of it is on level 3 by now. Of what comes, some goes to level 1.
	flushed(t, e, []api.Write{set("d", long("11"))}, []api.Write{gone("e"), set("f", long("13"))})
	note()
	flushed(t, e, []api.Write{set("b", "14"), gone("d"), set("z", long("16"))})
	works(t, e, api.WorkCompact)
	flushed(t, e, []api.Write{set("d", "17"), gone("a"), set("g", long("19"))}, []api.Write{set("a", "20"), set("e", long("21"))})
	note()
	writes(t, e, set("e", "22"), gone("g"), set("h", long("24")))
	works(t, e, api.WorkFreeze)
	note()
	writes(t, e, gone("h"), set("b", "26"))
	return e, seqs
}

func TestLooksOverEverythingThereIs(t *testing.T) {
	e, seqs := layered(t)
	v := e.Version()
	open, frozen := e.Memory()
	if n := len(v.Levels[0]); n < 2 || len(v.Levels[1]) == 0 || len(v.Levels[3]) == 0 || open == 0 || frozen == 0 {
		t.Fatalf("%s, %d, %d", levels(v), open, frozen)
	}
	want := map[uint64][]string{
		0:  {},
		5:  {"a", long("1"), "b", "2", "c", "3", "d", "4", "e", "5"},
		10: {"a", long("1"), "c", "9", "d", "4", "e", "5", "x", long("7"), "y", long("10")},
		13: {"a", long("1"), "c", "9", "d", long("11"), "f", long("13"), "x", long("7"), "y", long("10")},
		21: {"a", "20", "b", "14", "c", "9", "d", "17", "e", long("21"), "f", long("13"), "g", long("19"), "x", long("7"), "y", long("10"), "z", long("16")},
		24: {"a", "20", "b", "14", "c", "9", "d", "17", "e", "22", "f", long("13"), "h", long("24"), "x", long("7"), "y", long("10"), "z", long("16")},
		26: {"a", "20", "b", "26", "c", "9", "d", "17", "e", "22", "f", long("13"), "x", long("7"), "y", long("10"), "z", long("16")},
	}
	if !slices.Equal(seqs, []uint64{0, 5, 10, 13, 21, 24}) || e.Seq() != 26 {
		t.Fatalf("noted %v, Seq %d", seqs, e.Seq())
	}
	for seq, pairs := range want {
		var keys []string
		for i := 0; i < len(pairs); i += 2 {
			gets(t, e, seq, pairs[i], pairs[i+1])
			keys = append(keys, pairs[i])
		}
		for c := byte(0); c < 255; c++ {
			for _, key := range []string{string([]byte{c}), string([]byte{c, 0}), string([]byte{c, c})} {
				if !slices.Contains(keys, key) {
					gets(t, e, seq, key, "-")
				}
			}
		}
		l, x := e.Scan(nil, nil, seq, 99)
		fine(t, x)
		var got []string
		for _, entry := range l {
			got = append(got, string(entry.Key), string(entry.Value))
			if entry.Seq > seq || entry.Seq < 1 || entry.Kind != api.WritePut {
				t.Errorf("Scan at %d: %s", seq, told(entry))
			}
		}
		if !slices.Equal(got, pairs) {
			t.Errorf("Scan at %d: %q, want %q", seq, got, pairs)
		}
	}
	// Whatever work is done.
	for !e.Idle() {
		_, x := e.Work()
		fine(t, x)
		for seq, pairs := range want {
			gets(t, e, seq, pairs...)
			if l, x := e.Scan(nil, nil, seq, 99); x != api.OK || len(l) != len(pairs)/2 {
				t.Errorf("Scan at %d: %s, %d", seq, told(l...), x)
			}
		}
	}
}

// Any part of what is seen.
func TestScanOfParts(t *testing.T) {
	e, seqs := layered(t)
	bounds := []string{"", "\x00", "a", "a\x00", "b", "bb", "c", "d", "e", "f", "g", "h", "m", "x", "y", "z", "zz", "\xff\xff"}
	for _, seq := range append(seqs, e.Seq()) {
		all, x := e.Scan(nil, nil, seq, 99)
		fine(t, x)
		for _, from := range bounds {
			for _, to := range bounds {
				var want []api.Entry
				for _, entry := range all {
					if string(entry.Key) >= from && (to == "" || string(entry.Key) < to) {
						want = append(want, entry)
					}
				}
				for _, n := range []int{greatestInt, 99, len(want) + 1, len(want), len(want) - 1, 2, 1, 0, -1, -greatestInt - 1} {
					scans(t, e, from, to, seq, n, want[:min(len(want), max(n, 0))]...)
				}
			}
		}
	}
	if l, x := e.Scan([]byte{}, []byte{}, e.Seq(), 1); x != api.OK || told(l...) != told(has("a", 20, "20")) {
		t.Errorf("Scan from no bytes to no bytes: %s, %d", told(l...), x)
	}
}

func TestLooksAtOtherNumbers(t *testing.T) {
	e, seqs := layered(t)
	for seq := range uint64(40) {
		may := slices.Contains(seqs, seq) || seq == e.Seq()
		want := api.ErrArg
		if may {
			want = api.OK
		}
		if l, x := e.Scan(nil, nil, seq, 99); x != want || !may && l != nil {
			t.Errorf("Scan at %d: %s, %d; want %d", seq, told(l...), x, want)
		}
		if may {
			continue
		}
		for _, key := range []string{"a", "b", "nowhere", ""} {
			if v, x := e.Get([]byte(key), seq); v != nil || x != api.ErrArg {
				t.Errorf("Get %q at %d: %q, %d", key, seq, v, x)
			}
		}
	}
	for _, seq := range []uint64{1 << 32, api.MaxSeq, api.MaxSeq + 1, 1 << 63, greatest} {
		if v, x := e.Get([]byte("a"), seq); v != nil || x != api.ErrArg {
			t.Errorf("Get at %d: %q, %d", seq, v, x)
		}
		if l, x := e.Scan(nil, nil, seq, 0); l != nil || x != api.ErrArg {
			t.Errorf("Scan at %d: %s, %d", seq, told(l...), x)
		}
	}
	// A snapshot that is no more is looked at no more; Seq goes on.
	fine(t, e.Release(13))
	if v, x := e.Get([]byte("a"), 13); v != nil || x != api.ErrArg {
		t.Errorf("Get at what was released: %q, %d", v, x)
	}
	writes(t, e, set("a", "27"))
	if v, x := e.Get([]byte("a"), 26); v != nil || x != api.ErrArg {
		t.Errorf("Get at what was Seq: %q, %d", v, x)
	}
	gets(t, e, 27, "a", "27")
}

// A key that may be no entry's is none.
func TestGetOfKeysThatMayNotBe(t *testing.T) {
	e, _ := layered(t)
	for _, key := range []string{"", strings.Repeat("k", 4096), strings.Repeat("a", 4097), strings.Repeat("\xff", 1<<20)} {
		gets(t, e, e.Seq(), key, "-")
	}
	if v, x := e.Get(nil, e.Seq()); v != nil || x != api.ErrNone {
		t.Errorf("Get of nil: %q, %d", v, x)
	}
}

// Values without bytes are there.
func TestGetOfAValueWithoutBytes(t *testing.T) {
	e, _ := begun(t, quiet())
	writes(t, e, set("a", ""), set("b", long("x")))
	for range 3 {
		if v, x := e.Get([]byte("a"), 2); len(v) != 0 || x != api.OK {
			t.Errorf("%q, %d", v, x)
		}
		_, x := e.Work()
		fine(t, x)
	}
}

// How many blocks are read: none in memory, none by a file whose keys are
// others, one by the first file that has the key.
func TestWhatAGetReads(t *testing.T) {
	e, f := begun(t, quiet())
	flushed(t, e,
		[]api.Write{set("b", long("1")), set("d", long("2")), set("f", "3")},
		[]api.Write{set("b", long("4")), set("c", "5")},
		[]api.Write{set("x", long("6"))},
	)
	writes(t, e, set("m", long("7")), set("f", "8"))
	works(t, e, api.WorkFreeze)
	writes(t, e, set("n", "9"))
	for _, c := range []struct {
		key   string
		reads int
	}{
		{"n", 0}, {"m", 0}, {"f", 0}, // in memory
		{"a", 0}, {"e\xff", 0}, {"g", 0}, {"w", 0}, {"y", 0}, {"\xff", 0}, // between no file's keys, or not in its filter
		{"x", 1}, {"b", 1}, {"c", 1}, {"d", 1},
	} {
		ops := f.Ops()
		e.Get([]byte(c.key), e.Seq())
		took(t, "Get "+c.key, f, ops, c.reads)
	}
	// Scan reads each file that reaches into the bounds, whole from there on.
	for _, c := range []struct {
		from, to string
		reads    int
	}{
		{"", "", 4}, {"", "b", 0}, {"", "b\x00", 3}, {"", "x", 3}, {"", "x\x00", 4}, {"c", "", 4}, {"c\x00", "d", 2}, {"e", "", 2},
		{"g", "", 1}, {"g", "x", 0}, {"x", "", 1}, {"x\x00", "", 0}, {"z", "a", 0}, {"d", "c", 2}, {"y", "c", 0},
	} {
		ops := f.Ops()
		_, x := e.Scan([]byte(c.from), []byte(c.to), e.Seq(), 99)
		fine(t, x)
		took(t, fmt.Sprintf("Scan %q to %q", c.from, c.to), f, ops, c.reads)
	}
}

// Errors of reading are told, and spoil nothing else.
func TestReadsOnADiskThatFails(t *testing.T) {
	for _, want := range []api.Errno{api.ErrIO, api.ErrFull, api.ErrOff, api.ErrBad} {
		e, f := begun(t, quiet())
		flushed(t, e, []api.Write{set("a", long("1")), set("c", "2")}, []api.Write{set("b", long("3"))}, []api.Write{set("b", long("4")), gone("c")})
		writes(t, e, set("m", "5"))
		strike := func() {
			switch want {
			case api.ErrOff:
				fine(t, f.Fuse(0))
			case api.ErrBad:
				fine(t, f.Turn(tableName(3), 9, 4))
			default:
				fine(t, f.Fault(0, want))
			}
		}
		mend := func() {
			switch want {
			case api.ErrOff:
				fine(t, f.Crash(0, nil))
			case api.ErrBad:
				fine(t, f.Turn(tableName(3), 9, 4))
			}
		}
		for range 2 {
			strike()
			gets(t, e, 6, "m", "5") // no file is asked
			for _, key := range []string{"b", "c"} {
				if v, x := e.Get([]byte(key), 6); v != nil || x != want {
					t.Errorf("Get %s: %q, %d; want %d", key, v, x, want)
				}
				mend()
				strike()
			}
			if l, x := e.Scan(nil, nil, 6, 9); l != nil || x != want {
				t.Errorf("Scan: %s, %d; want %d", told(l...), x, want)
			}
			mend()
			gets(t, e, 6, "a", long("1"), "b", long("4"), "c", "-", "m", "5")
			if e.ReadOnly() {
				t.Error("a read makes the engine read-only")
			}
		}
		writes(t, e, set("n", "6"))
	}
}

// Of several files that can't be read the first one's error is told: of level 0
// the newest, then that of the next level.
func TestScanTellsTheFirstError(t *testing.T) {
	e, f := begun(t, small())
	flushed(t, e, []api.Write{set("a", long("1"))}, []api.Write{set("b", long("2")), set("a", "3")})
	works(t, e, api.WorkCompact)
	flushed(t, e, []api.Write{set("a", long("4"))}, []api.Write{set("a", long("5"))})
	if levels(e.Version()) != "4 5/3///" {
		t.Fatal(levels(e.Version()))
	}
	order := []uint64{5, 4, 3}
	for i, missing := range order {
		for j, bad := range order {
			if i == j {
				continue
			}
			b := content(t, f, tableName(missing))
			fine(t, f.Turn(tableName(bad), 9, 1), f.Remove(tableName(missing)))
			want := api.ErrNone
			if j < i {
				want = api.ErrBad
			}
			if l, x := e.Scan(nil, nil, e.Seq(), 9); l != nil || x != want {
				t.Errorf("%d missing, %d bad: %s, %d; want %d", missing, bad, told(l...), x, want)
			}
			fine(t, f.Turn(tableName(bad), 9, 1))
			put(t, f, tableName(missing), b)
		}
	}
	scans(t, e, "", "", e.Seq(), 9, has("a", 5, long("5")), has("b", 2, long("2")))
}

// A file that somebody took away: to tell what older files have would be wrong.
func TestReadsOfAFileThatWent(t *testing.T) {
	e, f := begun(t, quiet())
	flushed(t, e, []api.Write{set("a", long("old")), set("b", "old")}, []api.Write{set("a", long("new")), set("c", "new")})
	fine(t, f.Remove(tableName(2)))
	if v, x := e.Get([]byte("a"), 4); v != nil || x != api.ErrBad {
		t.Errorf("Get a: %q, %d", v, x)
	}
	if v, x := e.Get([]byte("c"), 4); v != nil || x != api.ErrBad {
		t.Errorf("Get c: %q, %d", v, x)
	}
	gets(t, e, 4, "b", "old", "d", "-")
	if l, x := e.Scan(nil, nil, 4, 9); l != nil || x != api.ErrNone {
		t.Errorf("Scan: %s, %d", told(l...), x)
	}
}

// Of each level but the first the one file between whose keys the key is.
func TestGetOverFilesOfALevel(t *testing.T) {
	s := small()
	s.Target = 64
	e, f := begun(t, s)
	var l []api.Write
	for c := byte('b'); c < 'z'; c += 2 {
		l = append(l, set(string(c), long(string(c))))
	}
	flushed(t, e, l)
	rest(t, e)
	if levels := e.Version().Levels; len(levels[0]) > 1 || len(levels[1]) < 5 && len(levels[2]) < 5 {
		t.Fatal(toldVersion(e.Version()))
	}
	e = opened(t, "anew", f, s)
	for c := byte('a'); c <= 'z'; c++ {
		key, want := string(c), "-"
		if c%2 == 0 && c < 'z' {
			want = long(key)
		}
		gets(t, e, e.Seq(), key, want, key+"\x00", "-", strings.Repeat(key, 2), "-")
	}
	for _, from := range []string{"", "b", "b\x00", "c", "m", "x", "y"} {
		var want []api.Entry
		for i, w := range l {
			if bytes.Compare(w.Key, []byte(from)) >= 0 {
				want = append(want, has(string(w.Key), uint64(i+1), string(w.Value)))
			}
		}
		scans(t, e, from, "", e.Seq(), 99, want...)
	}
}
