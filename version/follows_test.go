package version_test

import (
	"fmt"
	"testing"

	"bootprint/api"
	"bootprint/version"
)

// P12.4

// returns fails unless v comes back: by Whole and Apply, and by the bytes too.
func returns(t *testing.T, what string, v api.Version) {
	t.Helper()
	e := whole(t, v)
	if w := applied(t, version.First(), e); told(w) != told(v) {
		t.Fatalf("%s: Apply of Whole: %s, want %s", what, shortly(told(w)), shortly(told(v)))
	}
	p := appended(t, "", e)
	if len(p) > 1<<20 {
		t.Fatalf("%s: %d bytes", what, len(p))
	}
	if w := applied(t, version.First(), parsed(t, p)); told(w) != told(v) {
		t.Fatalf("%s: Apply of Parse of Append of Whole: %s, want %s", what, shortly(told(w)), shortly(told(v)))
	}
}

func TestApplyOfWholeIsTheVersion(t *testing.T) {
	returns(t, "the first version", version.First())
	returns(t, "some", some())
	returns(t, "10,000 files", of(row(1, 2000), row(2001, 2000), row(4001, 2000), row(6001, 2000), row(8001, 2000)))
	for level := range 5 {
		returns(t, fmt.Sprint("MaxFrame bytes on level ", level), sized(t, level, 1<<20))
	}
	greatestOf := of(nil, files(api.File{Number: trillion - 1, Size: 1 << 24, Least: make([]byte, 4096), Most: make([]byte, 4096), Entries: 1 << 24, MostSeq: 1<<56 - 1}))
	greatestOf.Seq, greatestOf.Log = 1<<56-1, trillion-1
	returns(t, "the greatest numbers", greatestOf)
	s := source(6)
	for range 3000 {
		if v := s.version(); version.Check(v) == api.OK {
			returns(t, "a drawn one", v)
		}
	}
}

// What Apply tells may be, however long edits are applied; and a version is the
// same, whether the edits come as they are or as bytes.
func TestWhatApplyTellsMayBe(t *testing.T) {
	s := source(7)
	for range 100 {
		v := version.First()
		done := 0
		for range 60 {
			e := s.edit(v)
			w, err := version.Apply(v, e)
			if err != api.OK {
				noVersion(t, "Apply", w)
				continue
			}
			done++
			fine(t, "Check of what Apply tells", version.Check(w))
			if plainCheck(w) != api.OK {
				t.Fatalf("Apply tells what may not be: %s", told(w))
			}
			if p, err := version.Append(nil, e); err == api.OK {
				if again := applied(t, v, parsed(t, p)); told(again) != told(w) {
					t.Fatalf("by bytes: %s, want %s", told(again), told(w))
				}
			} else {
				t.Fatalf("Append of an edit that was applied: %d", err)
			}
			returns(t, "what Apply tells", w)
			v = w
		}
		if done < 10 {
			t.Errorf("only %d edits could be applied", done)
		}
	}
}

func TestParseOfAppendIsTheEdit(t *testing.T) {
	for what, e := range edits() {
		if got := parsed(t, appended(t, "", e)); toldEdit(got) != toldEdit(e) {
			t.Errorf("%s: %s, want %s", what, toldEdit(got), toldEdit(e))
		}
	}
	s := source(8)
	for range 5000 {
		e := s.drawn()
		p := appended(t, "", e)
		if got := parsed(t, p); toldEdit(got) != toldEdit(e) {
			t.Fatalf("%s, want %s", toldEdit(got), toldEdit(e))
		}
	}
}

// And nothing else is read: what Parse takes is just what Append puts.
func TestAppendOfParseIsTheBytes(t *testing.T) {
	s := source(9)
	for range 20000 {
		p := encode(parts(s.drawn())...)
		p[s.below(len(p))] ^= 1 << s.below(8)
		if e, err := version.Parse(p); err == api.OK {
			if q := appended(t, "", e); string(q) != string(p) {
				t.Fatalf("Append of Parse of %v: %v", p, q)
			}
		}
	}
}

// The chapter's examples

func TestExamplesOfTheChapter(t *testing.T) {
	one, e := version.Apply(version.First(), api.Edit{Next: 2, Adds: []api.Add{add(1, file(1, "a", "c"))}})
	if numbersOf(one) != "|1|||" || one.Next != 2 || e != api.OK {
		t.Errorf("add 1: %s, %d", told(one), e)
	}
	_, e = version.Apply(one, api.Edit{Next: 3, Adds: []api.Add{add(1, file(2, "c", "d"))}})
	refused(t, "add 2 (c to d)", e, api.ErrArg)
	two, e := version.Apply(one, api.Edit{Next: 3, Adds: []api.Add{add(1, file(2, "d", "e"))}})
	if numbersOf(two) != "|1 2|||" || e != api.OK {
		t.Errorf("add 2 (d to e): %s, %d", told(two), e)
	}
	_, e = version.Apply(two, api.Edit{Next: 3, Drops: []api.Drop{drop(1, 9)}})
	refused(t, "drop 9", e, api.ErrNone)
	_, e = version.Apply(two, api.Edit{Next: 3, Adds: []api.Add{add(1, file(1, "x", "y"))}})
	refused(t, "add 1 again", e, api.ErrThere)
	if l := version.Overlap(two, 1, []byte("b"), []byte("d")); numbers(l) != "1 2" {
		t.Errorf("Overlap: %s", numbers(l))
	}
}

func ExampleApply() {
	v, e := version.Apply(version.First(), api.Edit{Next: 3, Seq: 40, Log: 2, Adds: []api.Add{
		{Level: 1, File: api.File{Number: 2, Size: 100, Least: []byte("m"), Most: []byte("q"), Entries: 20, MostSeq: 40}},
		{Level: 1, File: api.File{Number: 1, Size: 100, Least: []byte("a"), Most: []byte("k"), Entries: 20, MostSeq: 30}},
	}})
	for _, f := range v.Levels[1] {
		fmt.Printf("%d: %s to %s\n", f.Number, f.Least, f.Most)
	}
	fmt.Println(version.Bytes(v, 1), version.Deepest(v, 0, []byte("r"), nil), e)
	// Output:
	// 1: a to k
	// 2: m to q
	// 200 true 0
}
