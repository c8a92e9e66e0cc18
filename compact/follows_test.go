package compact_test

import (
	"bytes"
	"fmt"
	"slices"
	"testing"

	"bootprint/api"
	"bootprint/batch"
	"bootprint/merge"
	"bootprint/skip"
)

// P15.3

// Whoever looks sees the same in what is left as ahead of it.
func TestWhoLooksSeesTheSame(t *testing.T) {
	s := source(31)
	less, otherwise := 0, 0
	for range 3000 {
		l, looks := s.row(14), s.looks()
		for _, bottom := range []bool{false, true} {
			stay := left(t, l, looks, bottom)
			for _, look := range append(slices.Clone(looks), api.MaxSeq) {
				if got, want := seenAt(t, stay, look), seenAt(t, l, look); got != want {
					t.Fatalf("%d sees %s of %s, left of %s at %d, %t: want %s", look, got, told(stay...), told(l...), looks, bottom, want)
				}
			}
			if len(stay) < len(l) {
				less++
			}
			for look := range uint64(8) {
				if !slices.Contains(looks, look) && seenAt(t, stay, look) != seenAt(t, l, look) {
					otherwise++
				}
			}
		}
	}
	if less < 3000 || otherwise < 3000 {
		t.Errorf("%d rows came to less, %d times who does not look would see otherwise", less, otherwise)
	}
}

// The same of Run's files, taken together.
func TestWhoLooksSeesTheSameInFiles(t *testing.T) {
	s := source(32)
	several := 0
	for i := range 2000 {
		rows, looks, target := s.rows(1+i%4, 10), s.looks(), 1+s.below(200)
		for _, bottom := range []bool{false, true} {
			f := run(t, rows, looks, bottom, target)
			for _, look := range append(slices.Clone(looks), api.MaxSeq) {
				want, e := merge.Seen(rows, look)
				fine(t, "Seen", e)
				got, e := merge.Seen(f, look)
				fine(t, "Seen", e)
				if told(got...) != told(want...) {
					t.Fatalf("%d sees %s in the files %s of %s, want %s", look, told(got...), toldRows(f), toldRows(rows), told(want...))
				}
			}
			if len(f) > 1 {
				several++
			}
		}
	}
	if several < 2000 {
		t.Errorf("only %d times were there several files", several)
	}
}

// What is left is a part of the row, and all of it is seen; at the bottom no Key
// has a delete for its oldest entry.
func TestWhatIsLeft(t *testing.T) {
	s := source(33)
	for range 3000 {
		l, looks := s.row(14), s.looks()
		all, bottom := left(t, l, looks, false), left(t, l, looks, true)
		for _, stay := range rowsOf(all, bottom) {
			fine(t, "Check", merge.Check(stay))
			if slices.Contains(visible(t, stay, looks), false) {
				t.Fatalf("left of %s at %d: %s, not all of which is seen", told(l...), looks, told(stay...))
			}
		}
		rest := l
		for _, e := range all {
			i := slices.IndexFunc(rest, func(x api.Entry) bool { return told(x) == told(e) })
			if i < 0 {
				t.Fatalf("left of %s: %s", told(l...), told(all...))
			}
			rest = rest[i+1:]
		}
		for i, e := range bottom {
			if e.Kind == api.WriteDelete && (i == len(bottom)-1 || !sameKey(e, bottom[i+1])) {
				t.Fatalf("left of %s at the bottom: %s", told(l...), told(bottom...))
			}
		}
		// What the bottom takes are deletes, the oldest ones of their Keys.
		leaves(t, "what is left, at the bottom", all, looks, true, spots(bottom))
		for i := range all {
			j := slices.IndexFunc(bottom, func(x api.Entry) bool { return told(x) == told(all[i]) })
			gone := j < 0
			older := slices.ContainsFunc(bottom, func(x api.Entry) bool { return sameKey(x, all[i]) && x.Seq < all[i].Seq })
			if gone && (all[i].Kind != api.WriteDelete || older) {
				t.Fatalf("%s goes at the bottom, of %s", told(all[i]), told(all...))
			}
		}
	}
}

// Compacting again changes nothing.
func TestCompactingAgain(t *testing.T) {
	s := source(34)
	for i := range 3000 {
		l, looks := s.row(14), s.looks()
		for _, bottom := range []bool{false, true} {
			stay := left(t, l, looks, bottom)
			if again := left(t, stay, looks, bottom); told(again...) != told(stay...) {
				t.Fatalf("left of %s at %d, %t: %s, then %s", told(l...), looks, bottom, told(stay...), told(again...))
			}
			rows, target := s.rows(1+i%4, 10), 1+s.below(200)
			f := run(t, rows, looks, bottom, target)
			if again := run(t, f, looks, bottom, target); toldRows(again) != toldRows(f) {
				t.Fatalf("Run of %s: %s, then %s", toldRows(rows), toldRows(f), toldRows(again))
			}
		}
	}
}

// The files are the row, cut; no two have a Key in common; none is empty, and
// each but the last one has come to the target.
func TestFiles(t *testing.T) {
	s := source(35)
	for range 3000 {
		l, target := s.row(20), 1+s.below(250)
		f := files(t, l, target)
		if told(slices.Concat(f...)...) != told(l...) {
			t.Fatalf("Cut of %s by %d: %s", told(l...), target, toldRows(f))
		}
		for i, file := range f {
			size := plainSize(file)
			switch {
			case len(file) == 0:
				t.Fatalf("Cut of %s by %d: file %d is empty", told(l...), target, i)
			case i < len(f)-1 && size < target:
				t.Fatalf("Cut of %s by %d: file %d has %d", told(l...), target, i, size)
			case i < len(f)-1 && bytes.Equal(file[len(file)-1].Key, f[i+1][0].Key):
				t.Fatalf("Cut of %s by %d: a Key in common: %s", told(l...), target, toldRows(f))
			}
			// Without the last Key it was below the target: nothing goes on in vain.
			n := len(file) - 1
			for n > 0 && sameKey(file[n-1], file[n]) {
				n--
			}
			if n > 0 && plainSize(file[:n]) >= target {
				t.Fatalf("Cut of %s by %d: file %d goes on: %s", told(l...), target, i, toldRows(f))
			}
		}
	}
}

// An entry's size is what it counts in a table in memory.
func TestSizesAreThoseOfATable(t *testing.T) {
	s := source(36)
	for range 300 {
		var l []api.Entry
		for _, e := range s.row(12) {
			if batch.CheckEntry(e) == api.OK {
				l = append(l, e)
			}
		}
		table := skip.New()
		for i, e := range l {
			if i > 0 && !sameKey(l[i-1], e) {
				// At the size of what is ahead a file ends; above it, it does not.
				first := []api.Entry{l[i-1]}
				size := skip.New()
				fine(t, "Insert", size.Insert(l[i-1], 1))
				cuts(t, "at its size", append(first, e), size.Size(), spots(first)+" | "+spots(l[i:i+1]))
				cuts(t, "above it", append(first, e), size.Size()+1, spots(l[i-1:i+1]))
			}
			fine(t, "Insert", table.Insert(e, 1))
		}
		if table.Size() != plainSize(l) {
			t.Fatalf("the size of %s: %d", told(l...), table.Size())
		}
	}
}

// Run is Row of merge.All, cut.
func TestRunIsTheCallsTogether(t *testing.T) {
	s := source(37)
	for i := range 1000 {
		rows, looks, target := s.rows(i%6, 12), s.looks(), 1+s.below(200)
		l, e := merge.All(rows)
		fine(t, "All", e)
		for _, bottom := range []bool{false, true} {
			want := files(t, left(t, l, looks, bottom), target)
			if got := run(t, rows, looks, bottom, target); toldRows(got) != toldRows(want) {
				t.Fatalf("Run of %s: %s, want %s", toldRows(rows), toldRows(got), toldRows(want))
			}
		}
	}
}

// Many Keys, and many who look: whoever goes over all looks for each Key, or over
// a Key's entries for each look, does not come to an end here.
func TestManyKeysAndLooks(t *testing.T) {
	const many = 300000
	looks := make([]uint64, many)
	for i := range looks {
		looks[i] = uint64(2 * i)
	}
	keys := make([]api.Entry, 0, 2*many)
	for i := range many {
		key := fmt.Sprintf("%06d", i)
		keys = append(keys, put(key, 2*many+1, ""), put(key, uint64(2*i+1), ""))
	}
	// A key's older entry is seen by the first look above it, if there is one.
	seen := visible(t, keys, looks)
	for i := range many {
		if !seen[2*i] || seen[2*i+1] != (i < many-1) {
			t.Fatalf("Key %d: %t", i, seen[2*i:2*i+2])
		}
	}
	var one []api.Entry
	for i := range many {
		one = append(one, put("k", uint64(2*many-i), ""))
	}
	// Of one Key's entries every other one is looked at.
	stay := left(t, one, looks, true)
	if len(stay) != many/2 || stay[0].Seq != 2*many || stay[1].Seq != 2*many-2 || stay[many/2-1].Seq != many+2 {
		t.Fatalf("left: %d, %s", len(stay), shortly(spots(stay[:5])))
	}
	f := run(t, rowsOf(keys, one), looks, false, 1)
	if len(f) != many+1 || len(f[0]) != 2 || len(f[many-1]) != 1 || len(f[many]) != many/2 {
		t.Fatalf("files: %d", len(f))
	}
}

// The chapter's examples

func TestExamplesOfTheChapter(t *testing.T) {
	three := row(put("a", 3, ""), put("a", 2, ""), put("a", 1, ""))
	two := row(del("a", 3), put("a", 1, ""))
	leaves(t, "three", three, nil, false, "a3")
	leaves(t, "three", three, at(1), false, "a3 a1")
	leaves(t, "two", two, nil, true, "")
	leaves(t, "two", two, at(1), true, "a3D a1")
	cuts(t, "a, b, c", row(put("a", 1, ""), put("b", 1, ""), put("c", 1, "")), 60, "a1 b1 | c1")
}
