package version_test

import (
	"fmt"
	"slices"
	"testing"

	"bootprint/api"
	"bootprint/version"
)

// P12.1, Apply: drops

func TestApplyDrops(t *testing.T) {
	for _, c := range []struct {
		drops []api.Drop
		want  string
	}{
		{nil, "5 7 8|3 6||1 4 2|"},
		{[]api.Drop{drop(0, 5)}, "7 8|3 6||1 4 2|"},
		{[]api.Drop{drop(0, 7)}, "5 8|3 6||1 4 2|"},
		{[]api.Drop{drop(0, 8)}, "5 7|3 6||1 4 2|"},
		{[]api.Drop{drop(3, 4)}, "5 7 8|3 6||1 2|"},
		{[]api.Drop{drop(1, 6), drop(1, 3)}, "5 7 8|||1 4 2|"},
		{[]api.Drop{drop(3, 2), drop(0, 5), drop(1, 3), drop(0, 8)}, "7|6||1 4|"},
		{[]api.Drop{drop(0, 5), drop(0, 7), drop(0, 8), drop(1, 3), drop(1, 6), drop(3, 1), drop(3, 4), drop(3, 2)}, "||||"},
	} {
		w := applied(t, some(), drops(9, c.drops...))
		if numbersOf(w) != c.want {
			t.Errorf("Apply of %v: %s, want %s", c.drops, numbersOf(w), c.want)
		}
		// What stays, stays as it was.
		for i, l := range some().Levels {
			for _, f := range l {
				stays := !slices.Contains(c.drops, drop(i, f.Number))
				is := slices.ContainsFunc(w.Levels[i], func(g api.File) bool { return toldFile(g) == toldFile(f) })
				if stays != is {
					t.Errorf("Apply of %v: %s", c.drops, told(w))
				}
			}
		}
	}
}

func TestApplyDropsThatNameNothing(t *testing.T) {
	for _, level := range []int{leastInt, -1, 5, 6, 256, greatestInt} {
		for _, number := range []uint64{0, 1, 5, 9} {
			cannot(t, fmt.Sprintf("drop %d at %d", number, level), some(), drops(9, drop(level, number)), api.ErrNone)
		}
	}
	levels := map[uint64]int{5: 0, 7: 0, 8: 0, 3: 1, 6: 1, 1: 3, 4: 3, 2: 3}
	for level := range 5 {
		for _, number := range []uint64{0, 1, 2, 3, 4, 5, 6, 7, 8, 9, 10, 1 << 32, greatest} {
			want := api.ErrNone
			if on, ok := levels[number]; ok && on == level {
				want = api.OK
			}
			_, e := version.Apply(some(), drops(9, drop(level, number)))
			refused(t, fmt.Sprintf("drop %d at %d", number, level), e, want)
			// Behind one, and ahead of one, that names a file.
			for _, l := range [][]api.Drop{{drop(0, 7), drop(level, number)}, {drop(level, number), drop(0, 7)}} {
				want := want
				if level == 0 && number == 7 {
					want = api.ErrNone // twice
				}
				_, e := version.Apply(some(), drops(9, l...))
				refused(t, fmt.Sprint("drops ", l), e, want)
			}
		}
	}
	cannot(t, "the same one twice", some(), drops(9, drop(1, 3), drop(1, 3)), api.ErrNone)
	cannot(t, "the same one twice, others between", some(), drops(9, drop(1, 3), drop(1, 6), drop(0, 5), drop(1, 3)), api.ErrNone)
	cannot(t, "the same one on another level too", some(), drops(9, drop(1, 3), drop(0, 3)), api.ErrNone)
	cannot(t, "of the first version", version.First(), drops(1, drop(0, 1)), api.ErrNone)
	cannot(t, "what the edit adds", some(), api.Edit{Drops: []api.Drop{drop(2, 9)}, Adds: []api.Add{add(2, file(9, "a", "b"))}, Next: 10}, api.ErrNone)
}

// P12.1, Apply: adds

func TestApplyAddsToTheirPlaces(t *testing.T) {
	for _, c := range []struct {
		what string
		e    api.Edit
		want string
	}{
		{"level 0, behind", adds(10, add(0, file(9, "a", "b"))), "5 7 8 9|3 6||1 4 2|"},
		{"level 0, ahead and between", adds(20, add(0, file(11, "a", "b")), add(0, file(9, "y", "z")), add(0, file(10, "a", "b"))), "5 7 8 9 10 11|3 6||1 4 2|"},
		{"level 1, behind", adds(10, add(1, file(9, "g", "h"))), "5 7 8|3 6 9||1 4 2|"},
		{"level 1, between", adds(10, add(1, file(9, "c\x00", "c\xff"))), "5 7 8|3 9 6||1 4 2|"},
		{"level 1, ahead", adds(10, add(1, file(9, "A", "Z"))), "5 7 8|9 3 6||1 4 2|"},
		{"level 1, all of them", adds(12, add(1, file(9, "g", "h")), add(1, file(10, "A", "Z")), add(1, file(11, "c\x00", "c\xff"))), "5 7 8|10 3 11 6 9||1 4 2|"},
		{"level 2, the first ones", adds(12, add(2, file(11, "x", "y")), add(2, file(9, "a", "b")), add(2, file(10, "c", "d"))), "5 7 8|3 6|9 10 11|1 4 2|"},
		{"level 3, between the last ones", adds(10, add(3, file(9, "pa", "pz"))), "5 7 8|3 6||1 4 9 2|"},
		{"level 4", adds(10, add(4, file(9, "a", "z"))), "5 7 8|3 6||1 4 2|9"},
		{"several levels", adds(14, add(4, file(9, "b", "c")), add(0, file(13, "a", "b")), add(2, file(10, "a", "b")), add(4, file(11, "a", "a")), add(0, file(12, "a", "b"))), "5 7 8 12 13|3 6|10|1 4 2|11 9"},
		{"nothing", adds(9), "5 7 8|3 6||1 4 2|"},
	} {
		w := applied(t, some(), c.e)
		if numbersOf(w) != c.want {
			t.Errorf("%s: %s, want %s", c.what, numbersOf(w), c.want)
		}
		for _, a := range c.e.Adds {
			if !slices.ContainsFunc(w.Levels[a.Level], func(f api.File) bool { return toldFile(f) == toldFile(a.File) }) {
				t.Errorf("%s: no %s in %s", c.what, toldFile(a.File), told(w))
			}
		}
	}
	// A lesser Number goes ahead on level 0.
	v := at(0, file(3, "a", "b"), file(6, "a", "b"))
	w := applied(t, v, adds(9, add(0, file(8, "a", "b")), add(0, file(4, "a", "b")), add(0, file(1, "a", "b"))))
	if numbersOf(w) != "1 3 4 6 8||||" {
		t.Errorf("level 0: %s", numbersOf(w))
	}
}

func TestApplyAddsInWhateverOrder(t *testing.T) {
	l := []api.Add{
		add(0, file(9, "x", "z")), add(0, file(10, "a", "b")), add(1, file(11, "A", "B")), add(1, file(12, "g", "h")),
		add(1, file(13, "cc", "cd")), add(2, file(14, "b", "b")), add(2, file(15, "a", "a")),
	}
	want := "5 7 8 9 10|11 3 13 6 12|15 14|1 4 2|"
	s := source(5)
	for range 500 {
		for i := len(l) - 1; i > 0; i-- {
			j := s.below(i + 1)
			l[i], l[j] = l[j], l[i]
		}
		if w := applied(t, some(), adds(20, l...)); numbersOf(w) != want {
			t.Fatalf("adds of %s: %s, want %s", toldEdit(adds(20, l...)), numbersOf(w), want)
		}
	}
}

func TestApplyAddsWhoseNumberIsThere(t *testing.T) {
	for level := -1; level <= 5; level++ {
		for number := uint64(1); number <= 8; number++ {
			// Whatever else is wrong with them, or with what would come.
			for _, f := range []api.File{file(number, "r", "s"), file(number, "a", "z"), file(number, "z", "a"), {Number: number}} {
				cannot(t, fmt.Sprintf("add %d at %d", number, level), some(), adds(9, add(level, f)), api.ErrThere)
				cannot(t, fmt.Sprintf("add %d at %d, Next 0", number, level), some(), adds(0, add(level, f)), api.ErrThere)
			}
		}
	}
	twice := map[string][]api.Add{
		"side by side":        {add(2, file(9, "a", "b")), add(2, file(9, "c", "d"))},
		"with one between":    {add(2, file(9, "a", "b")), add(2, file(10, "e", "f")), add(2, file(9, "c", "d"))},
		"on two levels":       {add(2, file(9, "a", "b")), add(4, file(9, "a", "b"))},
		"on a level, on none": {add(2, file(9, "a", "b")), add(5, file(9, "a", "b"))},
		"on no level":         {add(-1, file(9, "a", "b")), add(-1, file(9, "a", "b"))},
		"0, which may not be": {add(2, file(0, "a", "b")), add(2, file(0, "a", "b"))},
		"above Next":          {add(2, file(99, "a", "b")), add(2, file(99, "c", "d"))},
		"one, another there":  {add(2, file(9, "a", "b")), add(2, file(5, "c", "d"))},
	}
	for what, l := range twice {
		cannot(t, "adds that stand twice "+what, some(), adds(20, l...), api.ErrThere)
	}
}

func TestApplyDropsAheadOfAdds(t *testing.T) {
	both := func(d []api.Drop, a ...api.Add) api.Edit {
		return api.Edit{Drops: d, Adds: a, Next: 9, Seq: 9, Log: 3}
	}
	for _, c := range []struct {
		what string
		e    api.Edit
		want string
	}{
		{"the same again", both([]api.Drop{drop(1, 3)}, add(1, file(3, "a", "c"))), "5 7 8|3 6||1 4 2|"},
		{"with other Keys", both([]api.Drop{drop(1, 3)}, add(1, file(3, "g", "h"))), "5 7 8|6 3||1 4 2|"},
		{"to another level", both([]api.Drop{drop(1, 3), drop(1, 6)}, add(2, file(3, "a", "c")), add(2, file(6, "d", "f"))), "5 7 8||3 6|1 4 2|"},
		{"to level 0", both([]api.Drop{drop(3, 4)}, add(0, file(4, "n", "p"))), "4 5 7 8|3 6||1 2|"},
		{"all to the last one", both([]api.Drop{drop(3, 1), drop(3, 2), drop(3, 4)}, add(4, file(2, "q", "q")), add(4, file(1, "c", "m")), add(4, file(4, "n", "p"))), "5 7 8|3 6|||1 4 2"},
	} {
		if w := applied(t, some(), c.e); numbersOf(w) != c.want {
			t.Errorf("%s: %s, want %s", c.what, numbersOf(w), c.want)
		}
	}
	cannot(t, "dropped once, added twice", some(), both([]api.Drop{drop(1, 3)}, add(1, file(3, "a", "a")), add(1, file(3, "b", "b"))), api.ErrThere)
	// Files that a drop makes room for.
	w := applied(t, some(), api.Edit{Drops: []api.Drop{drop(1, 6)}, Adds: []api.Add{add(1, file(9, "d", "e")), add(1, file(10, "ea", "f"))}, Next: 11})
	if numbersOf(w) != "5 7 8|3 9 10||1 4 2|" {
		t.Errorf("in place of a dropped one: %s", numbersOf(w))
	}
}

func TestApplyOfAddsOnNoLevel(t *testing.T) {
	for _, level := range []int{leastInt, -5, -1, 5, 6, 256, 1 << 32, greatestInt} {
		cannot(t, fmt.Sprint("level ", level), some(), adds(10, add(level, file(9, "a", "b"))), api.ErrArg)
		cannot(t, fmt.Sprint("level ", level, " behind another"), some(), adds(11, add(2, file(10, "a", "b")), add(level, file(9, "a", "b"))), api.ErrArg)
		cannot(t, fmt.Sprint("level ", level, " in the first version"), version.First(), adds(10, add(level, file(9, "a", "b"))), api.ErrArg)
	}
	for level := range 5 {
		applied(t, version.First(), adds(10, add(level, file(9, "a", "b"))))
	}
}

// P12.1, Apply: the numbers, and what would come

func TestApplyTakesTheEditsNumbers(t *testing.T) {
	for _, e := range []api.Edit{
		{Next: 9, Seq: 9, Log: 3},
		{Next: 10, Seq: 0, Log: 0},
		{Next: trillion, Seq: 1<<56 - 1, Log: trillion - 1},
	} {
		w := applied(t, some(), e)
		if numbersOf(w) != numbersOf(some()) || w.Next != e.Next || w.Seq != e.Seq || w.Log != e.Log {
			t.Errorf("Apply of %s: %s", toldEdit(e), told(w))
		}
	}
	w := applied(t, of(), api.Edit{Next: 1})
	if told(w) != told(version.First()) {
		t.Errorf("Apply of an edit of nothing: %s", told(w))
	}
	cannot(t, "the zero edit", some(), api.Edit{}, api.ErrArg)
	cannot(t, "the zero edit, of the first version", version.First(), api.Edit{}, api.ErrArg)
}

func TestApplyOfWhatMayNotCome(t *testing.T) {
	changed := func(change func(f *api.File)) api.Edit {
		f := file(9, "g", "h")
		change(&f)
		return adds(10, add(1, f))
	}
	for what, e := range map[string]api.Edit{
		"Next 0":                 {Next: 0},
		"Next at a Number":       {Next: 8},
		"Next above the bound":   {Next: trillion + 1},
		"Seq above the bound":    {Next: 9, Seq: 1 << 56},
		"Log above the bound":    {Next: 9, Log: trillion},
		"an add at Next":         adds(9, add(1, file(9, "g", "h"))),
		"an add above Next":      adds(10, add(1, file(11, "g", "h"))),
		"a Number of 0":          adds(10, add(1, file(0, "g", "h"))),
		"a Number of 0, at 0":    adds(10, add(0, file(0, "g", "h"))),
		"touching the one ahead": adds(10, add(1, file(9, "f", "h"))),
		"touching the next one":  adds(10, add(1, file(9, "A", "a"))),
		"overlapping":            adds(10, add(1, file(9, "b", "b"))),
		"over all":               adds(10, add(1, file(9, "A", "z"))),
		"the same Keys":          adds(10, add(1, file(9, "a", "c"))),
		"adds that touch":        adds(11, add(2, file(9, "a", "c")), add(2, file(10, "c", "d"))),
		"adds that overlap":      adds(11, add(4, file(9, "b", "d")), add(4, file(10, "a", "c"))),
		"Least above Most":       adds(10, add(1, file(9, "h", "g"))),
		"no Least":               adds(10, add(0, file(9, "", "g"))),
		"no Most":                adds(10, add(0, file(9, "g", ""))),
		"a Size below 0":         changed(func(f *api.File) { f.Size = -1 }),
		"a Size too great":       changed(func(f *api.File) { f.Size = 1<<24 + 1 }),
		"no Entries":             changed(func(f *api.File) { f.Entries = 0 }),
		"Entries too many":       changed(func(f *api.File) { f.Entries = 1<<24 + 1 }),
		"MostSeq too great":      changed(func(f *api.File) { f.MostSeq = 1 << 56 }),
		"a Least too long":       changed(func(f *api.File) { f.Least = append([]byte("g"), make([]byte, 4096)...) }),
		"a Most too long":        changed(func(f *api.File) { f.Most = append([]byte("h"), make([]byte, 4096)...) }),
		"an Add of nothing":      adds(10, api.Add{}),
	} {
		cannot(t, what, some(), e, api.ErrArg)
	}
	for what, e := range map[string]api.Edit{
		"as great as may be":  changed(func(f *api.File) { f.Size, f.Entries, f.MostSeq = 1<<24, 1<<24, 1<<56-1 }),
		"as small as may be":  changed(func(f *api.File) { f.Size, f.Entries, f.MostSeq = 0, 1, 0 }),
		"a Least of MaxKey":   changed(func(f *api.File) { f.Least = append([]byte("g"), make([]byte, 4095)...) }),
		"a Most of MaxKey":    changed(func(f *api.File) { f.Most = append([]byte("h"), make([]byte, 4095)...) }),
		"overlapping at 0":    adds(10, add(0, file(9, "a", "z"))),
		"overlapping below 1": adds(10, add(2, file(9, "a", "z"))),
	} {
		_, err := version.Apply(some(), e)
		refused(t, what, err, api.OK)
	}
}

func TestApplyOfTooMuch(t *testing.T) {
	v := at(1, row(1, 9999)...)
	at10000 := applied(t, v, adds(10002, add(2, file(10001, "a", "b"))))
	if len(at10000.Levels[2]) != 1 || len(at10000.Levels[1]) != 9999 {
		t.Fatal("a file is missing")
	}
	one := add(2, file(10002, "c", "d"))
	cannot(t, "10,001 files", at10000, adds(10003, one), api.ErrLong)
	cannot(t, "10,001 files at once", v, adds(10003, one, add(2, file(10001, "a", "b"))), api.ErrLong)
	cannot(t, "10,001 files, one that touches", at10000, adds(10003, add(2, file(10002, "b", "d"))), api.ErrArg)
	cannot(t, "10,001 files, one on no level", at10000, adds(10004, one, add(5, file(10003, "e", "f"))), api.ErrArg)
	cannot(t, "10,001 files, one that is there", at10000, adds(10004, one, add(2, file(10001, "e", "f"))), api.ErrThere)
	cannot(t, "10,001 files, a drop of none", at10000, api.Edit{Drops: []api.Drop{drop(2, 1)}, Adds: []api.Add{one}, Next: 10003}, api.ErrNone)
	cannot(t, "10,001 files, Next at the last one", at10000, adds(10002, one), api.ErrArg)
	w := applied(t, at10000, api.Edit{Drops: []api.Drop{drop(1, 5)}, Adds: []api.Add{one}, Next: 10003})
	if len(w.Levels[1]) != 9998 || len(w.Levels[2]) != 2 {
		t.Error("one for another: not so")
	}
	// From none to all, and back, at once.
	e := whole(t, at10000)
	all := applied(t, version.First(), e)
	var l []api.Drop
	for _, a := range e.Adds {
		l = append(l, drop(a.Level, a.File.Number))
	}
	if w := applied(t, all, drops(1, l...)); numbersOf(w) != "||||" {
		t.Error("files are left")
	}
	cannot(t, "10,000 drops, the last one twice", all, drops(1, append(l, l[9999])...), api.ErrNone)

	// Bytes.
	full := sized(t, 3, 1<<20)
	applied(t, full, api.Edit{Next: full.Next, Seq: full.Seq, Log: full.Log})
	cannot(t, "a byte too much, by Seq", full, api.Edit{Next: full.Next, Seq: 128, Log: full.Log}, api.ErrLong)
	cannot(t, "a byte too much, by Seq, and Log wrong", full, api.Edit{Next: full.Next, Seq: 128, Log: trillion}, api.ErrArg)
	cannot(t, "a file too much", full, adds(200, add(1, file(199, "a", "b"))), api.ErrLong)
	one = add(1, file(129, "a", "b")) // 10 bytes
	applied(t, sized(t, 3, 1<<20-10), adds(130, one))
	cannot(t, "a file too much, by a byte", sized(t, 3, 1<<20-9), adds(130, one), api.ErrLong)
}

// Rule 1: the errors' order.
func TestApplyTellsTheFirstError(t *testing.T) {
	wrong, long := some(), at(1, row(1, 10001)...)
	wrong.Next = 0
	badDrop, there, badLevel := drop(0, 99), add(1, file(3, "r", "s")), add(7, file(9, "r", "s"))
	for _, c := range []struct {
		what string
		v    api.Version
		e    api.Edit
		want api.Errno
	}{
		{"a wrong version first", wrong, api.Edit{Drops: []api.Drop{badDrop}, Adds: []api.Add{there, badLevel}}, api.ErrArg},
		{"a long version first", long, api.Edit{Drops: []api.Drop{badDrop}, Adds: []api.Add{there, badLevel}}, api.ErrLong},
		{"a long version, though the edit shortens it", long, drops(10002, drop(1, 1)), api.ErrLong},
		{"drops, then adds", some(), api.Edit{Drops: []api.Drop{badDrop}, Adds: []api.Add{there, badLevel}}, api.ErrNone},
		{"drops, then what comes", some(), api.Edit{Drops: []api.Drop{badDrop}, Adds: []api.Add{badLevel}}, api.ErrNone},
		{"adds, then what comes", some(), api.Edit{Adds: []api.Add{badLevel, there}}, api.ErrThere},
		{"adds, then numbers", some(), api.Edit{Adds: []api.Add{there}, Next: 0}, api.ErrThere},
		{"what comes", some(), api.Edit{Adds: []api.Add{badLevel}, Next: 10}, api.ErrArg},
	} {
		cannot(t, c.what, c.v, c.e, c.want)
	}
}

// P12.1, Whole

func TestWhole(t *testing.T) {
	e := whole(t, some())
	want := api.Edit{Next: 9, Seq: 9, Log: 3, Adds: []api.Add{
		add(0, file(5, "b", "d")), add(0, file(7, "a", "c")), add(0, file(8, "x", "z")),
		add(1, file(3, "a", "c")), add(1, file(6, "d", "f")),
		add(3, file(1, "c", "m")), add(3, file(4, "n", "p")), add(3, file(2, "q", "q")),
	}}
	if toldEdit(e) != toldEdit(want) {
		t.Errorf("Whole: %s, want %s", toldEdit(e), toldEdit(want))
	}
	e = whole(t, version.First())
	if len(e.Drops) != 0 || len(e.Adds) != 0 || e.Next != 1 || e.Seq != 0 || e.Log != 0 {
		t.Errorf("Whole of the first version: %s", toldEdit(e))
	}
	v := at(4, api.File{Number: trillion - 1, Size: 1 << 24, Least: []byte{0}, Most: []byte{255}, Entries: 1 << 24, MostSeq: 1<<56 - 1})
	v.Seq, v.Log = 1<<56-1, trillion-1
	e = whole(t, v)
	if toldEdit(e) != toldEdit(api.Edit{Next: trillion, Seq: 1<<56 - 1, Log: trillion - 1, Adds: []api.Add{add(4, v.Levels[4][0])}}) {
		t.Errorf("Whole of the greatest numbers: %s", toldEdit(e))
	}
}

// edit draws one for a version, which can be applied, or nearly so.
func (s *source) edit(v api.Version) api.Edit {
	e := api.Edit{Next: v.Next, Seq: v.Seq + uint64(s.below(3)), Log: v.Log + uint64(s.below(3))}
	for level, l := range v.Levels {
		for _, f := range l {
			if s.below(3) == 0 {
				e.Drops = append(e.Drops, drop(level, f.Number))
			}
		}
	}
	switch n := len(e.Drops); {
	case n > 0 && s.below(20) == 0:
		e.Drops = append(e.Drops, e.Drops[s.below(n)])
	case n > 0 && s.below(20) == 0:
		e.Drops[s.below(n)].Level = s.below(8) - 1
	case s.below(30) == 0:
		e.Drops = append(e.Drops, drop(s.below(7)-1, uint64(s.below(20))))
	}
	for range s.below(4) {
		number := e.Next
		switch {
		case s.below(15) == 0:
			number = uint64(s.below(20))
		case len(e.Drops) > 0 && s.below(4) == 0:
			number = e.Drops[s.below(len(e.Drops))].Number
		default:
			e.Next += uint64(1 + s.below(2))
		}
		level := s.below(5) * s.below(2)
		if s.below(40) == 0 {
			level = []int{-1, 5}[s.below(2)]
		}
		f := s.file(number)
		if s.below(3) > 0 {
			f.Most = append(slices.Clone(f.Least), 0)
		}
		e.Adds = append(e.Adds, add(level, f))
	}
	for i := len(e.Adds) - 1; i > 0; i-- {
		j := s.below(i + 1)
		e.Adds[i], e.Adds[j] = e.Adds[j], e.Adds[i]
	}
	if s.below(40) == 0 {
		e.Next--
	}
	return e
}

func TestApplyAsTold(t *testing.T) {
	s := source(2)
	count := map[api.Errno]int{}
	for range 20000 {
		v := s.version()
		e := s.edit(v)
		w, err := version.Apply(v, e)
		want, wantErr := plainApply(v, e)
		if told(w) != told(want) || err != wantErr {
			t.Fatalf("Apply of %s to %s: %s, %d, want %s, %d", toldEdit(e), told(v), told(w), err, told(want), wantErr)
		}
		count[err]++
		edit, err := version.Whole(v)
		refused(t, "Whole", err, plainCheck(v))
		if err == api.OK && string(encode(parts(edit)...)) != string(plainWhole(v)) {
			t.Fatalf("Whole of %s: %s", told(v), toldEdit(edit))
		}
	}
	for _, e := range []api.Errno{api.OK, api.ErrArg, api.ErrNone, api.ErrThere} {
		if count[e] < 300 {
			t.Errorf("what was drawn is one-sided: %v", count)
		}
	}
}
