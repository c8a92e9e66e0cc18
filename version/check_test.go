package version_test

import (
	"fmt"
	"slices"
	"testing"

	"bootprint/api"
	"bootprint/version"
)

// P12.1, First

func TestFirst(t *testing.T) {
	v := version.First()
	if told(v) != "Next 1, Seq 0, Log 0: [] [] [] [] []" {
		t.Errorf("First: %s", told(v))
	}
	checks(t, "the first version", v, api.OK)
}

// P12.1, Check

func TestCheckOfOrdinaryVersions(t *testing.T) {
	for _, v := range []api.Version{
		some(),
		of(),
		at(0, file(1, "a", "c")),
		at(4, file(1, "a", "c")),
		at(0, file(1, "a", "c"), file(2, "a", "c"), file(9, "a", "a")),
		at(1, file(9, "a", "c"), file(1, "d", "d"), file(5, "da", "db")),
		of(row(1, 3), row(4, 3), row(7, 3), row(10, 3), row(13, 3)),
		// The same Keys on several levels.
		of(files(file(1, "a", "c")), files(file(2, "a", "c")), files(file(3, "a", "c")), files(file(4, "a", "c")), files(file(5, "a", "c"))),
		{Levels: [][]api.File{{}, {}, {}, {}, {}}, Next: 1},
	} {
		checks(t, told(v), v, api.OK)
	}
	checks(t, "the zero version", api.Version{}, api.ErrArg)
}

// onEach has Check look at a version with a changed file, on each level, alone
// and between others.
func onEach(t *testing.T, what string, want api.Errno, change func(f *api.File)) {
	t.Helper()
	for level := range 5 {
		f := file(2, "m", "p")
		change(&f)
		for _, l := range [][]api.File{files(f), files(file(1, "a", "b"), f), files(f, file(3, "x", "y")), files(file(1, "a", "b"), f, file(3, "x", "y"))} {
			v := at(level, l...)
			v.Next = 9
			checks(t, fmt.Sprintf("%s, one of %d on level %d", what, len(l), level), v, want)
		}
	}
}

func TestCheckOfNumbers(t *testing.T) {
	for level := range 5 {
		for number, want := range map[uint64]api.Errno{
			0: api.ErrArg, 1: api.OK, 2: api.OK, 8: api.OK, 9: api.ErrArg, 10: api.ErrArg, greatest: api.ErrArg,
		} {
			v := at(level, file(number, "a", "c"))
			v.Next = 9
			checks(t, fmt.Sprintf("Number %d on level %d, Next 9", number, level), v, want)
		}
		v := at(level, file(trillion-1, "a", "c"))
		v.Next = trillion
		checks(t, "the greatest Number", v, api.OK)
		v = at(level, file(trillion, "a", "c"))
		v.Next = trillion + 1
		checks(t, "a Number above it", v, api.ErrArg)
	}
}

func TestCheckOfSizesAndEntries(t *testing.T) {
	for n, want := range map[int]api.Errno{
		leastInt: api.ErrArg, -1: api.ErrArg, 0: api.OK, 1: api.OK, 1<<24 - 1: api.OK, 1 << 24: api.OK, 1<<24 + 1: api.ErrArg,
		greatestInt: api.ErrArg,
	} {
		onEach(t, fmt.Sprint("a Size of ", n), want, func(f *api.File) { f.Size = n })
		if n == 0 {
			want = api.ErrArg
		}
		onEach(t, fmt.Sprint("Entries ", n), want, func(f *api.File) { f.Entries = n })
	}
}

func TestCheckOfMostSeqs(t *testing.T) {
	for n, want := range map[uint64]api.Errno{
		0: api.OK, 1: api.OK, 10: api.OK, 1<<56 - 2: api.OK, 1<<56 - 1: api.OK, 1 << 56: api.ErrArg, greatest: api.ErrArg,
	} {
		onEach(t, fmt.Sprint("MostSeq ", n), want, func(f *api.File) { f.MostSeq = n })
	}
}

func TestCheckOfKeys(t *testing.T) {
	long := func(n int) []byte { return append([]byte("n"), make([]byte, n-1)...) }
	for _, c := range []struct {
		what        string
		least, most []byte
		want        api.Errno
	}{
		{"the same", []byte("m"), []byte("m"), api.OK},
		{"Least a first part of Most", []byte("m"), []byte("m\x00"), api.OK},
		{"Most a first part of Least", []byte("m\x00"), []byte("m"), api.ErrArg},
		{"Least above Most", []byte("n"), []byte("m"), api.ErrArg},
		{"no Least", nil, []byte("m"), api.ErrArg},
		{"an empty Least", []byte("m")[:0], []byte("m"), api.ErrArg},
		{"no Most", []byte("m"), nil, api.ErrArg},
		{"an empty Most", []byte("m"), []byte("m")[:0], api.ErrArg},
		{"neither", nil, nil, api.ErrArg},
		{"a Least of 4096", long(4096), []byte("o"), api.OK},
		{"a Least of 4097", long(4097), []byte("o"), api.ErrArg},
		{"a Most of 4096", []byte("m"), long(4096), api.OK},
		{"a Most of 4097", []byte("m"), long(4097), api.ErrArg},
		{"both of 4096", long(4096), long(4096), api.OK},
		{"both of 4097", long(4097), long(4097), api.ErrArg},
		{"a Least of a piece too long", long(1<<20 + 1), []byte("o"), api.ErrArg},
		{"bytes, not letters", []byte{'m', 0x7f}, []byte{'m', 0x80}, api.OK},
		{"bytes, not letters, above", []byte{'m', 0x80}, []byte{'m', 0x7f}, api.ErrArg},
	} {
		onEach(t, c.what, c.want, func(f *api.File) { f.Least, f.Most = c.least, c.most })
	}
}

func TestCheckOfNumbersThatStandTwice(t *testing.T) {
	for i := range 5 {
		for j := i; j < 5; j++ {
			for _, other := range []uint64{4, 6} {
				levels := make([][]api.File, 5)
				levels[i] = append(levels[i], file(4, "a", "b"))
				levels[j] = append(levels[j], file(other, "c", "d"))
				want := api.OK
				if other == 4 {
					want = api.ErrArg
				}
				checks(t, fmt.Sprintf("4 on level %d, %d on level %d", i, other, j), of(levels...), want)
			}
		}
		// Others stand between.
		checks(t, "twice, with one between", at(i, file(4, "a", "b"), file(5, "c", "d"), file(4, "e", "f")), api.ErrArg)
	}
	v := of(row(1, 1000), row(2001, 1000), row(3001, 1000))
	checks(t, "many", v, api.OK)
	v.Levels[2][999].Number = 2001
	checks(t, "many, one twice", v, api.ErrArg)
}

func TestCheckOfLevel0(t *testing.T) {
	for _, c := range []struct {
		numbers []uint64
		want    api.Errno
	}{
		{[]uint64{1, 2}, api.OK}, {[]uint64{1, 3, 8}, api.OK}, {[]uint64{2, 1}, api.ErrArg}, {[]uint64{2, 2}, api.ErrArg},
		{[]uint64{1, 3, 2}, api.ErrArg}, {[]uint64{2, 1, 3}, api.ErrArg}, {[]uint64{3, 1, 2}, api.ErrArg},
		{[]uint64{1, 2, 3, 4, 6, 5}, api.ErrArg},
	} {
		// Which Keys they have does not count.
		for _, keys := range [][]string{{"a", "b", "c", "d", "e", "f"}, {"f", "e", "d", "c", "b", "a"}, {"a", "a", "a", "a", "a", "a"}} {
			var l []api.File
			for i, n := range c.numbers {
				l = append(l, file(n, keys[i], "g"))
			}
			v := at(0, l...)
			v.Next = 9
			checks(t, fmt.Sprint("level 0 with ", numbers(l)), v, c.want)
		}
	}
}

func TestCheckOfOtherLevels(t *testing.T) {
	for level := 1; level < 5; level++ {
		for _, c := range []struct {
			what string
			l    []api.File
			want api.Errno
		}{
			{"apart", files(file(1, "a", "c"), file(2, "d", "e")), api.OK},
			{"apart by a byte 0", files(file(1, "a", "c"), file(2, "c\x00", "e")), api.OK},
			{"apart, Numbers falling", files(file(2, "a", "c"), file(1, "d", "e")), api.OK},
			{"of one Key each", files(file(3, "a", "a"), file(1, "b", "b"), file(2, "c", "c")), api.OK},
			{"touching", files(file(1, "a", "c"), file(2, "c", "e")), api.ErrArg},
			{"touching, of one Key", files(file(1, "c", "c"), file(2, "c", "c")), api.ErrArg},
			{"overlapping", files(file(1, "a", "d"), file(2, "c", "e")), api.ErrArg},
			{"one within the other", files(file(1, "a", "z"), file(2, "c", "e")), api.ErrArg},
			{"the same Keys", files(file(1, "a", "c"), file(2, "a", "c")), api.ErrArg},
			{"in the wrong order", files(file(1, "d", "e"), file(2, "a", "c")), api.ErrArg},
			{"the last ones touching", files(file(1, "a", "c"), file(2, "d", "e"), file(3, "e", "f")), api.ErrArg},
			{"the last ones in the wrong order", files(file(1, "a", "c"), file(2, "g", "h"), file(3, "e", "f")), api.ErrArg},
			{"the first and the last in the wrong order", files(file(1, "m", "n"), file(2, "p", "q"), file(3, "a", "b")), api.ErrArg},
		} {
			checks(t, fmt.Sprintf("%s on level %d", c.what, level), at(level, c.l...), c.want)
		}
	}
}

func TestCheckOfLists(t *testing.T) {
	for n := range 9 {
		want := api.ErrArg
		if n == 5 {
			want = api.OK
		}
		v := api.Version{Levels: make([][]api.File, n), Next: 9}
		checks(t, fmt.Sprint(n, " lists"), v, want)
		for i := range v.Levels {
			v.Levels[i] = files(file(uint64(i+1), "a", "b"))
		}
		checks(t, fmt.Sprint(n, " lists with files"), v, want)
	}
	v := some()
	v.Levels = v.Levels[:4] // the fifth one is in spare room
	checks(t, "a list in spare room", v, api.ErrArg)
}

func TestCheckOfNextSeqLog(t *testing.T) {
	for next, want := range map[uint64]api.Errno{
		0: api.ErrArg, 1: api.OK, 2: api.OK, trillion - 1: api.OK, trillion: api.OK, trillion + 1: api.ErrArg, 1 << 62: api.ErrArg, greatest: api.ErrArg,
	} {
		checks(t, fmt.Sprint("Next ", next), api.Version{Levels: levelsOf(), Next: next}, want)
	}
	for seq, want := range map[uint64]api.Errno{
		0: api.OK, 1: api.OK, 1<<56 - 2: api.OK, 1<<56 - 1: api.OK, 1 << 56: api.ErrArg, greatest: api.ErrArg,
	} {
		checks(t, fmt.Sprint("Seq ", seq), api.Version{Levels: levelsOf(), Next: 1, Seq: seq}, want)
	}
	for log, want := range map[uint64]api.Errno{
		0: api.OK, 1: api.OK, trillion - 2: api.OK, trillion - 1: api.OK, trillion: api.ErrArg, trillion + 1: api.ErrArg, greatest: api.ErrArg,
	} {
		checks(t, fmt.Sprint("Log ", log), api.Version{Levels: levelsOf(), Next: 1, Log: log}, want)
	}
	v := some()
	v.Next--
	checks(t, "Next at the greatest Number", v, api.ErrArg)
	v.Next, v.Seq = 9, 0
	checks(t, "Seq below a file's MostSeq", v, api.OK)
}

func TestCheckOfHowManyFiles(t *testing.T) {
	for n, want := range map[int]api.Errno{9999: api.OK, 10000: api.OK, 10001: api.ErrLong, 30000: api.ErrLong} {
		for level := range 5 {
			checks(t, fmt.Sprint(n, " files on level ", level), at(level, row(1, n)...), want)
		}
		part := n / 3
		checks(t, fmt.Sprint(n, " files on three levels"), of(row(1, part), nil, row(part+1, part), nil, row(2*part+1, n-2*part)), want)
	}
}

func TestCheckOfHowManyBytes(t *testing.T) {
	for level := range 5 {
		for n, want := range map[int]api.Errno{
			1<<20 - 1: api.OK, 1 << 20: api.OK, 1<<20 + 1: api.ErrLong, 1<<20 + 99: api.ErrLong,
		} {
			v := sized(t, level, n)
			checks(t, fmt.Sprint(n, " bytes on level ", level), v, want)
			if want == api.OK {
				if p := appended(t, "", whole(t, v)); len(p) != n {
					t.Errorf("%d bytes, want %d", len(p), n)
				}
			}
		}
	}
	// Each number counts by its bytes.
	grow := map[string]func(v *api.Version, f *api.File){
		"Next":    func(v *api.Version, f *api.File) { v.Next = 1 << 14 },
		"Seq":     func(v *api.Version, f *api.File) { v.Seq = 128 },
		"Log":     func(v *api.Version, f *api.File) { v.Log = 128 },
		"Size":    func(v *api.Version, f *api.File) { f.Size = 128 },
		"Entries": func(v *api.Version, f *api.File) { f.Entries = 128 },
		"MostSeq": func(v *api.Version, f *api.File) { f.MostSeq = 128 },
		"Least":   func(v *api.Version, f *api.File) { f.Least = append(slices.Clone(f.Least), 0) },
		"Most":    func(v *api.Version, f *api.File) { f.Most = append(slices.Clone(f.Most), 0) },
	}
	for what, change := range grow {
		v := sized(t, 0, 1<<20)
		change(&v, &v.Levels[0][127])
		checks(t, "a byte more by "+what, v, api.ErrLong)
		v = sized(t, 0, 1<<20-1)
		change(&v, &v.Levels[0][127])
		checks(t, "a byte more by "+what+", with room", v, api.OK)
	}
	for room, want := range map[int]api.Errno{11: api.OK, 10: api.OK, 9: api.ErrLong} {
		v := sized(t, 2, 1<<20-room)
		v.Levels[3], v.Next = files(file(129, "a", "b")), 130
		checks(t, fmt.Sprint("a file of 10 bytes more, with room for ", room), v, want)
	}
}

func TestCheckTellsErrLongOnlyWhereNothingElseIsWrong(t *testing.T) {
	long := map[string]api.Version{
		"files": at(1, row(1, 10001)...),
		"bytes": sized(t, 1, 1<<20+1),
	}
	wrong := map[string]func(v *api.Version){
		"Next 0":             func(v *api.Version) { v.Next = 0 },
		"Next too great":     func(v *api.Version) { v.Next = trillion + 1 },
		"a Number at Next":   func(v *api.Version) { v.Next-- },
		"Seq":                func(v *api.Version) { v.Seq = 1 << 56 },
		"Log":                func(v *api.Version) { v.Log = trillion },
		"six lists":          func(v *api.Version) { v.Levels = append(v.Levels, nil) },
		"four lists":         func(v *api.Version) { v.Levels = v.Levels[:4] },
		"a Size":             func(v *api.Version) { v.Levels[1][len(v.Levels[1])-1].Size = -1 },
		"Entries":            func(v *api.Version) { v.Levels[1][0].Entries = 0 },
		"MostSeq":            func(v *api.Version) { v.Levels[1][7].MostSeq = greatest },
		"a Least too long":   func(v *api.Version) { v.Levels[1][0].Least = key(4097, 0) },
		"a Least above Most": func(v *api.Version) { v.Levels[1][9].Least = []byte{255} },
		"a Number twice":     func(v *api.Version) { v.Levels[4] = files(file(1, "a", "b")) },
		"files that touch":   func(v *api.Version) { v.Levels[1][5].Least = v.Levels[1][4].Most },
	}
	for name, v := range long {
		checks(t, "too many "+name, v, api.ErrLong)
		for what, change := range wrong {
			w := v
			w.Levels = slices.Clone(v.Levels)
			w.Levels[1] = slices.Clone(v.Levels[1])
			change(&w)
			checks(t, "too many "+name+", and "+what, w, api.ErrArg)
		}
	}
}

// version draws one that may be, or is nearly so.
func (s *source) version() api.Version {
	v := api.Version{Levels: make([][]api.File, 5), Seq: uint64(s.below(200)), Log: uint64(s.below(200))}
	number := uint64(s.below(3) / 2)
	for level := range v.Levels {
		for range s.below(5) {
			number += uint64(1 + s.below(20)/19)
			if s.below(60) == 0 {
				number--
			}
			v.Levels[level] = append(v.Levels[level], s.file(number))
		}
		if level > 0 && s.below(8) > 0 {
			v.Levels[level] = untangled(v.Levels[level])
		}
	}
	v.Next = number + 1
	switch s.below(60) {
	case 0:
		v.Next = number
	case 1:
		v.Levels = v.Levels[:4]
	case 2:
		v.Levels = append(v.Levels, nil)
	case 3:
		v.Seq = 1<<56 - 1 + uint64(s.below(2))
	case 4:
		v.Log = trillion - 1 + uint64(s.below(2))
	case 5:
		v.Next = trillion + uint64(s.below(2))
	}
	return v
}

// untangled sorts files by their Keys, and leaves those out that overlap one
// ahead.
func untangled(l []api.File) []api.File {
	slices.SortStableFunc(l, func(a, b api.File) int { return slices.Compare(a.Least, b.Least) })
	var out []api.File
	for _, f := range l {
		if n := len(out); n == 0 || string(out[n-1].Most) < string(f.Least) {
			out = append(out, f)
		}
	}
	return out
}

func TestCheckAsTold(t *testing.T) {
	s := source(1)
	count := map[api.Errno]int{}
	for range 20000 {
		v := s.version()
		e, want := version.Check(v), plainCheck(v)
		if e != want {
			t.Fatalf("Check of %s: %d, want %d", told(v), e, want)
		}
		count[e]++
	}
	if count[api.OK] < 3000 || count[api.ErrArg] < 3000 {
		t.Errorf("what was drawn is one-sided: %v", count)
	}
}
