package version_test

import (
	"fmt"
	"testing"

	"bootprint/api"
	"bootprint/version"
)

// P12.3, Overlap

func TestOverlap(t *testing.T) {
	for _, c := range []struct {
		level       int
		least, most string
		want        string
	}{
		// 0: 5 (b to d), 7 (a to c), 8 (x to z).
		{0, "", "", "5 7 8"}, {0, "a", "a", "7"}, {0, "b", "c", "5 7"}, {0, "d", "d", "5"}, {0, "d\x00", "w", ""},
		{0, "c", "c", "5 7"}, {0, "c\x00", "c\x00", "5"}, {0, "z", "z", "8"}, {0, "z\x00", "", ""}, {0, "d", "x", "5 8"}, {0, "A", "Z", ""},
		// 1: 3 (a to c), 6 (d to f).
		{1, "", "", "3 6"}, {1, "c", "d", "3 6"}, {1, "c", "c", "3"}, {1, "c\x00", "c\xff", ""}, {1, "d", "d", "6"}, {1, "b", "e", "3 6"},
		{1, "f", "", "6"}, {1, "f\x00", "", ""}, {1, "", "a", "3"}, {1, "", "Z", ""}, {1, "e", "e", "6"},
		// 2: none. 3: 1 (c to m), 4 (n to p), 2 (q to q).
		{2, "", "", ""}, {2, "a", "z", ""},
		{3, "", "", "1 4 2"}, {3, "q", "q", "2"}, {3, "p", "q", "4 2"}, {3, "a", "z", "1 4 2"}, {3, "d", "e", "1"}, {3, "m", "n", "1 4"},
		{3, "p\x00", "p\xff", ""}, {3, "n", "", "4 2"}, {3, "", "n", "1 4"}, {3, "", "c", "1"}, {3, "", "b\xff", ""},
		{4, "", "", ""},
		// By the words alone: what holds the keys from most to least.
		{3, "l", "d", "1"}, {3, "n", "m", ""}, {3, "q", "n", ""}, {0, "c", "b", "5 7"},
	} {
		if got := numbers(version.Overlap(some(), c.level, []byte(c.least), []byte(c.most))); got != c.want {
			t.Errorf("Overlap of level %d, %q to %q: %s, want %s", c.level, c.least, c.most, got, c.want)
		}
	}
	// What is told of a file is all of it.
	f := api.File{Number: 3, Size: 1 << 24, Least: []byte("k"), Most: []byte("l"), Entries: 77, MostSeq: 1<<56 - 1}
	if l := version.Overlap(at(2, f), 2, nil, nil); toldFiles(l) != toldFiles(files(f)) {
		t.Errorf("Overlap: %s, want %s", toldFiles(l), toldFile(f))
	}
}

func TestOverlapAtTheKeysOfAFile(t *testing.T) {
	for level := range 5 {
		v := at(level, file(1, "m", "p"))
		for _, c := range []struct {
			least, most string
			is          bool
		}{
			{"p", "z", true}, {"p\x00", "z", false}, {"o\xff", "z", true}, {"p", "", true}, {"p\x00", "", false},
			{"a", "m", true}, {"a", "l\xff", false}, {"a", "m\x00", true}, {"", "m", true}, {"", "l\xff", false}, {"", "", true},
			{"m", "m", true}, {"p", "p", true}, {"m", "p", true}, {"n", "o", true}, {"a", "z", true}, {"p", "m", true},
		} {
			l := version.Overlap(v, level, []byte(c.least), []byte(c.most))
			if (len(l) == 1) != c.is {
				t.Errorf("level %d, %q to %q: %s", level, c.least, c.most, numbers(l))
			}
			for above := range level {
				if version.Deepest(v, above, []byte(c.least), []byte(c.most)) == c.is {
					t.Errorf("Deepest of level %d, %q to %q: %t", above, c.least, c.most, c.is)
				}
			}
		}
	}
}

// noLevels are levels that are none.
var noLevels = []int{leastInt, leastInt + 1, -1 << 32, -2, -1, 5, 6, 256, 1 << 32, greatestInt - 1, greatestInt}

func TestOverlapAndBytesOfNoLevel(t *testing.T) {
	for _, level := range noLevels {
		for _, v := range []api.Version{some(), version.First(), of(row(1, 9), row(10, 9), row(20, 9), row(30, 9), row(40, 9))} {
			if l := version.Overlap(v, level, nil, nil); len(l) != 0 {
				t.Errorf("Overlap of level %d: %s", level, numbers(l))
			}
			if n := version.Bytes(v, level); n != 0 {
				t.Errorf("Bytes of level %d: %d", level, n)
			}
		}
	}
}

// P12.3, Bytes

func TestBytes(t *testing.T) {
	v := some()
	v.Levels[0][1].Size = 0
	v.Levels[1][0].Size = 1 << 24
	v.Levels[3][2].Size = 7
	for level, want := range []int{200, 1<<24 + 100, 0, 207, 0} {
		if n := version.Bytes(v, level); n != want {
			t.Errorf("Bytes of level %d: %d, want %d", level, n, want)
		}
	}
	full := at(4, row(1, 10000)...)
	for i := range full.Levels[4] {
		full.Levels[4][i].Size = 1 << 24
	}
	if n := version.Bytes(full, 4); n != 10000<<24 {
		t.Errorf("Bytes of the fullest level: %d", n)
	}
}

// P12.3, Deepest

func TestDeepest(t *testing.T) {
	for _, c := range []struct {
		level       int
		least, most string
		want        bool
	}{
		// Level 3 holds c to m, n to p, q; level 1 a to c, d to f.
		{0, "a", "b", false}, {1, "a", "b", true}, {0, "g", "g", false}, {1, "g", "g", false}, {2, "g", "g", false}, {3, "g", "g", true}, {4, "g", "g", true},
		{0, "r", "z", true}, {1, "r", "z", true}, {0, "r", "", true}, {0, "", "", false}, {2, "", "", false}, {3, "", "", true}, {4, "", "", true},
		{2, "q", "q", false}, {2, "q\x00", "", true}, {2, "", "b", true}, {2, "", "c", false}, {0, "", "Z", true}, {0, "", "a", false},
		{0, "c\x00", "c\xff", false}, {0, "p\x00", "p\xff", true}, {2, "m\x00", "m\xff", true},
	} {
		if got := version.Deepest(some(), c.level, []byte(c.least), []byte(c.most)); got != c.want {
			t.Errorf("Deepest of level %d, %q to %q: %t", c.level, c.least, c.most, got)
		}
	}
	all := of(row(1, 9), row(10, 9), row(20, 9), row(30, 9), row(40, 9))
	for level := range 5 {
		if got := version.Deepest(all, level, nil, nil); got != (level == 4) {
			t.Errorf("Deepest of level %d: %t", level, got)
		}
	}
	for _, level := range noLevels {
		if !version.Deepest(all, level, nil, nil) {
			t.Errorf("Deepest of level %d: no", level)
		}
	}
	if !version.Deepest(version.First(), 0, nil, nil) {
		t.Error("Deepest of the first version: no")
	}
	// The files of the level itself, and of those above, do not count.
	v := of(files(file(1, "a", "z")), files(file(2, "a", "z")))
	if version.Deepest(v, 0, nil, nil) || !version.Deepest(v, 1, nil, nil) || !version.Deepest(v, 2, nil, nil) {
		t.Error("Deepest with files at and above the level")
	}
}

// What may not be has nothing, also where only its bounds are broken.
func TestNothingOfAVersionThatMayNotBe(t *testing.T) {
	wrong := map[string]api.Version{
		"the zero one": {},
		"files":        at(1, row(1, 10001)...),
		"bytes":        sized(t, 2, 1<<20+1),
		"touching":     at(1, file(1, "a", "c"), file(2, "c", "d")),
		"a Number":     at(1, file(0, "a", "c")),
	}
	for what, change := range map[string]func(v *api.Version){
		"Next":       func(v *api.Version) { v.Next = 8 },
		"Seq":        func(v *api.Version) { v.Seq = 1 << 56 },
		"Log":        func(v *api.Version) { v.Log = trillion },
		"four lists": func(v *api.Version) { v.Levels = v.Levels[:4] },
		"six lists":  func(v *api.Version) { v.Levels = append(v.Levels, files(file(7, "a", "b"))) },
		"elsewhere":  func(v *api.Version) { v.Levels[4] = files(api.File{}) },
	} {
		v := some()
		change(&v)
		wrong[what] = v
	}
	for what, v := range wrong {
		if version.Check(v) == api.OK {
			t.Errorf("%s: it may be", what)
		}
		nothingOf(t, what, v)
		for _, level := range noLevels {
			if !version.Deepest(v, level, nil, nil) {
				t.Errorf("%s: Deepest of level %d: no", what, level)
			}
		}
	}
}

func TestOverlapBytesAndDeepestAsTold(t *testing.T) {
	s := source(4)
	keys := []string{"", "\x00", "a", "aa", "b", "ba", "c", "d", "d\xff", "\xff", "\xff\xff\xff"}
	fine := 0
	for range 600 {
		v := s.version()
		if plainCheck(v) == api.OK {
			fine++
		}
		for level := -1; level <= 5; level++ {
			n := 0
			for _, f := range plainOverlap(v, level, "", "") {
				n += f.Size
			}
			if got := version.Bytes(v, level); got != n {
				t.Fatalf("Bytes of %s, level %d: %d, want %d", told(v), level, got, n)
			}
			for range 12 {
				least, most := keys[s.below(len(keys))], keys[s.below(len(keys))]
				what := fmt.Sprintf("of %s, level %d, %q to %q", told(v), level, least, most)
				got, want := version.Overlap(v, level, []byte(least), []byte(most)), plainOverlap(v, level, least, most)
				if toldFiles(got) != toldFiles(want) {
					t.Fatalf("Overlap %s: %s, want %s", what, toldFiles(got), toldFiles(want))
				}
				if got, want := version.Deepest(v, level, []byte(least), []byte(most)), plainDeepest(v, level, least, most); got != want {
					t.Fatalf("Deepest %s: %t, want %t", what, got, want)
				}
			}
		}
	}
	if fine < 100 || fine > 500 {
		t.Errorf("what was drawn is one-sided: %d of 600 may be", fine)
	}
}
