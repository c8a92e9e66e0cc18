package pick_test

import (
	"fmt"
	"slices"
	"testing"

	"bootprint/api"
	"bootprint/pick"
	"bootprint/version"
)

// P14.2, errors

func TestNextOfWhatIsRefused(t *testing.T) {
	for what, v := range wrongVersions() {
		e := version.Check(v)
		if e == api.OK {
			t.Fatalf("%s: it may be", what)
		}
		for _, s := range []api.PickSetup{usual, never, {}, {Trigger: 101, Base: 1, Factor: 2}} {
			noNext(t, fmt.Sprint(what, ", setup ", s), v, s, e)
		}
	}
	for _, s := range wrongSetups() {
		for _, v := range []api.Version{version.First(), at(0, row(1, 9, 9)...), at(1, row(1, 9, 1<<24)...), at(4, row(1, 9, 9)...)} {
			noNext(t, fmt.Sprint("setup ", s), v, s, api.ErrArg)
		}
	}
}

// The version's error is told ahead of the setup's.
func TestNextOfAWrongVersionAndAWrongSetup(t *testing.T) {
	v := at(1, row(1, 10001, 900)...)
	for _, s := range append(wrongSetups(), usual, never) {
		noNext(t, fmt.Sprint("too many files, setup ", s), v, s, api.ErrLong)
	}
	noNext(t, "both may not be", api.Version{}, api.PickSetup{}, api.ErrArg)
}

func TestNextAtRest(t *testing.T) {
	noNext(t, "the first version", version.First(), usual, api.ErrNone)
	noNext(t, "level 4 alone", at(4, row(1, 900, 1<<24)...), usual, api.ErrNone)
	noNext(t, "one below each", of(row(1, 1, 1<<24), row(2, 1, 99), row(3, 1, 999), row(4, 1, 9999), row(5, 90, 1<<24)), usual, api.ErrNone)
	atBounds(t, func(what string, v api.Version, s api.PickSetup, level, score int) {
		if score < 100 {
			noNext(t, what, v, s, api.ErrNone)
			return
		}
		if j := next(t, v, s); j.Level != level {
			t.Errorf("%s: level %d", what, j.Level)
		}
	})
}

// P14.2, Level

func TestTheLevelWithTheGreatestScore(t *testing.T) {
	// byScores answers a version whose levels have those scores.
	byScores := func(scores [4]int) api.Version {
		return of(row(1, scores[0]/10, 1), row(21, 1, scores[1]), row(22, 1, scores[2]*10), row(23, 1, scores[3]*100), row(24, 9, 1<<24))
	}
	ten := api.PickSetup{Trigger: 10, Base: 100, Factor: 10}
	for _, c := range []struct {
		scores [4]int
		want   int
	}{
		{[4]int{100, 99, 99, 99}, 0}, {[4]int{90, 100, 99, 99}, 1}, {[4]int{90, 99, 100, 99}, 2}, {[4]int{90, 99, 99, 100}, 3},
		{[4]int{110, 109, 108, 107}, 0}, {[4]int{110, 111, 108, 107}, 1}, {[4]int{110, 111, 112, 107}, 2}, {[4]int{110, 111, 112, 113}, 3},
		{[4]int{110, 300, 200, 250}, 1}, {[4]int{0, 0, 0, 900}, 3}, {[4]int{150, 0, 0, 149}, 0},
		// Of those that have the same score the least.
		{[4]int{100, 100, 100, 100}, 0}, {[4]int{90, 100, 100, 100}, 1}, {[4]int{90, 99, 100, 100}, 2}, {[4]int{150, 100, 150, 150}, 0},
		{[4]int{100, 150, 100, 150}, 1}, {[4]int{100, 150, 160, 160}, 2}, {[4]int{100, 160, 150, 160}, 1}, {[4]int{200, 0, 0, 200}, 0},
	} {
		v := byScores(c.scores)
		scored(t, fmt.Sprint(c.scores), v, ten, [5]int{c.scores[0], c.scores[1], c.scores[2], c.scores[3], 0})
		if j := next(t, v, ten); j.Level != c.want {
			t.Errorf("scores %v: level %d, want %d", c.scores, j.Level, c.want)
		}
	}
	// Scores are rounded down ahead of being compared: 100 of each.
	isNext(t, "the same, rounded down", of(nil, files(file(1, 100, "a", "b")), files(file(2, 1009, "x", "z"))), usual, "1: 1 | , a to b, bottom")
}

// P14.2, Upper of level 0

func TestUpperOfLevel0(t *testing.T) {
	for _, c := range []struct {
		what   string
		ranges []string
		want   string
	}{
		{"the first overlaps none", []string{"c-d", "a-b", "e-f"}, "0: 1 | , c to d, bottom"},
		{"others overlap one another", []string{"c-d", "e-g", "f-h", "g-z"}, "0: 1 | , c to d, bottom"},
		{"all are the same", []string{"c-d", "c-d", "c-d"}, "0: 1 2 3 | , c to d, bottom"},
		{"one at once", []string{"c-f", "a-b", "f-g", "h-i"}, "0: 1 3 | , c to g, bottom"},
		{"one above at a key", []string{"c-f", "f-g"}, "0: 1 2 | , c to g, bottom"},
		{"one below at a key", []string{"c-f", "a-c"}, "0: 1 2 | , a to f, bottom"},
		{"one close above", []string{"c-f", "g-h"}, "0: 1 | , c to f, bottom"},
		{"one close below", []string{"c-f", "a-b"}, "0: 1 | , c to f, bottom"},
		{"one within", []string{"c-f", "d-e"}, "0: 1 2 | , c to f, bottom"},
		{"one around", []string{"d-e", "a-z"}, "0: 1 2 | , a to z, bottom"},
		{"one of a key", []string{"c-f", "f-f", "c-c", "b-b", "g-g"}, "0: 1 2 3 | , c to f, bottom"},
		{"the first of a key", []string{"c-c", "a-b", "d-e", "b-c"}, "0: 1 2 4 | , a to c, bottom"},
		{"several at once", []string{"c-f", "a-c", "x-z", "e-h"}, "0: 1 2 4 | , a to h, bottom"},
		{"by way of one behind", []string{"a-c", "e-g", "c-e"}, "0: 1 2 3 | , a to g, bottom"},
		{"by way of one ahead", []string{"a-c", "c-e", "e-g"}, "0: 1 2 3 | , a to g, bottom"},
		{"upwards, the last ones first", []string{"a-c", "i-k", "g-i", "e-g", "c-e", "l-z"}, "0: 1 2 3 4 5 | , a to k, bottom"},
		{"downwards, the last ones first", []string{"i-k", "a-c", "c-e", "e-g", "g-i", "l-z"}, "0: 1 2 3 4 5 | , a to k, bottom"},
		{"to both sides", []string{"m-n", "a-c", "w-z", "k-m", "n-p", "p-w", "c-k", "A-Z"}, "0: 1 2 3 4 5 6 7 | , a to z, bottom"},
		{"a gap", []string{"a-c", "c-e", "f-h", "h-j"}, "0: 1 2 | , a to e, bottom"},
	} {
		isNext(t, c.what, at(0, ranges(c.ranges...)...), api.PickSetup{Trigger: 1, Base: 100, Factor: 10}, c.want)
	}
}

// A chain of five files and two beside it, in each order.
func TestUpperOfLevel0InWhateverOrder(t *testing.T) {
	all := []string{"c-e", "e-g", "g-i", "i-k", "k-m", "a-b", "x-z"}
	n := 0
	var put func(ahead, left []string)
	put = func(ahead, left []string) {
		for i := range left {
			put(append(slices.Clone(ahead), left[i]), slices.Delete(slices.Clone(left), i, i+1))
		}
		if len(left) > 0 {
			return
		}
		n++
		want, keys := "1", ahead[0][:1]+" to "+ahead[0][2:]
		for i, s := range ahead {
			if isOfChain := s != "a-b" && s != "x-z"; isOfChain && ahead[0] != "a-b" && ahead[0] != "x-z" && i > 0 {
				want, keys = fmt.Sprint(want, " ", i+1), "c to m"
			}
		}
		isNext(t, fmt.Sprint(ahead), at(0, ranges(ahead...)...), usual, "0: "+want+" | , "+keys+", bottom")
	}
	put(nil, all)
	if n != 5040 {
		t.Errorf("%d orders", n)
	}
}

// The first one is the one with the least Number, however great that is.
func TestUpperOfLevel0GoesByNumber(t *testing.T) {
	v := at(0, file(70, 1, "x", "z"), file(80, 1, "a", "c"), file(90, 1, "b", "y"), file(1000, 1, "d", "e"))
	isNext(t, "by Number", v, usual, "0: 70 80 90 1000 | , a to z, bottom")
	v = at(0, file(70, 1, "x", "z"), file(80, 1, "a", "c"), file(900, 1, "b", "w"))
	isNext(t, "by Number", v, usual, "0: 70 | , x to z, bottom")
}

// A chain of many files, in three orders.
func TestUpperOfManyFiles(t *testing.T) {
	const n = 3000
	for what, place := range map[string]func(i int) int{
		"upwards":   func(i int) int { return i },
		"downwards": func(i int) int { return n - 1 - i },
		"the first one, and the others downwards": func(i int) int { return (n - i) % n },
	} {
		l := make([]api.File, n)
		for i := range l {
			l[i] = file(uint64(i+1), 1, key(place(i)), key(place(i)+1))
		}
		j := next(t, at(0, l...), usual)
		if len(j.Upper) != n || string(j.Least) != key(0) || string(j.Most) != key(n) || j.Level != 0 || len(j.Lower) != 0 {
			t.Errorf("%s: %d files, %q to %q", what, len(j.Upper), j.Least, j.Most)
		}
	}
}

// P14.2, Upper of another level

func TestUpperOfAnotherLevelIsTheOldest(t *testing.T) {
	for level := 1; level <= 3; level++ {
		for _, l := range [][]uint64{{3, 5, 7}, {3, 7, 5}, {5, 3, 7}, {7, 3, 5}, {5, 7, 3}, {7, 5, 3}, {10, 3, 2000000}} {
			v := at(level, file(l[0], 1, "a", "c"), file(l[1], 1<<20, "d", "d"), file(l[2], 0, "x", "z"))
			least, keys := slices.Min(l), []string{"a to c", "d to d", "x to z"}
			want := fmt.Sprintf("%d: %d | , %s, bottom", level, least, keys[slices.Index(l, least)])
			isNext(t, fmt.Sprint("level ", level, ", ", l), v, usual, want)
		}
		// Those of other levels are no matter, whether they overlap or not.
		levels := [][]api.File{files(file(1, 1, "a", "z")), nil, nil, nil, files(file(2, 1, "n", "p"))}
		levels[level] = files(file(9, 1<<20, "k", "l"), file(7, 1, "m", "m"))
		want := fmt.Sprintf("%d: 7 | , m to m, bottom", level)
		isNext(t, fmt.Sprint("others, level ", level), of(levels...), usual, want)
	}
}

// P14.2, Lower, Least, Most

func TestLower(t *testing.T) {
	lower := files(file(31, 1, "b", "d"), file(27, 1, "f", "h"), file(29, 1, "k", "k"), file(28, 1, "m", "p"))
	for _, c := range []struct{ least, most, want string }{
		{"a", "a", " | , a to a"}, {"q", "z", " | , q to z"}, {"e", "e", " | , e to e"}, {"i", "j", " | , i to j"}, {"l", "l", " | , l to l"},
		{"a", "b", " | 31, a to d"}, {"d", "e", " | 31, b to e"}, {"d", "f", " | 31 27, b to h"}, {"g", "g", " | 27, f to h"},
		{"e", "i", " | 27, e to i"}, {"i", "l", " | 29, i to l"}, {"k", "k", " | 29, k to k"}, {"p", "z", " | 28, m to z"}, {"c", "n", " | 31 27 29 28, b to p"},
		{"a", "z", " | 31 27 29 28, a to z"}, {"b", "p", " | 31 27 29 28, b to p"}, {"d", "m", " | 31 27 29 28, b to p"},
		{"h", "k", " | 27 29, f to k"}, {"A", "c", " | 31, A to d"},
	} {
		for level := range 4 {
			levels := make([][]api.File, 5)
			levels[level] = files(file(1, 1<<20, c.least, c.most))
			levels[level+1] = lower
			s := api.PickSetup{Trigger: 1, Base: 1 << 12, Factor: 2}
			isNext(t, fmt.Sprintf("%s to %s, level %d", c.least, c.most, level), of(levels...), s, fmt.Sprintf("%d: 1%s, bottom", level, c.want))
		}
	}
}

// Of level 0 Lower's files go by the keys of all that were gathered, also where
// no single one of them has these.
func TestLowerOfSeveralFiles(t *testing.T) {
	lower := files(file(10, 1, "a", "a"), file(14, 1, "c", "d"), file(12, 1, "e", "e"), file(13, 1, "g", "h"), file(11, 1, "z", "z"))
	isNext(t, "gathered", of(ranges("e-f", "d-e", "f-g"), lower), usual, "0: 1 2 3 | 14 12 13, c to h, bottom")
	// What Lower widens the keys by gathers nothing: 2 overlaps 14, but not 1.
	isNext(t, "not gathered", of(ranges("e-f", "a-c"), files(file(14, 1, "b", "e"), file(12, 1, "z", "z"))), usual, "0: 1 | 14, b to f, bottom")
}

func TestLowerOfManyFiles(t *testing.T) {
	v := of(nil, files(file(1, 1<<24, key(0), key(99999))), row(2, 9999, 1))
	j := next(t, v, usual)
	if j.Level != 1 || numbers(j.Upper) != "1" || toldFiles(j.Lower) != toldFiles(v.Levels[2]) || !j.Bottom {
		t.Errorf("all of the next level: %s", shortly(told(j)))
	}
}

// What is told of a file is all of it.
func TestFilesAreToldWhole(t *testing.T) {
	up := api.File{Number: 3, Size: 1 << 24, Least: []byte("k"), Most: []byte("l\x00"), Entries: 77, MostSeq: 1<<56 - 1}
	low := api.File{Number: 9, Size: 0, Least: []byte("kk"), Most: []byte{255}, Entries: 1 << 24}
	for level := range 4 {
		levels := make([][]api.File, 5)
		levels[level], levels[level+1] = files(up), files(low)
		j := next(t, of(levels...), api.PickSetup{Trigger: 1, Base: 1, Factor: 2})
		if toldFiles(j.Upper) != toldFiles(files(up)) || toldFiles(j.Lower) != toldFiles(files(low)) || string(j.Least) != "k" || string(j.Most) != "\xff" {
			t.Errorf("level %d: %s", level, told(j))
		}
	}
}

// Keys are bytes, and as long as they may be.
func TestKeysOfAJob(t *testing.T) {
	long := func(first byte) string { return string(append([]byte{first}, make([]byte, 4095)...)) }
	v := of(
		files(file(1, 1, "\x00", long(0)), file(2, 1, "\x7f", "\x80"), file(3, 1, "\x00\x00", "\x7f\xff"), file(4, 1, "\x80\x00", long(0x81))),
		files(file(5, 1, long(0x7f), "\x7f\xfe"), file(6, 1, long(0x80), "\x80\xff")),
	)
	j := next(t, v, usual)
	if numbers(j.Upper) != "1 2 3" || numbers(j.Lower) != "5" || string(j.Least) != "\x00" || string(j.Most) != "\x80" {
		t.Errorf("%s", shortly(told(j)))
	}
}

// P14.2, Bottom

func TestBottom(t *testing.T) {
	// The job's keys are from f to m: of Upper from h to k, wider with Lower.
	for _, c := range []struct {
		least, most string
		overlaps    bool
	}{
		{"a", "e", false}, {"n", "z", false}, {"a", "f", true}, {"m", "z", true}, {"f", "f", true}, {"m", "m", true}, {"a", "z", true},
		{"g", "g", true}, {"l", "l", true}, {"i", "i", true}, {"e\xff", "e\xff", false}, {"m\x00", "n", false}, {"e\xff", "f", true},
		{"f", "m", true}, {"h", "k", true},
	} {
		for level := range 4 {
			for deeper := range 5 {
				if deeper == level || deeper == level+1 {
					continue
				}
				levels := make([][]api.File, 5)
				levels[level], levels[level+1] = files(file(1, 1<<20, "h", "k")), files(file(2, 1, "f", "h"), file(3, 1, "k", "m"))
				levels[deeper] = append(levels[deeper], file(4, 1, c.least, c.most))
				want := fmt.Sprintf("%d: 1 | 2 3, f to m", level)
				if deeper < level || !c.overlaps {
					want += ", bottom"
				}
				s := api.PickSetup{Trigger: 2, Base: 100, Factor: 10}
				if level == 0 {
					s = api.PickSetup{Trigger: 1, Base: 1 << 30, Factor: 2}
				}
				isNext(t, fmt.Sprintf("%s to %s on level %d", c.least, c.most, deeper), of(levels...), s, want)
			}
		}
	}
}

// Files of the next level that are not in Lower, and of the level itself, do
// not count for Bottom, nor does a gap between the files of a deeper level.
func TestBottomOfFilesThatDoNotCount(t *testing.T) {
	v := of(ranges("c-d", "e-f"), files(file(7, 1, "a", "b"), file(8, 1, "x", "z")), nil, files(file(9, 1, "a", "b")), files(file(10, 1, "e", "z")))
	isNext(t, "beside", v, usual, "0: 1 | , c to d, bottom")
	v = of(nil, nil, nil, files(file(1, 1<<24, "a", "z")), files(file(2, 1, "a", "c"), file(3, 1, "x", "z")))
	isNext(t, "the last levels", v, usual, "3: 1 | 2 3, a to z, bottom")
	v = of(nil, files(file(1, 1<<24, "d", "e")), nil, files(file(4, 1, "a", "c"), file(3, 1, "f", "z")))
	isNext(t, "within a gap", v, usual, "1: 1 | , d to e, bottom")
}

// All calls, held against the chapter's words

func TestNextAsTold(t *testing.T) {
	s := source(2)
	count := map[string]int{}
	for range 30000 {
		v, setup := s.version(), s.setup()
		got, e := pick.Next(v, setup)
		want, wantE := plainNext(v, setup)
		if e != wantE || told(got) != told(want) {
			t.Fatalf("Next of %s, %v: %s, %d; want %s, %d", toldVersion(v), setup, told(got), e, told(want), wantE)
		}
		count[fmt.Sprint("error ", e)]++
		if e == api.OK {
			count[fmt.Sprint("level ", got.Level)]++
			count[fmt.Sprint("bottom ", got.Bottom)]++
			count[fmt.Sprint("upper ", min(len(got.Upper), 3))]++
			count[fmt.Sprint("lower ", min(len(got.Lower), 3))]++
		}
	}
	for _, what := range []string{
		"error 0", "error 2", "error 6", "level 0", "level 1", "level 2", "level 3", "bottom true", "bottom false",
		"upper 1", "upper 2", "upper 3", "lower 0", "lower 1", "lower 2", "lower 3",
	} {
		if count[what] < 300 {
			t.Errorf("what was drawn is one-sided: %s %d times", what, count[what])
		}
	}
}
