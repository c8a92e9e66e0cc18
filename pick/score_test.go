package pick_test

import (
	"fmt"
	"testing"

	"bootprint/api"
	"bootprint/pick"
	"bootprint/version"
)

// P14.1, Score

func TestScore(t *testing.T) {
	v := of(
		files(file(5, 9, "a", "c"), file(7, 9, "b", "d"), file(8, 9, "x", "z")),
		files(file(3, 50, "c", "c"), file(6, 40, "m", "n")),
		files(file(1, 1<<24, "a", "z")),
		nil,
		files(file(2, 1<<24, "a", "z")),
	)
	scored(t, "some", v, usual, [5]int{150, 90, 1677721, 0, 0})
	scored(t, "the first version", version.First(), usual, [5]int{})
	// It is rounded down.
	thirds := api.PickSetup{Trigger: 3, Base: 3, Factor: 3}
	for n, want := range []int{0, 33, 66, 100, 133, 166, 200} {
		scored(t, fmt.Sprint(n, " files"), at(0, row(1, n, 1)...), thirds, [5]int{want})
		scored(t, fmt.Sprint(n, " bytes"), at(1, file(1, n, "a", "b")), thirds, [5]int{0, want})
		scored(t, fmt.Sprint(3*n, " bytes"), at(2, file(1, 3*n, "a", "b")), thirds, [5]int{0, 0, want})
		scored(t, fmt.Sprint(9*n+8, " bytes"), at(3, file(1, 9*n+8, "a", "b")), thirds, [5]int{0, 0, 0, (9*n + 8) * 100 / 27})
	}
	// The files of level 0 count, whatever bytes they have; of others the bytes,
	// however many files they are.
	scored(t, "files without bytes", of(row(1, 5, 0), row(6, 9, 0)), usual, [5]int{250})
	scored(t, "bytes of level 0", at(0, file(1, 1<<24, "a", "b")), usual, [5]int{50})
	scored(t, "ten files of ten", at(1, row(1, 10, 10)...), usual, [5]int{0, 100})
	scored(t, "level 4", at(4, row(1, 90, 1<<24)...), usual, [5]int{})
}

// atBounds has each look at the levels one below their bound, at it, and one
// above it.
func atBounds(t *testing.T, look func(what string, v api.Version, s api.PickSetup, level, score int)) {
	t.Helper()
	for _, s := range []api.PickSetup{
		usual, {Trigger: 1, Base: 1, Factor: 2}, {Trigger: 100, Base: 99, Factor: 3}, {Trigger: 7, Base: 1000003, Factor: 7}, {Trigger: 50, Base: 1 << 30, Factor: 2},
	} {
		for level := range 4 {
			bound := pick.Bound(s, level)
			for _, n := range []int{bound - 1, bound, bound + 1} {
				l := row(1, n%1000, 1)
				if level > 0 {
					l = sizes(1+n>>24, n)
				}
				look(fmt.Sprintf("%d of %d, level %d", n, bound, level), at(level, l...), s, level, n*100/bound)
			}
		}
	}
}

func TestScoreAtABound(t *testing.T) {
	atBounds(t, func(what string, v api.Version, s api.PickSetup, level, score int) {
		var want [5]int
		want[level] = score
		scored(t, what, v, s, want)
	})
	// One below a bound is below 100, however close.
	v := at(1, sizes(64, 1<<30-1)...)
	scored(t, "one below 2^30", v, never, [5]int{0, 99})
	scored(t, "2^30", at(1, sizes(64, 1<<30)...), never, [5]int{0, 100})
}

func TestScoreOfAsManyAsMayBe(t *testing.T) {
	least := api.PickSetup{Trigger: 1, Base: 1, Factor: 2}
	for level, want := range []int{1000000, 16777216000000, 8388608000000, 4194304000000, 0} {
		v := at(level, row(1, 10000, 1<<24)...)
		scores := [5]int{}
		scores[level] = want
		scored(t, "the least setup", v, least, scores)
		scores[level] = []int{10000, 15625, 156, 1, 0}[level]
		scored(t, "the greatest setup", v, never, scores)
	}
}

func TestScoreOfWhatIsRefused(t *testing.T) {
	v := of(row(1, 9, 500), row(10, 9, 500), row(20, 9, 5000), row(30, 9, 50000), row(40, 9, 500))
	scored(t, "what may be", v, usual, [5]int{450, 4500, 4500, 4500, 0})
	for _, s := range wrongSetups() {
		scored(t, fmt.Sprint("setup ", s), v, s, [5]int{})
	}
	for what, v := range wrongVersions() {
		scored(t, what, v, usual, [5]int{})
		scored(t, what, v, api.PickSetup{}, [5]int{})
	}
}

// wrongVersions answers such as may not be, and would not be at rest.
func wrongVersions() map[string]api.Version {
	wrong := map[string]api.Version{
		"the zero one":      {},
		"files on level 0":  at(0, row(1, 10001, 9)...),
		"files on level 1":  at(1, row(1, 10001, 9)...),
		"files in all":      of(row(1, 5000, 9), row(6000, 5001, 9)),
		"touching":          at(1, file(1, 900, "a", "c"), file(2, 900, "c", "d")),
		"a Number twice":    of(row(1, 3, 900), row(3, 3, 900)),
		"a Number below":    at(0, file(2, 1, "a", "b"), file(1, 1, "a", "b")),
		"a size":            at(1, file(1, 1<<24+1, "a", "b")),
		"no Least":          at(1, file(1, 900, "", "b")),
		"wrong at the deep": of(row(1, 3, 900), row(4, 3, 900), nil, nil, files(file(9, 1, "b", "a"))),
	}
	for what, change := range map[string]func(v *api.Version){
		"Next":       func(v *api.Version) { v.Next = 6 },
		"Next 0":     func(v *api.Version) { v.Next = 0 },
		"Seq":        func(v *api.Version) { v.Seq = 1 << 56 },
		"Log":        func(v *api.Version) { v.Log = 1000000000000 },
		"one list":   func(v *api.Version) { v.Levels = v.Levels[:1] },
		"four lists": func(v *api.Version) { v.Levels = v.Levels[:4] },
		"six lists":  func(v *api.Version) { v.Levels = append(v.Levels, nil) },
		"no list":    func(v *api.Version) { v.Levels = nil },
	} {
		v := of(row(1, 3, 900), row(4, 3, 900))
		change(&v)
		wrong[what] = v
	}
	return wrong
}

// P14.1, Rest

func TestRest(t *testing.T) {
	atBounds(t, func(what string, v api.Version, s api.PickSetup, level, score int) {
		if got := pick.Rest(v, s); got != (score < 100) {
			t.Errorf("%s: %t", what, got)
		}
	})
	for what, v := range map[string]api.Version{
		"the first version": version.First(),
		"one below each":    of(row(1, 1, 1<<24), row(2, 1, 99), row(3, 1, 999), row(4, 1, 9999), row(5, 90, 1<<24)),
		"level 4 alone":     at(4, row(1, 10000, 1<<24)...),
	} {
		if !pick.Rest(v, usual) {
			t.Errorf("%s: not at rest", what)
		}
	}
	// One level is enough.
	for level := range 4 {
		l := [][]api.File{row(1, 1, 1), row(3, 1, 99), row(4, 1, 999), row(5, 1, 9999)}
		l[level] = append(l[level], file(20, 1, "z", "z"))
		if pick.Rest(of(l...), usual) {
			t.Errorf("level %d is full: at rest", level)
		}
	}
}

func TestRestOfWhatIsRefused(t *testing.T) {
	for _, s := range wrongSetups() {
		for _, v := range []api.Version{version.First(), at(4, row(1, 3, 3)...), at(0, row(1, 9, 9)...)} {
			if pick.Rest(v, s) {
				t.Errorf("setup %v: at rest", s)
			}
		}
	}
	wrong := wrongVersions()
	wrong["quiet, but wrong"] = at(4, file(1, -1, "a", "b"))
	wrong["quiet, but Next"] = api.Version{Levels: make([][]api.File, 5)}
	for what, v := range wrong {
		for _, s := range []api.PickSetup{usual, never, {}} {
			if pick.Rest(v, s) {
				t.Errorf("%s: at rest", what)
			}
		}
	}
}

func TestScoreAndRestAsTold(t *testing.T) {
	s := source(1)
	rests := 0
	for range 20000 {
		v, setup := s.version(), s.setup()
		for level := -1; level <= 5; level++ {
			if got, want := pick.Score(v, setup, level), plainScore(v, setup, level); got != want {
				t.Fatalf("Score of %s, %v, level %d: %d, want %d", toldVersion(v), setup, level, got, want)
			}
		}
		got, want := pick.Rest(v, setup), plainRest(v, setup)
		if got != want {
			t.Fatalf("Rest of %s, %v: %t", toldVersion(v), setup, got)
		}
		if got {
			rests++
		}
	}
	if rests < 1000 || rests > 19000 {
		t.Errorf("what was drawn is one-sided: %d of 20000 at rest", rests)
	}
}
