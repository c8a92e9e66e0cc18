package pick_test

import (
	"fmt"
	"testing"

	"bootprint/api"
	"bootprint/pick"
	"bootprint/version"
)

// P14.3

func overlap(a, b api.File) bool {
	return string(a.Most) >= string(b.Least) && string(b.Most) >= string(a.Least)
}

func has(l []api.File, number uint64) bool {
	for _, f := range l {
		if f.Number == number {
			return true
		}
	}
	return false
}

// follows fails unless what the chapter tells of a job holds.
func follows(t *testing.T, v api.Version, j api.Job) {
	t.Helper()
	what := fmt.Sprintf("%s: %s", shortly(toldVersion(v)), shortly(told(j)))
	if len(j.Upper) == 0 {
		t.Fatalf("%s: no file goes", what)
	}
	if j.Level < 0 || j.Level > 3 {
		t.Fatalf("%s: no level below", what)
	}
	for _, f := range j.Upper {
		if !has(v.Levels[j.Level], f.Number) {
			t.Fatalf("%s: %d is not of the level", what, f.Number)
		}
		for _, older := range v.Levels[j.Level] {
			isOlder := j.Level > 0 || older.Number < f.Number
			if isOlder && overlap(older, f) && !has(j.Upper, older.Number) {
				t.Fatalf("%s: %d stays behind", what, older.Number)
			}
		}
	}
	all := api.File{Least: j.Least, Most: j.Most}
	for _, f := range v.Levels[j.Level+1] {
		if has(j.Lower, f.Number) != overlap(f, all) {
			t.Fatalf("%s: %d of the next level", what, f.Number)
		}
	}
}

// together answers the edit that puts a job's files together, as one that goes
// down one level.
func together(v api.Version, j api.Job) api.Edit {
	f := api.File{Number: v.Next, Least: j.Least, Most: j.Most}
	e := api.Edit{Next: v.Next + 1, Seq: v.Seq, Log: v.Log}
	for i, l := range [][]api.File{j.Upper, j.Lower} {
		for _, g := range l {
			e.Drops = append(e.Drops, api.Drop{Level: j.Level + i, Number: g.Number})
			f.Size += g.Size
			f.Entries += g.Entries
			f.MostSeq = max(f.MostSeq, g.MostSeq)
		}
	}
	e.Adds = []api.Add{{Level: j.Level + 1, File: f}}
	return e
}

// What is put together has its place on the level below, and job by job the
// version comes to rest.
func TestJobsComeToRest(t *testing.T) {
	s := source(3)
	jobs := 0
	for range 3000 {
		v, setup := s.version(), s.setup()
		if version.Check(v) != api.OK || pick.CheckSetup(setup) != api.OK {
			continue
		}
		for left := 100; !pick.Rest(v, setup); left-- {
			if left == 0 {
				t.Fatalf("no rest: %s", toldVersion(v))
			}
			j := next(t, v, setup)
			follows(t, v, j)
			w, e := version.Apply(v, together(v, j))
			if e != api.OK {
				t.Fatalf("%s has no place in %s: %d", told(j), toldVersion(v), e)
			}
			jobs++
			v = w
		}
		noNext(t, "at rest", v, setup, api.ErrNone)
		for level := range 4 {
			if n := pick.Score(v, setup, level); n >= 100 {
				t.Fatalf("at rest with a score of %d: %s", n, toldVersion(v))
			}
		}
	}
	if jobs < 3000 {
		t.Errorf("only %d jobs", jobs)
	}
}

func TestWhatFollowsOfDrawnVersions(t *testing.T) {
	s := source(4)
	for range 20000 {
		v := s.version()
		if j, e := pick.Next(v, api.PickSetup{Trigger: 1 + s.below(4), Base: 1 + s.below(200), Factor: 2}); e == api.OK {
			follows(t, v, j)
		}
	}
}

// The chapter's examples

func TestExamplesOfTheChapter(t *testing.T) {
	isNext(t, "level 0: 1 (a to c), 2 (x to z)", at(0, ranges("a-c", "x-z")...), usual, "0: 1 | , a to c, bottom")
	isNext(t, "level 0: 1 (a to c), 2 (b to d), 3 (d to e)", at(0, ranges("a-c", "b-d", "d-e")...), usual, "0: 1 2 3 | , a to e, bottom")
	v := at(1, file(1, 250, "a", "c"))
	scored(t, "level 1: 1 of 250 bytes", v, usual, [5]int{0, 250})
	isNext(t, "level 1: 1 of 250 bytes", v, usual, "1: 1 | , a to c, bottom")
	noNext(t, "level 1: 1 of 99 bytes", at(1, file(1, 99, "a", "c")), usual, api.ErrNone)
}

func ExampleNext() {
	v, _ := version.Apply(version.First(), api.Edit{Next: 5, Seq: 40, Log: 2, Adds: []api.Add{
		{Level: 0, File: api.File{Number: 3, Size: 100, Least: []byte("c"), Most: []byte("k"), Entries: 20, MostSeq: 30}},
		{Level: 0, File: api.File{Number: 4, Size: 100, Least: []byte("a"), Most: []byte("d"), Entries: 20, MostSeq: 40}},
		{Level: 1, File: api.File{Number: 1, Size: 100, Least: []byte("k"), Most: []byte("q"), Entries: 20, MostSeq: 10}},
		{Level: 1, File: api.File{Number: 2, Size: 100, Least: []byte("r"), Most: []byte("z"), Entries: 20, MostSeq: 20}},
	}})
	job, e := pick.Next(v, api.PickSetup{Trigger: 2, Base: 1000, Factor: 10})
	for _, f := range job.Upper {
		fmt.Println("upper", f.Number)
	}
	for _, f := range job.Lower {
		fmt.Println("lower", f.Number)
	}
	fmt.Printf("level %d, %s to %s, %t, %d\n", job.Level, job.Least, job.Most, job.Bottom, e)
	// Output:
	// upper 3
	// upper 4
	// lower 1
	// level 0, a to q, true, 0
}
