package manifest_test

import (
	"fmt"
	"math/rand/v2"
	"slices"
	"testing"

	"bootprint/api"
	"bootprint/manifest"
	"bootprint/version"
	"bootprint/vfs"
)

// P13.3

// ledger is a manifest, its disk, and what was done: what must be told behind a
// crash.
type ledger struct {
	f *vfs.Fs
	m *manifest.Manifest
	v api.Version // of all edits whose Append answered OK
	// maybe is the version with the edit that was being appended when the disk
	// went off, if one was.
	maybe []api.Version
}

func newLedger(t *testing.T) *ledger {
	t.Helper()
	return &ledger{f: fresh(t), v: version.First()}
}

func (g *ledger) append(e api.Edit) api.Errno {
	v, err := version.Apply(g.v, e)
	if err != api.OK {
		panic("an edit of the test can't be applied")
	}
	err = g.m.Append(e)
	if err == api.OK {
		g.v = v
	} else {
		g.maybe = []api.Version{v}
	}
	return err
}

func (g *ledger) open() api.Errno {
	m, e := manifest.Open(g.f)
	if e == api.OK {
		g.m = m
		if told(m.Version()) != told(g.v) {
			panic("Open tells " + told(m.Version()) + "; want " + told(g.v))
		}
	}
	return e
}

func (g *ledger) roll() api.Errno { return g.m.Roll() }

// leave lays files that an earlier crash may have left: they are in the way of
// the next roll.
func (g *ledger) leave() api.Errno {
	for _, name := range []string{manifest.Name(g.m.Number() + 1), "current.tmp"} {
		for _, e := range []api.Errno{g.f.Create(name), g.f.Append(name, []byte("left"))} {
			if e != api.OK {
				return e
			}
		}
	}
	return g.f.SyncDir()
}

// fits fails unless the version is that of all edits whose Append answered, or
// that with the one that was being appended.
func (g *ledger) fits(t *testing.T, what string, m *manifest.Manifest) {
	t.Helper()
	got := told(m.Version())
	for _, v := range append(slices.Clone(g.maybe), g.v) {
		if told(v) == got {
			return
		}
	}
	t.Fatalf("%s: Open tells %s; want %s", what, got, told(g.v))
}

// up opens the manifest behind a crash, and goes on from what it tells.
func (g *ledger) up(t *testing.T, what string) {
	t.Helper()
	m, e := manifest.Open(g.f)
	if m == nil || e != api.OK {
		t.Fatalf("%s: Open: %v, %d", what, m, e)
	}
	g.fits(t, what, m)
	g.m, g.v, g.maybe = m, m.Version(), nil
}

// again fails unless Open tells the same version once more.
func (g *ledger) again(t *testing.T, what string) {
	t.Helper()
	if m, e := manifest.Open(g.f); m == nil || e != api.OK || told(m.Version()) != told(g.v) {
		t.Fatalf("%s: Open tells %v, %d; want %s", what, m, e, told(g.v))
	} else {
		g.m = m
	}
}

// struck ends the test unless e is the error that was set: what goes on from
// there would have no end.
func struck(t *testing.T, what string, e, want api.Errno) {
	t.Helper()
	if e != want {
		t.Fatalf("%s: %d, want %d", what, e, want)
	}
}

// keeps tells so many times k.
func keeps(k int) []int {
	return slices.Repeat([]int{k}, 8)
}

// script is one with everything in it.
func script(g *ledger) []func() api.Errno {
	var steps []func() api.Errno
	do := func(l ...func() api.Errno) { steps = append(steps, l...) }
	do(g.open)
	for i, e := range some() {
		do(func() api.Errno { return g.append(e) })
		switch i {
		case 1:
			do(g.roll)
		case 2:
			do(g.open, g.leave, g.roll, g.roll)
		case 4:
			do(g.roll, g.open)
		}
	}
	do(g.roll)
	return steps
}

// crashed answers a ledger whose disk went off at the place of the script, and
// crashed; and whether it was at its end.
func crashed(t *testing.T, place, dir, keep int) (g *ledger, ended bool) {
	t.Helper()
	g = newLedger(t)
	fine(t, g.f.Fuse(place))
	ended = true
	for _, step := range script(g) {
		if e := step(); e != api.OK {
			struck(t, "a step of the script", e, api.ErrOff)
			ended = false
			break
		}
	}
	fine(t, g.f.Crash(dir, keeps(keep)))
	return g, ended
}

func TestCrashAtEveryPlace(t *testing.T) {
	for place := 0; ; place++ {
		allEnded := true
		for dir := range 6 {
			for _, keep := range []int{0, 1, 7, 8, 9, 12, 20, 21, 22, 30, 38, 1 << 20} {
				what := fmt.Sprintf("crash at %d, %d, %d", place, dir, keep)
				g, ended := crashed(t, place, dir, keep)
				allEnded = allEnded && ended
				g.up(t, what)
				// A second crash, without anything written between.
				fine(t, g.f.Crash(dir+keep, keeps(keep)))
				g.again(t, what+", a second one")
				fine(t, g.f.Crash(0, nil))
				g.again(t, what+", a third one")
				// It goes on from there.
				fine(t, g.append(adds(g.v.Next+1)), g.roll(), g.append(adds(g.v.Next+1)), g.f.Crash(dir, keeps(keep)))
				g.up(t, what+", gone on")
			}
		}
		if allEnded {
			return
		}
	}
}

// The edit that is being appended is told wholly, or not at all, whatever part
// of it is kept.
func TestCrashWithinAppend(t *testing.T) {
	for _, e := range []api.Edit{
		adds(3),
		{Next: 2, Seq: 1, Drops: []api.Drop{drop(0, 1)}},
		{Next: 900, Drops: []api.Drop{drop(0, 1)}, Adds: rising(4, 100, 30)},
	} {
		row := rowOf(e)
		for keep := range len(row) + 1 {
			m, f := begun(t, adds(2))
			fine(t, f.Fuse(1))
			refused(t, "Append", m.Append(e), api.ErrOff)
			tells(t, "off", m, f, made(t, adds(2)), 1)
			fine(t, f.Crash(0, []int{0, keep}))
			what := fmt.Sprintf("%d of %d bytes kept", keep, len(row))
			switch keep {
			case 0:
				opened(t, what, f, made(t, adds(2)), 1)
			case len(row):
				opened(t, what, f, made(t, adds(2), e), 1)
			default:
				opened(t, what, f, made(t, adds(2)), 2)
				named(t, f, "current", second)
			}
		}
	}
}

// A second crash within the Open that is behind the first one, at each
// operation of it.
func TestCrashWithinOpen(t *testing.T) {
	places := 0
	for ended := false; !ended; places++ {
		_, ended = crashed(t, places, 0, 0)
	}
	for place := range places {
		for dir := range 6 {
			for _, keep := range []int{0, 1, 9, 22, 1 << 20} {
				for within := 0; ; within++ {
					what := fmt.Sprintf("crash at %d, %d, %d, then at %d", place, dir, keep, within)
					g, _ := crashed(t, place, dir, keep)
					fine(t, g.f.Fuse(within))
					m, e := manifest.Open(g.f)
					if e == api.OK {
						g.fits(t, what, m)
						g.v, g.maybe = m.Version(), nil
					} else if e != api.ErrOff || m != nil {
						t.Fatalf("%s: Open: %v, %d", what, m, e)
					}
					fine(t, g.f.Crash(place+within, keeps(keep+within)))
					g.up(t, what)
					fine(t, g.f.Crash(within, keeps(keep)))
					g.again(t, what+", a third crash")
					fine(t, g.append(adds(g.v.Next+1)), g.f.Crash(0, nil))
					g.up(t, what+", gone on")
					if e == api.OK {
						break
					}
				}
			}
		}
	}
}

// An error of the disk at each place, then a crash: what was answered stays.
func TestFaultThenCrash(t *testing.T) {
	for place, ended := 0, false; !ended; place++ {
		ended = true
		for dir := range 6 {
			for _, keep := range []int{0, 1, 9, 22, 1 << 20} {
				g := newLedger(t)
				fine(t, g.f.Fault(place, api.ErrIO))
				for _, step := range script(g) {
					if e := step(); e != api.OK {
						struck(t, "a step of the script", e, api.ErrIO)
						ended = false
						break
					}
				}
				what := fmt.Sprintf("fault at %d, crash of %d, %d", place, dir, keep)
				fine(t, g.f.Crash(dir, keeps(keep)))
				g.up(t, what)
				fine(t, g.append(adds(g.v.Next+1)), g.f.Crash(dir, keeps(keep)))
				g.up(t, what+", gone on")
			}
		}
	}
}

// Long lives with crashes at places that hang on a seed's numbers.
func TestLivesWithCrashes(t *testing.T) {
	for seed := range uint64(300) {
		r := rand.New(rand.NewPCG(seed, 13))
		g := newLedger(t)
		drawn := func() []int {
			return []int{r.IntN(90), r.IntN(90), r.IntN(90), r.IntN(90), r.IntN(90)}
		}
		for fine(t, g.f.Fuse(r.IntN(60))); ; fine(t, g.f.Fuse(r.IntN(60))) {
			e := g.open()
			if e == api.OK {
				break
			}
			struck(t, "Open", e, api.ErrOff)
			fine(t, g.f.Crash(r.IntN(7), drawn()))
		}
		for i := range 150 {
			var e api.Errno
			switch r.IntN(8) {
			case 0:
				e = g.roll()
			case 1:
				e = g.open()
			default:
				e = g.append(drawnEdit(r, g.v))
			}
			if e == api.OK {
				continue
			}
			struck(t, "a step of life", e, api.ErrOff)
			what := fmt.Sprintf("seed %d, step %d", seed, i)
			fine(t, g.f.Crash(r.IntN(7), drawn()), g.f.Fuse(r.IntN(16)))
			if m, e := manifest.Open(g.f); e == api.OK {
				g.fits(t, what, m)
				g.v, g.maybe = m.Version(), nil
			}
			fine(t, g.f.Crash(r.IntN(7), drawn()))
			g.up(t, what)
			fine(t, g.f.Fuse(r.IntN(60)))
		}
	}
}

// drawnEdit draws an edit that can be applied to v: files of level 0 come, go,
// or all go down to a level that has none.
func drawnEdit(r *rand.Rand, v api.Version) api.Edit {
	e := api.Edit{Next: v.Next, Seq: v.Seq + uint64(r.IntN(99)), Log: v.Log + uint64(r.IntN(2))}
	top := v.Levels[0]
	switch {
	case len(top) > 0 && r.IntN(4) == 0:
		e.Drops = []api.Drop{drop(0, top[r.IntN(len(top))].Number)}
	case len(top) > 3:
		level := 1 + r.IntN(4)
		for _, f := range top {
			e.Drops = append(e.Drops, drop(0, f.Number))
		}
		for _, f := range v.Levels[level] {
			e.Drops = append(e.Drops, drop(level, f.Number))
		}
		e.Adds = []api.Add{add(level, file(e.Next, "a", "n")), add(level, file(e.Next+1, "o", "z"))}
		e.Next += 2
	default:
		for range r.IntN(3) {
			e.Adds = append(e.Adds, add(0, file(e.Next, "abcdef"[:1+r.IntN(6)], "xyzxyz"[:1+r.IntN(6)])))
			e.Next += 1 + uint64(r.IntN(2))
		}
	}
	return e
}
