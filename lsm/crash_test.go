package lsm_test

import (
	"fmt"
	"math/rand/v2"
	"slices"
	"testing"

	"bootprint/api"
)

// P16.6: behind a crash anywhere all is there that was answered, each batch
// wholly, and perhaps the one that was being written.

// busy is a setup in which each kind of work comes soon.
func busy() api.Setup {
	s := small()
	s.Pick = api.PickSetup{Trigger: 2, Base: 150, Factor: 2}
	s.Target = 64
	return s
}

// script is a life with everything in it.
func script(g *ledger) []func() api.Errno {
	var steps []func() api.Errno
	do := func(l ...func() api.Errno) { steps = append(steps, l...) }
	write := func(l ...api.Write) func() api.Errno {
		return func() api.Errno { return g.write(l...) }
	}
	do(g.open, write(set("a", "1")), write(set("b", long("2")), gone("c"), set("a", "3")))
	do(g.work, write(set("d", "4")), g.work, write(set("a", long("5"))), g.snapshot)
	do(g.work, write(gone("a"), set("c", long("6"))), g.work, g.work, g.work)
	do(g.open, write(set("b", "7")), g.work, g.work, g.work, g.work)
	do(write(gone("b"), set("e", long("8"))), g.rest, write(set("a", long("9")), set("c", "9"), gone("d")), g.work)
	do(g.open, g.work, write(gone("e"), set("b", long("0"))), g.rest, write(set("d", "10")), g.open)
	return steps
}

// crashed answers a ledger whose disk went off at the place of the script, and
// crashed; and whether it was at its end.
func crashed(t *testing.T, place, dir, keeping int) (g *ledger, ended bool) {
	t.Helper()
	g = keep(t, fmt.Sprintf("crash at %d, %d, %d", place, dir, keeping), fresh(t), busy())
	fine(t, g.f.Fuse(place))
	ended = true
	for _, step := range script(g) {
		if x := step(); x != api.OK {
			refused(t, g.what, x, api.ErrOff)
			ended = false
			break
		}
	}
	fine(t, g.f.Crash(dir, keeps(keeping)))
	return g, ended
}

// keeps tells so many times k.
func keeps(k int) []int {
	return slices.Repeat([]int{k}, 12)
}

// on goes on with a life from where the ledger is.
func (g *ledger) on() {
	g.t.Helper()
	fine(g.t, g.write(set("f", long("f")), gone("a")), g.rest(), g.write(set("a", "g")))
	g.fits()
}

func TestCrashAtEveryPlace(t *testing.T) {
	t.Parallel()
	for place := 0; ; place++ {
		allEnded := true
		for _, dir := range []int{0, 1, 2, 5} {
			for _, keeping := range []int{0, 1, 30, 1 << 20} {
				g, ended := crashed(t, place, dir, keeping)
				allEnded = allEnded && ended
				g.up()
				// A second crash, with nothing written between.
				fine(t, g.f.Crash(dir+keeping, keeps(keeping)))
				g.up()
				// It goes on from there.
				g.on()
				fine(t, g.f.Crash(dir, keeps(keeping)))
				g.up()
			}
		}
		if allEnded {
			return
		}
	}
}

// Whatever part of the batch is kept, it is told wholly, or not at all.
func TestCrashWithinWrite(t *testing.T) {
	l := []api.Write{set("a", "new"), gone("b"), set("c", long("new"))}
	row := framed(1, batchBytes(3, l...))
	for keeping := range len(row) + 1 {
		g := keep(t, fmt.Sprintf("%d of %d bytes", keeping, len(row)), fresh(t), small())
		fine(t, g.open(), g.write(set("a", "old"), set("b", "old")), g.f.Fuse(1))
		refused(t, "Write", g.write(l...), api.ErrOff)
		fine(t, g.f.Crash(0, []int{0, 0, keeping}))
		g.up()
		if isThere := g.last == 5; isThere != (keeping == len(row)) {
			t.Errorf("%s: Seq %d", g.what, g.last)
		}
		g.on()
	}
}

// A second crash within the Open that is behind the first one, at each
// operation of it.
func TestCrashWithinOpen(t *testing.T) {
	t.Parallel()
	places := 0
	for ended := false; !ended; places++ {
		_, ended = crashed(t, places, 0, 0)
	}
	r := rand.New(rand.NewPCG(16, 6))
	for place := 0; place < places; place += 2 {
		for within, opened := 0, false; !opened; within++ {
			g, _ := crashed(t, place, r.IntN(6), r.IntN(40))
			g.what += fmt.Sprintf(", then at %d", within)
			fine(t, g.f.Fuse(within))
			x := g.open()
			if opened = x == api.OK; !opened {
				refused(t, g.what, x, api.ErrOff)
			}
			fine(t, g.f.Crash(r.IntN(8), keeps(r.IntN(40))))
			g.up()
			fine(t, g.f.Crash(r.IntN(3), keeps(r.IntN(40))))
			g.up()
			g.on()
		}
	}
}

// Long lives with crashes at places that hang on a seed's numbers.
func TestLivesWithCrashes(t *testing.T) {
	t.Parallel()
	for seed := range uint64(150) {
		r := rand.New(rand.NewPCG(seed, 166))
		drawn := func() []int {
			var l []int
			for range 12 {
				l = append(l, r.IntN(120))
			}
			return l
		}
		g := keep(t, fmt.Sprintf("seed %d", seed), fresh(t), drawnSetup(r))
		fine(t, g.open(), g.f.Fuse(r.IntN(90)))
		for i := range 200 {
			x := g.act(r)
			if x == api.OK {
				continue
			}
			g.what = fmt.Sprintf("seed %d, act %d", seed, i)
			refused(t, g.what, x, api.ErrOff)
			// Perhaps it goes off again while it is opened.
			fine(t, g.f.Crash(r.IntN(9), drawn()), g.f.Fuse(r.IntN(30)))
			if lost := g.open(); lost != api.OK {
				refused(t, g.what, lost, api.ErrOff)
			}
			fine(t, g.f.Crash(r.IntN(9), drawn()))
			g.up()
			fine(t, g.f.Fuse(r.IntN(90)))
		}
	}
}

// Where the setup is another one when it is opened anew, all is there.
func TestAnotherSetupBehindACrash(t *testing.T) {
	for seed := range uint64(60) {
		r := rand.New(rand.NewPCG(seed, 1660))
		g := keep(t, fmt.Sprintf("seed %d", seed), fresh(t), drawnSetup(r))
		fine(t, g.open())
		for range 8 {
			for range 30 {
				fine(t, g.act(r))
			}
			g.s = drawnSetup(r)
			fine(t, g.f.Crash(r.IntN(4), keeps(r.IntN(60))))
			g.up()
		}
		fine(t, g.rest())
		g.fits()
	}
}
