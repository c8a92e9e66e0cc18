package lsm_test

import (
	"fmt"
	"math/rand/v2"
	"testing"

	"bootprint/api"
)

// P16.7: behind any error what is told is the same, or an error.

// An error of the disk at each place of the script; the engine goes on with
// reads, and is opened anew, with a crash between, or without.
func TestFaultAtEveryPlace(t *testing.T) {
	t.Parallel()
	for place, ended := 0, false; !ended; place++ {
		ended = true
		for _, want := range []api.Errno{api.ErrIO, api.ErrFull} {
			for dir := range 6 {
				g := keep(t, fmt.Sprintf("fault %d at %d, %d", want, place, dir), fresh(t), busy())
				fine(t, g.f.Fault(place, want))
				for _, step := range script(g) {
					x := step()
					if x == api.OK {
						continue
					}
					ended = false
					refused(t, g.what, x, want)
					if g.e != nil && g.e.ReadOnly() {
						stopped(t, g.what, g.e, g.f)
						g.fits()
					}
					break
				}
				fine(t, g.f.Fault(-1, want))
				if dir > 0 {
					fine(t, g.f.Crash(dir-1, keeps(dir*17)))
				}
				g.up()
				g.on()
				fine(t, g.f.Crash(dir, keeps(dir*9)))
				g.up()
			}
		}
	}
}

// An error within the Open that is behind the first one, without a crash.
func TestFaultWithinOpen(t *testing.T) {
	t.Parallel()
	for place := 0; ; place += 3 {
		ended := true
		for within, isOpen := 0, false; !isOpen; within++ {
			g := keep(t, fmt.Sprintf("fault at %d, then at %d", place, within), fresh(t), busy())
			fine(t, g.f.Fault(place, api.ErrIO))
			for _, step := range script(g) {
				if x := step(); x != api.OK {
					refused(t, g.what, x, api.ErrIO)
					ended = false
					break
				}
			}
			fine(t, g.f.Fault(within, api.ErrFull))
			x := g.open()
			if isOpen = x == api.OK; !isOpen {
				refused(t, g.what, x, api.ErrFull)
			}
			fine(t, g.f.Fault(-1, api.ErrIO))
			if within%2 == 0 {
				fine(t, g.f.Crash(within%5, keeps(within)))
			}
			g.up()
			g.on()
			fine(t, g.f.Crash(within%3, keeps(within)))
			g.up()
		}
		if ended {
			return
		}
	}
}

// Reads while the disk fails tell the same, or an error.
func TestReadsWhileTheDiskFails(t *testing.T) {
	failed := 0
	for seed := range uint64(40) {
		r := rand.New(rand.NewPCG(seed, 167))
		g := keep(t, fmt.Sprintf("seed %d", seed), fresh(t), drawnSetup(r))
		fine(t, g.open())
		for range 60 {
			fine(t, g.write(drawnBatch(r)...), g.work())
		}
		for n := range 30 {
			fine(t, g.f.Fault(n, api.ErrIO))
			failed += g.sees(g.last, g.now, true)
			fine(t, g.f.Fault(-1, api.ErrIO))
		}
		fine(t, g.f.Fuse(r.IntN(9)))
		failed += g.sees(g.last, g.now, true)
		if g.e.ReadOnly() {
			t.Errorf("%s: reads make it read-only", g.what)
		}
		fine(t, g.f.Crash(0, nil))
		g.fits()
		fine(t, g.write(set("a", "x")), g.rest())
		g.fits()
	}
	if failed < 1000 {
		t.Errorf("%d reads failed: too few", failed)
	}
}

// Any byte of any file, turned.
func TestBytesThatAreTurned(t *testing.T) {
	g := keep(t, "turned", fresh(t), busy())
	for _, step := range script(g) {
		fine(t, step())
	}
	// Something on level 0, something frozen, something in memory.
	fine(t, g.write(set("a", long("a")), gone("c")), g.work(), g.work(), g.snapshot())
	fine(t, g.write(set("b", long("b")), set("c", "c")), g.work(), g.write(gone("b"), set("m", "m")))
	g.fits()
	v := g.e.Version()
	if open, frozen := g.e.Memory(); open == 0 || frozen == 0 || len(v.Levels[0]) == 0 || len(v.Levels[1])+len(v.Levels[2]) == 0 {
		t.Fatalf("%s, Memory %d, %d", levels(v), open, frozen)
	}
	failed, refusals := 0, 0
	for _, name := range g.f.Names() {
		for at := range g.f.Size(name) {
			for _, bits := range []byte{1, 128, 255} {
				g.what = fmt.Sprintf("%s, byte %d, bits %d", name, at, bits)
				fine(t, g.f.Turn(name, at, bits))
				failed += g.sees(g.last, g.now, true)
				for seq, m := range g.then {
					failed += g.sees(seq, m, true)
				}
				refusals += g.other(t)
				fine(t, g.f.Turn(name, at, bits))
			}
		}
	}
	g.what = "turned back"
	g.fits()
	if failed < 1000 || refusals < 1000 {
		t.Errorf("%d reads failed, %d could not be opened: too few", failed, refusals)
	}
	g.up()
}

// other opens another engine on a disk that has the same files: the first one's
// stays as it is.
func (g *ledger) other(t *testing.T) (refusals int) {
	t.Helper()
	twin := *g
	twin.f = fresh(t)
	for _, name := range g.f.Names() {
		put(t, twin.f, name, content(t, g.f, name))
	}
	if x := twin.open(); x != api.OK {
		refused(t, g.what, x, api.ErrBad)
		return 1
	}
	if twin.e.Seq() != g.last {
		t.Fatalf("%s: Seq %d, want %d", g.what, twin.e.Seq(), g.last)
	}
	twin.sees(g.last, g.now, true)
	return 0
}

// A step of work on files of which a byte is turned is ErrBad, or does the same.
func TestWorkOnBytesThatAreTurned(t *testing.T) {
	lay := func() *ledger {
		g := keep(t, "turned", fresh(t), quiet())
		fine(t, g.open(), g.write(set("a", long("1")), set("b", "2")), g.rest())
		fine(t, g.write(gone("a"), set("c", long("3")), set("d", long("4"))), g.rest())
		g.s = busy()
		fine(t, g.open())
		return g
	}
	first := lay()
	for _, name := range []string{tableName(1), tableName(2)} {
		bad := 0
		for at := range first.f.Size(name) {
			g := lay()
			g.what = fmt.Sprintf("%s, byte %d", name, at)
			fine(t, g.f.Turn(name, at, 16))
			x := g.work()
			if x != api.OK {
				refused(t, g.what, x, api.ErrBad)
				stopped(t, g.what, g.e, g.f)
				bad++
				g.sees(g.last, g.now, true)
				continue
			}
			g.fits()
		}
		if bad < 20 {
			t.Errorf("%s: %d were bad: too few", name, bad)
		}
	}
}

// A disk that is too small, of each size.
func TestADiskWithoutRoom(t *testing.T) {
	full := 0
	for limit := 0; limit < 3000; limit += 37 {
		r := rand.New(rand.NewPCG(uint64(limit), 1670))
		g := keep(t, fmt.Sprintf("%d bytes", limit), roomOf(t, limit), busy())
		x := g.open()
		for i := 0; x == api.OK && i < 200; i++ {
			if x = g.write(drawnBatch(r)...); x == api.OK {
				x = g.work()
			}
		}
		if x == api.OK {
			continue
		}
		refused(t, g.what, x, api.ErrFull)
		full++
		if g.e == nil {
			continue
		}
		stopped(t, g.what, g.e, g.f)
		g.fits()
		// Opened anew it has what it had, if it can be opened at all.
		if x := g.open(); x != api.OK {
			refused(t, g.what, x, api.ErrFull)
			continue
		}
		g.settle()
	}
	if full < 20 {
		t.Errorf("%d were full: too few", full)
	}
}
