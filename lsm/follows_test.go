package lsm_test

import (
	"fmt"
	"math/rand/v2"
	"strings"
	"testing"

	"bootprint/api"
	"bootprint/pick"
)

// P16.5: the engine is a map.

func TestTheEngineIsAMap(t *testing.T) {
	t.Parallel()
	deepest := 0
	for seed := range uint64(120) {
		r := rand.New(rand.NewPCG(seed, 165))
		g := keep(t, fmt.Sprintf("seed %d", seed), fresh(t), drawnSetup(r))
		fine(t, g.open())
		for i := range 300 {
			g.what = fmt.Sprintf("seed %d, act %d", seed, i)
			fine(t, g.act(r))
			if i%7 == 0 {
				g.fits()
			}
		}
		fine(t, g.rest())
		g.fits()
		for level, l := range g.e.Version().Levels {
			if len(l) > 0 {
				deepest = max(deepest, level)
			}
		}
	}
	if deepest < 4 {
		t.Errorf("files came to level %d: not down", deepest)
	}
}

// The same batches, whatever work is done between them, make the same map.
func TestWorkChangesNothing(t *testing.T) {
	for seed := range uint64(20) {
		var want string
		for way := range uint64(6) {
			r := rand.New(rand.NewPCG(seed, 1650))
			s := drawnSetup(r)
			busy := rand.New(rand.NewPCG(seed, way))
			g := keep(t, fmt.Sprintf("seed %d, way %d", seed, way), fresh(t), s)
			fine(t, g.open())
			for range 150 {
				fine(t, g.write(drawnBatch(r)...))
				for way > 0 && busy.IntN(6) < int(way) {
					fine(t, g.work())
				}
			}
			g.fits()
			got := sees(t, g.what, g.e, g.last) // with each entry's number
			if want == "" {
				want = got
			}
			if got != want {
				t.Errorf("%s: %s, want %s", g.what, got, want)
			}
		}
	}
}

// Snapshots see what was, through everything that comes.
func TestManySnapshots(t *testing.T) {
	t.Parallel()
	for seed := range uint64(6) {
		r := rand.New(rand.NewPCG(seed, 1651))
		g := keep(t, fmt.Sprintf("seed %d", seed), fresh(t), drawnSetup(r))
		fine(t, g.open())
		for i := range 400 {
			fine(t, g.write(drawnBatch(r)...))
			if x := g.snapshot(); x != api.OK {
				refused(t, "Snapshot", x, api.ErrBusy)
				fine(t, g.release(r.IntN(40)))
			}
			fine(t, g.work(), g.work())
			if i%10 == 0 {
				g.fits()
			}
		}
		if len(g.then) < 20 {
			t.Errorf("%d snapshots: too few", len(g.then))
		}
		g.fits()
	}
}

// Many keys and much work.
func TestALongLife(t *testing.T) {
	s := api.Setup{
		Buffer: 2000,
		Pick:   api.PickSetup{Trigger: 4, Base: 8000, Factor: 4},
		Table:  api.TableSetup{Block: 512, Bits: 10},
		Target: 2000,
	}
	g := keep(t, "a long life", fresh(t), s)
	fine(t, g.open())
	r := rand.New(rand.NewPCG(16, 5))
	for i := range 4000 {
		var l []api.Write
		for range 1 + r.IntN(5) {
			key := fmt.Sprintf("key%04d", r.IntN(1500))
			if r.IntN(4) == 0 {
				l = append(l, gone(key))
			} else {
				l = append(l, set(key, strings.Repeat("v", r.IntN(40))))
			}
		}
		fine(t, g.write(l...), g.work())
		if i%1000 == 999 {
			g.fits()
			fine(t, g.open())
			g.fits()
		}
	}
	fine(t, g.rest())
	g.fits()
	deep := g.e.Version().Levels[3]
	if len(deep) == 0 {
		t.Errorf("%s", levels(g.e.Version()))
	}
}

// P16.8: work ends.

func TestWorkEnds(t *testing.T) {
	for seed := range uint64(150) {
		r := rand.New(rand.NewPCG(seed, 168))
		g := keep(t, fmt.Sprintf("seed %d", seed), fresh(t), drawnSetup(r))
		fine(t, g.open())
		for range r.IntN(120) {
			fine(t, g.write(drawnBatch(r)...))
			if r.IntN(3) == 0 {
				fine(t, g.work())
			}
		}
		fine(t, g.rest())
		open, frozen := g.e.Memory()
		if !g.e.Idle() || !pick.Rest(g.e.Version(), g.s.Pick) || open >= g.s.Buffer || frozen != 0 {
			t.Fatalf("%s: Idle %t, %s, Memory %d, %d", g.what, g.e.Idle(), levels(g.e.Version()), open, frozen)
		}
		for level, l := range g.e.Version().Levels {
			bytes := 0
			for _, f := range l {
				bytes += f.Size
			}
			bound := pick.Bound(g.s.Pick, level)
			if level == 0 && len(l) >= bound || level > 0 && level < 4 && bytes >= bound {
				t.Errorf("%s: level %d has %d files, %d bytes; its bound is %d", g.what, level, len(l), bytes, bound)
			}
		}
		// At rest nothing is done, and it stays so when it is opened anew.
		ops, disk := g.f.Ops(), likeness(g.f)
		for range 3 {
			fine(t, g.work())
		}
		took(t, g.what, g.f, ops, 0)
		if likeness(g.f) != disk {
			t.Errorf("%s: the disk has %s, had %s", g.what, likeness(g.f), disk)
		}
		fine(t, g.open())
		if !g.e.Idle() {
			t.Errorf("%s: opened anew it has work", g.what)
		}
		g.fits()
		// No file lies there that the version has not.
		files := 0
		for _, l := range g.e.Version().Levels {
			files += len(l)
		}
		for _, name := range g.f.Names() {
			if strings.HasPrefix(name, "table-") {
				files--
			}
		}
		if files != 0 {
			t.Errorf("%s: %q, %s", g.what, g.f.Names(), levels(g.e.Version()))
		}
	}
}
