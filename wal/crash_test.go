package wal_test

import (
	"fmt"
	"math/rand/v2"
	"slices"
	"testing"

	"bootprint/api"
	"bootprint/vfs"
	"bootprint/wal"
)

// P5.5

// ledger is a log, its disk, and what was done to it: what must be told behind
// a crash.
type ledger struct {
	f       *vfs.Fs
	l       *wal.Log
	records []api.LogRecord // that were appended, without those that were dropped
	synced  int             // how many of them were synced
	dropped uint64          // segments below may be gone: the log was told to drop them
}

func newLedger(t *testing.T) *ledger {
	t.Helper()
	f := fresh(t)
	return &ledger{f: f, l: opened(t, f, "")}
}

func (g *ledger) append(b string) api.Errno {
	e := g.l.Append([]byte(b))
	if e == api.OK {
		g.records = append(g.records, api.LogRecord{Segment: g.l.Number(), Body: []byte(b)})
	}
	return e
}

func (g *ledger) sync() api.Errno {
	e := g.l.Sync()
	if e == api.OK {
		g.synced = len(g.records)
	}
	return e
}

// begin begins the next segment but so many, with all that was appended synced.
func (g *ledger) begin(behind uint64) api.Errno {
	if g.l.Number() > 0 {
		if e := g.sync(); e != api.OK {
			return e
		}
	}
	return g.l.Begin(g.l.Number() + behind + 1)
}

// drop drops all segments but so many.
func (g *ledger) drop(left int) api.Errno {
	s := g.l.Segments()
	if len(s) <= left {
		return api.OK
	}
	g.dropped = s[len(s)-left]
	e := g.l.Drop(g.dropped)
	if e == api.OK {
		g.forget(g.dropped)
	}
	return e
}

// forget takes the records of segments below n off the ledger.
func (g *ledger) forget(n uint64) {
	gone := slices.IndexFunc(g.records, func(r api.LogRecord) bool { return r.Segment >= n })
	if gone < 0 {
		gone = len(g.records)
	}
	g.records = slices.Clone(g.records[gone:])
	g.synced = max(g.synced-gone, 0)
}

// fits tells whether the records may be what is told behind a crash: those of
// the lowest segments that were being dropped may be gone.
func (g *ledger) fits(got string) bool {
	starts := []uint64{0}
	for _, r := range g.records {
		if r.Segment < g.dropped {
			starts = append(starts, r.Segment+1)
		}
	}
	for _, start := range starts {
		rest := *g
		rest.forget(start)
		for n := rest.synced; n <= len(rest.records); n++ {
			if told(rest.records[:n]) == got {
				return true
			}
		}
	}
	return false
}

// up opens the log behind a crash, and goes on from what it tells.
func (g *ledger) up(t *testing.T, what string) {
	t.Helper()
	l, records, e := wal.Open(g.f)
	if e != api.OK || !g.fits(told(records)) {
		t.Fatalf("%s: Open: %q, %d; appended %q, %d of them synced, dropped below %d", what, told(records), e, told(g.records), g.synced, g.dropped)
	}
	g.l, g.records, g.synced, g.dropped = l, records, len(records), 0
}

// keeps tells so many times k.
func keeps(k int) []int {
	return slices.Repeat([]int{k}, 8)
}

// longer is a script with everything in it, all records synced ahead of a Begin.
func longer(g *ledger) []func() api.Errno {
	add := func(b string) func() api.Errno { return func() api.Errno { return g.append(b) } }
	begin := func(n uint64) func() api.Errno { return func() api.Errno { return g.begin(n) } }
	drop := func(n int) func() api.Errno { return func() api.Errno { return g.drop(n) } }
	open := func() api.Errno {
		l, records, e := wal.Open(g.f)
		if e == api.OK && told(records) != told(g.records) {
			panic("Open tells " + told(records))
		}
		if e == api.OK {
			g.l, g.synced = l, len(records)
		}
		return e
	}
	return []func() api.Errno{
		begin(0), add("one"), add("two"), g.sync, add("three"), g.sync,
		begin(0), add("four"), g.sync, add(""), add("five five five"), g.sync, add("six"),
		begin(200), drop(2), add("seven"), g.sync, add("eight"), open, add("nine"), g.sync,
		begin(0), begin(3), add("ten"), add("eleven"), g.sync, drop(1), drop(1),
		begin(0), begin(0), begin(0), add("twelve"), drop(1), add("thirteen"), g.sync, add("fourteen"), add(""), add("fifteen"),
	}
}

// crashed answers a ledger whose disk went off at the place of the longer
// script, and crashed; and whether it was at its end.
func crashed(t *testing.T, place, dir, keep int) (g *ledger, ended bool) {
	t.Helper()
	g = newLedger(t)
	fine(t, g.f.Fuse(place))
	ended = true
	for _, step := range longer(g) {
		if e := step(); e != api.OK {
			refused(t, "a step of the script", e, api.ErrOff)
			ended = false
			break
		}
	}
	fine(t, g.f.Crash(dir, keeps(keep)))
	return g, ended
}

func TestCrashAtEveryPlace(t *testing.T) {
	for place := 0; ; place++ {
		allEnded := true
		for dir := range 5 {
			for keep := range 45 {
				what := fmt.Sprintf("crash at %d, %d, %d", place, dir, keep)
				g, ended := crashed(t, place, dir, keep)
				allEnded = allEnded && ended
				g.up(t, what)
				want := told(g.records)
				// A second crash, without anything written between.
				fine(t, g.f.Crash(dir+keep, keeps(keep)))
				opened(t, g.f, want)
				fine(t, g.f.Crash(0, nil))
				g.l = opened(t, g.f, want)
				// It goes on from there.
				fine(t, g.begin(0), g.append("goes on"), g.sync(), g.append("torn"), g.f.Crash(0, keeps(keep)))
				g.up(t, what)
			}
		}
		if allEnded {
			return
		}
	}
}

// A second crash while the log is being mended, at each operation of it.
func TestCrashWithinOpen(t *testing.T) {
	for place := range 70 {
		for keep := range 30 {
			want := ""
			for second := 0; ; second++ {
				g, _ := crashed(t, place, 9, keep)
				if second == 0 {
					g.up(t, "the first crash")
					want = told(g.records)
					continue
				}
				fine(t, g.f.Fuse(second-1))
				_, _, e := wal.Open(g.f)
				fine(t, g.f.Crash(place+second, keeps(keep+second)))
				opened(t, g.f, want)
				fine(t, g.f.Crash(second, keeps(1)))
				opened(t, g.f, want)
				if e == api.OK {
					break
				}
				refused(t, "Open", e, api.ErrOff)
			}
		}
	}
}

// Long lives with crashes at places that hang on a seed's numbers.
func TestLivesWithCrashes(t *testing.T) {
	for seed := range uint64(150) {
		r := rand.New(rand.NewPCG(seed, 55))
		g := newLedger(t)
		fine(t, g.f.Fuse(r.IntN(40)))
		for i := range 300 {
			var e api.Errno
			switch r.IntN(10) {
			case 0:
				e = g.begin(uint64(r.IntN(3)))
			case 1:
				e = g.drop(1 + r.IntN(3))
			case 2, 3, 4:
				if g.l.Number() > 0 {
					e = g.sync()
				}
			default:
				if g.l.Number() > 0 {
					e = g.append(fmt.Sprintf("%d of %d", i, seed)[:r.IntN(6)])
				}
			}
			if e == api.OK {
				continue
			}
			refused(t, "a step of life", e, api.ErrOff)
			fine(t, g.f.Crash(r.IntN(6), []int{r.IntN(50), r.IntN(50), r.IntN(50), r.IntN(50)}))
			g.up(t, fmt.Sprintf("seed %d, step %d", seed, i))
			fine(t, g.f.Fuse(r.IntN(40)))
		}
	}
}
