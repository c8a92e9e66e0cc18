package lsm_test

import (
	"fmt"
	"maps"
	"math/rand/v2"
	"slices"
	"strings"
	"testing"

	"bootprint/api"
	"bootprint/lsm"
	"bootprint/vfs"
)

// A ledger is an engine, and what was written, as a plain map: what must be
// told of it.
type ledger struct {
	t    *testing.T
	what string
	f    *vfs.Fs
	s    api.Setup
	e    *lsm.Engine
	last uint64
	now  map[string]string
	// then is what the map was at each number that is noted.
	then map[uint64]map[string]string
	// Of a batch that had an error nobody knows whether it was written.
	maybeLast uint64
	maybe     map[string]string // nil, if there is none
}

// keep answers a ledger of a new engine on the disk f.
func keep(t *testing.T, what string, f *vfs.Fs, s api.Setup) *ledger {
	return &ledger{t: t, what: what, f: f, s: s, now: map[string]string{}, then: map[uint64]map[string]string{}}
}

// open opens the engine anew: snapshots are no more.
func (g *ledger) open() api.Errno {
	e, x := lsm.Open(g.f, g.s)
	if (e == nil) != (x != api.OK) {
		g.t.Fatalf("%s: Open: %v, %d", g.what, e, x)
	}
	if x != api.OK {
		return x
	}
	g.e, g.then = e, map[uint64]map[string]string{}
	return api.OK
}

// write writes a batch, and notes what it makes.
func (g *ledger) write(l ...api.Write) api.Errno {
	next := maps.Clone(g.now)
	for _, w := range l {
		if w.Kind == api.WritePut {
			next[string(w.Key)] = string(w.Value)
		} else {
			delete(next, string(w.Key))
		}
	}
	last := g.last + uint64(len(l))
	seq, x := g.e.Write(l)
	switch {
	case x == api.ErrReadOnly:
	case x != api.OK:
		g.maybe, g.maybeLast = next, last
	case seq != last:
		g.t.Fatalf("%s: Write: %d, want %d", g.what, seq, last)
	default:
		g.now, g.last = next, last
	}
	return x
}

// work does a step.
func (g *ledger) work() api.Errno {
	idle := g.e.Idle()
	what, x := g.e.Work()
	if x == api.OK && (what == api.WorkNone) != idle || x != api.OK && what != 0 {
		g.t.Fatalf("%s: Work: %d, %d, Idle %t", g.what, what, x, idle)
	}
	return x
}

// rest does steps till there is none, or one has an error.
func (g *ledger) rest() api.Errno {
	for range 5000 {
		what, x := g.e.Work()
		if x != api.OK || what == api.WorkNone {
			return x
		}
	}
	g.t.Fatalf("%s: work has no end: %s", g.what, levels(g.e.Version()))
	return api.OK
}

func (g *ledger) snapshot() api.Errno {
	seq, x := g.e.Snapshot()
	if x == api.OK {
		if seq != g.last {
			g.t.Fatalf("%s: Snapshot: %d, want %d", g.what, seq, g.last)
		}
		g.then[seq] = maps.Clone(g.now)
	}
	return x
}

// release releases the oldest snapshot but so many.
func (g *ledger) release(n int) api.Errno {
	seqs := slices.Sorted(maps.Keys(g.then))
	if len(seqs) == 0 {
		return api.OK
	}
	seq := seqs[n%len(seqs)]
	x := g.e.Release(seq)
	for x == api.OK && g.e.Release(seq) == api.OK {
	}
	delete(g.then, seq)
	return x
}

// text writes a map.
func text(m map[string]string) string {
	var s strings.Builder
	for _, key := range slices.Sorted(maps.Keys(m)) {
		fmt.Fprintf(&s, "%q=%q ", key, m[key])
	}
	return s.String()
}

// told writes what an engine sees at seq; false with the error, if it has one.
func (g *ledger) told(seq uint64) (string, api.Errno) {
	l, x := g.e.Scan(nil, nil, seq, greatestInt)
	if x != api.OK {
		return "", x
	}
	m := map[string]string{}
	for _, entry := range l {
		m[string(entry.Key)] = string(entry.Value)
	}
	return text(m), api.OK
}

// fits fails unless the engine sees what was written, all of it, now and at each
// snapshot.
func (g *ledger) fits() {
	g.t.Helper()
	if g.e.Seq() != g.last {
		g.t.Fatalf("%s: Seq %d, want %d", g.what, g.e.Seq(), g.last)
	}
	g.sees(g.last, g.now, false)
	for seq, m := range g.then {
		g.sees(seq, m, false)
	}
}

// sees fails unless the engine sees m at seq; where errors may be, each look
// tells that, or an error.
func (g *ledger) sees(seq uint64, m map[string]string, mayFail bool) (errors int) {
	g.t.Helper()
	got, x := g.told(seq)
	switch {
	case x != api.OK && mayFail:
		errors++
	case x != api.OK || got != text(m):
		g.t.Fatalf("%s: at %d: %s, %d; want %s", g.what, seq, got, x, text(m))
	}
	for _, key := range append(slices.Sorted(maps.Keys(m)), keys...) {
		v, x := g.e.Get([]byte(key), seq)
		want, ok := m[key]
		switch {
		case mayFail && x != api.OK && x != api.ErrNone:
			errors++
		case ok && (x != api.OK || string(v) != want), !ok && x != api.ErrNone:
			g.t.Fatalf("%s: Get %q at %d: %q, %d; want %q, %t", g.what, key, seq, v, x, want, ok)
		}
	}
	return errors
}

// up opens the engine behind a crash, or an error, and goes on from what it
// tells: all that was answered, and perhaps the batch that was being written.
func (g *ledger) up() {
	g.t.Helper()
	if x := g.open(); x != api.OK {
		g.t.Fatalf("%s: Open: %d", g.what, x)
	}
	g.settle()
}

// settle goes on from what an engine tells that was opened behind an error.
func (g *ledger) settle() {
	g.t.Helper()
	if g.maybe != nil && g.e.Seq() == g.maybeLast {
		g.now, g.last = g.maybe, g.maybeLast
	}
	g.maybe = nil
	g.fits()
}

// keys are those of drawn writes.
var keys = []string{"a", "b", "c", "cc", "c\x00", "d", "e", "k\xff", "k", "kkkk", "m", "n", "\x00", "\xff", "\xff\xff", "z"}

// drawnBatch draws writes.
func drawnBatch(r *rand.Rand) []api.Write {
	var l []api.Write
	for range 1 + r.IntN(4)*r.IntN(2) {
		key := keys[r.IntN(len(keys))]
		if r.IntN(3) == 0 {
			l = append(l, gone(key))
		} else {
			l = append(l, set(key, strings.Repeat(string(rune('a'+r.IntN(26))), r.IntN(3)*r.IntN(30))))
		}
	}
	return l
}

// drawnSetup draws a setup with which much work comes soon.
func drawnSetup(r *rand.Rand) api.Setup {
	return api.Setup{
		Buffer: 64 << r.IntN(4),
		Pick:   api.PickSetup{Trigger: 1 + r.IntN(4), Base: 1 << r.IntN(11), Factor: 2 + r.IntN(3)},
		Table:  api.TableSetup{Block: 64 << r.IntN(3), Bits: 1 + r.IntN(12)},
		Target: 64 << r.IntN(5),
	}
}

// act does one thing of a life.
func (g *ledger) act(r *rand.Rand) api.Errno {
	switch r.IntN(16) {
	case 0:
		if x := g.snapshot(); x != api.ErrBusy {
			return x
		}
		return api.OK
	case 1:
		return g.release(r.IntN(9))
	case 2:
		return g.open()
	case 3, 4, 5, 6, 7, 8:
		return g.work()
	}
	return g.write(drawnBatch(r)...)
}

// roomOf answers a disk of that room.
func roomOf(t *testing.T, limit int) *vfs.Fs {
	t.Helper()
	f, x := vfs.New(limit)
	fine(t, x)
	return f
}
