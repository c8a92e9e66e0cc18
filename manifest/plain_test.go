package manifest_test

import (
	"fmt"
	"math/rand/v2"
	"regexp"
	"slices"
	"testing"

	"bootprint/api"
	"bootprint/frame"
	"bootprint/manifest"
	"bootprint/version"
	"bootprint/vfs"
)

// A manifest and a plain one go through the same scripts, on a disk each, and
// what they answer and what the disks have is the same.

// keeper is what a manifest and a plain one have in common.
type keeper interface {
	Version() api.Version
	Append(e api.Edit) api.Errno
	Roll() api.Errno
	Number() uint64
	Size() int
}

// plain is a manifest by the chapter's words, with its operations written out
// one after the other.
type plain struct {
	f      *vfs.Fs
	v      api.Version
	n      uint64
	spoilt api.Errno
}

// openPlain opens the manifest of f by the chapter's words.
func openPlain(f *vfs.Fs) (keeper, api.Errno) {
	p := &plain{f: f, v: version.First()}
	if !slices.Contains(f.Names(), "current") {
		if e := p.roll(1, false); e != api.OK {
			return nil, e
		}
		return p, api.OK
	}
	line, e := f.Read("current", 0, api.MaxDisk)
	if e != api.OK {
		return nil, e
	}
	if !regexp.MustCompile(`\Amanifest-[0-9]{12}\n\z`).Match(line) {
		return nil, api.ErrBad
	}
	for _, c := range line[len("manifest-") : len(line)-1] {
		p.n = p.n*10 + uint64(c-'0')
	}
	name := string(line[:len(line)-1])
	if !slices.Contains(f.Names(), name) {
		return nil, api.ErrBad
	}
	row, e := f.Read(name, 0, api.MaxDisk)
	if e != api.OK {
		return nil, e
	}
	isTorn, e := p.apply(row)
	if e != api.OK {
		return nil, e
	}
	if isTorn {
		e = p.roll(p.n+1, true)
	} else {
		e = f.Sync(p.name(p.n))
	}
	if e != api.OK {
		return nil, e
	}
	return p, api.OK
}

// apply applies the edits of a row.
func (p *plain) apply(row []byte) (isTorn bool, e api.Errno) {
	for count := 0; len(row) > 0 || count == 0; count++ {
		x, n, e := frame.Read(row)
		if e == api.ErrMore && count > 0 {
			return true, api.OK
		}
		if e != api.OK || x.Kind != 5 {
			return false, api.ErrBad
		}
		edit, e := version.Parse(x.Body)
		if e != api.OK {
			return false, api.ErrBad
		}
		p.v, e = version.Apply(p.v, edit)
		if e != api.OK {
			return false, api.ErrBad
		}
		row = row[n:]
	}
	return false, api.OK
}

func (p *plain) name(n uint64) string { return fmt.Sprintf("manifest-%012d", n) }

func (p *plain) roll(n uint64, hasAhead bool) api.Errno {
	name, there := p.name(n), p.f.Names()
	if slices.Contains(there, name) {
		if e := p.f.Remove(name); e != api.OK {
			return e
		}
	}
	if e := p.f.Create(name); e != api.OK {
		return e
	}
	if e := p.f.Append(name, []byte(wholeRow(p.v))); e != api.OK {
		return e
	}
	if e := p.f.Sync(name); e != api.OK {
		return e
	}
	if slices.Contains(there, "current.tmp") {
		if e := p.f.Remove("current.tmp"); e != api.OK {
			return e
		}
	}
	if e := p.f.Create("current.tmp"); e != api.OK {
		return e
	}
	if e := p.f.Append("current.tmp", []byte(name+"\n")); e != api.OK {
		return e
	}
	if e := p.f.Sync("current.tmp"); e != api.OK {
		return e
	}
	if e := p.f.SyncDir(); e != api.OK {
		return e
	}
	if e := p.f.Rename("current.tmp", "current"); e != api.OK {
		return e
	}
	if e := p.f.SyncDir(); e != api.OK {
		return e
	}
	ahead := p.n
	p.n = n
	if !hasAhead {
		return api.OK
	}
	return p.f.Remove(p.name(ahead))
}

func (p *plain) Version() api.Version { return p.v }

func (p *plain) Number() uint64 { return p.n }

func (p *plain) Size() int { return max(p.f.Size(p.name(p.n)), 0) }

func (p *plain) Append(e api.Edit) api.Errno {
	if p.spoilt != api.OK {
		return p.spoilt
	}
	v, err := version.Apply(p.v, e)
	if err != api.OK {
		return err
	}
	p.spoilt = p.f.Append(p.name(p.n), []byte(rowOf(e)))
	if p.spoilt == api.OK {
		p.spoilt = p.f.Sync(p.name(p.n))
	}
	if p.spoilt == api.OK {
		p.v = v
	}
	return p.spoilt
}

func (p *plain) Roll() api.Errno {
	if p.spoilt == api.OK {
		p.spoilt = p.roll(p.n+1, true)
	}
	return p.spoilt
}

// realOpen opens a manifest.
func realOpen(f *vfs.Fs) (keeper, api.Errno) {
	m, e := manifest.Open(f)
	if (m == nil) != (e != api.OK) {
		panic("a manifest with an error, or none without")
	}
	if m == nil {
		return nil, e
	}
	return m, e
}

// world is a manifest, how it is opened, and its disk.
type world struct {
	f    *vfs.Fs
	open func(f *vfs.Fs) (keeper, api.Errno)
	m    keeper // the last one that could be opened
}

// tells what a world has to tell without an operation.
func (w *world) tells() string {
	s := fmt.Sprintf("%t, %d operations, %s", w.f.On(), w.f.Ops(), likeness(w.f))
	if w.m != nil {
		s += fmt.Sprintf("; %d, %d, %s", w.m.Number(), w.m.Size(), told(w.m.Version()))
	}
	return s
}

// act is a step of a script, and answers what it was told.
type act func(w *world) string

func doOpen(w *world) string {
	m, e := w.open(w.f)
	if e == api.OK {
		w.m = m
	}
	return fmt.Sprint("Open: ", e)
}

func doRoll(w *world) string { return fmt.Sprint("Roll: ", w.m.Roll()) }

func doAppend(e api.Edit) act {
	return func(w *world) string { return fmt.Sprint("Append: ", w.m.Append(e)) }
}

func doCrash(dir int, keep ...int) act {
	return func(w *world) string { return fmt.Sprint("Crash: ", w.f.Crash(dir, keep)) }
}

// drawnAct draws a step; v is the version by now.
func drawnAct(r *rand.Rand, v api.Version) act {
	n, k := r.IntN(60), r.IntN(90)
	edit := drawnEdit(r, v)
	switch r.IntN(20) {
	case 0, 1:
		return doRoll
	case 2, 3:
		return doOpen
	case 4:
		return doCrash(n%7, k, k/2, k, k/3, k)
	case 5:
		return func(w *world) string { return fmt.Sprint("Fuse: ", w.f.Fuse(n)) }
	case 6:
		return func(w *world) string { return fmt.Sprint("Fault: ", w.f.Fault(n/2, api.ErrFull+api.Errno(k%2))) }
	case 7: // an edit that can't be applied
		edit.Drops = append(edit.Drops, drop(n%6, uint64(k)+v.Next))
	case 8: // files in the way
		return func(w *world) string {
			next := manifest.Name(w.m.Number() + 1)
			return fmt.Sprint(w.f.Create(next), w.f.Append(next, make([]byte, k)), w.f.Create("current.tmp"), w.f.Append("current.tmp", []byte("x")))
		}
	case 9: // a bit is turned for as long as it takes to open the manifest
		return func(w *world) string {
			name := "current"
			if k%3 > 0 {
				name = manifest.Name(w.m.Number())
			}
			s := fmt.Sprint("Turn: ", w.f.Turn(name, n, 1<<(k%8)), doOpen(w))
			return s + fmt.Sprint(w.f.Turn(name, n, 1<<(k%8)))
		}
	case 10: // what is not there is opened for a while, without a file
		return func(w *world) string {
			name := manifest.Name(w.m.Number())
			if k%3 == 0 {
				name = "current"
			}
			s := fmt.Sprint("Rename: ", w.f.Rename(name, "other"))
			if k%3 > 0 {
				s += doOpen(w)
			}
			s += fmt.Sprint(w.m.Append(edit), w.m.Roll())
			return s + fmt.Sprint(w.f.Rename("other", name))
		}
	case 11: // torn, or bad
		return func(w *world) string {
			name := manifest.Name(w.m.Number())
			tail := rowOf(edit)
			return fmt.Sprint(w.f.Append(name, []byte(tail[:k%(len(tail)+1)])), doOpen(w))
		}
	}
	return doAppend(edit)
}

// both does a step in both worlds, holds them against each other, and answers
// what was told.
func both(t *testing.T, what string, a, b *world, do act) string {
	t.Helper()
	answer, want := do(a), do(b)
	if answer != want {
		t.Fatalf("%s: %q, want %q", what, answer, want)
	}
	if got, want := a.tells(), b.tells(); got != want {
		t.Fatalf("%s: behind %q: %q, want %q", what, answer, got, want)
	}
	return answer
}

func TestDrawnScripts(t *testing.T) {
	seen := map[string]int{}
	for seed := range uint64(1500) {
		r := rand.New(rand.NewPCG(seed, 1313))
		limit := 1 << 20
		if seed%5 == 0 {
			limit = 100 + r.IntN(900)
		}
		f, e := vfs.New(limit)
		g, err := vfs.New(limit)
		fine(t, e, err)
		a, b := &world{f: f, open: realOpen}, &world{f: g, open: openPlain}
		what := fmt.Sprintf("seed %d", seed)
		both(t, what, a, b, doOpen)
		for range 80 {
			if b.m == nil {
				break
			}
			seen[both(t, what, a, b, drawnAct(r, b.m.Version()))]++
		}
		both(t, what, a, b, doCrash(r.IntN(5), r.IntN(99), r.IntN(99), r.IntN(99)))
		if got, want := contents(t, f), contents(t, g); got != want {
			t.Fatalf("%s: the disk has %s, want %s", what, got, want)
		}
		both(t, what, a, b, doOpen)
	}
	for _, answer := range []string{"Append: 0", "Append: 6", "Append: 7", "Append: 8", "Append: 9", "Roll: 0", "Roll: 6", "Roll: 7", "Roll: 8", "Roll: 9", "Open: 0", "Open: 4", "Open: 7", "Open: 8", "Open: 9"} {
		if seen[answer] < 10 {
			t.Errorf("%q came %d times: too few", answer, seen[answer])
		}
	}
}
