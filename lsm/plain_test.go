package lsm_test

import (
	"bytes"
	"cmp"
	"fmt"
	"math/rand/v2"
	"regexp"
	"slices"
	"strconv"
	"testing"

	"bootprint/api"
	"bootprint/batch"
	"bootprint/compact"
	"bootprint/lsm"
	"bootprint/manifest"
	"bootprint/merge"
	"bootprint/pick"
	"bootprint/table"
	"bootprint/vfs"
	"bootprint/wal"
)

// An engine and a plain one go through the same scripts, on a disk each, and
// what they answer and what the disks have is the same.

// engine is what both have in common.
type engine interface {
	Write(l []api.Write) (seq uint64, err api.Errno)
	Get(key []byte, seq uint64) ([]byte, api.Errno)
	Scan(from, to []byte, seq uint64, n int) ([]api.Entry, api.Errno)
	Snapshot() (seq uint64, err api.Errno)
	Release(seq uint64) api.Errno
	Snapshots() []uint64
	Work() (what int, err api.Errno)
	Idle() bool
	Seq() uint64
	ReadOnly() bool
	Version() api.Version
	Memory() (open, frozen int)
}

// plain is an engine by the chapter's words, one after the other, with lists in
// memory.
type plain struct {
	f        *vfs.Fs
	s        api.Setup
	m        *manifest.Manifest
	l        *wal.Log
	open     []api.Entry
	frozen   []api.Entry
	isFrozen bool
	opened   map[uint64]*table.Table
	seq      uint64
	noted    []uint64 // once for each time
	readOnly bool
}

// openPlain opens the engine of f by the chapter's words.
func openPlain(f *vfs.Fs, s api.Setup) (engine, api.Errno) {
	p := &plain{f: f, s: s, opened: map[uint64]*table.Table{}}
	var x api.Errno
	if p.m, x = manifest.Open(f); x != api.OK {
		return nil, x
	}
	if p.m.Size() > 65536 {
		if x = p.m.Roll(); x != api.OK {
			return nil, x
		}
	}
	v := p.m.Version()
	l, records, x := wal.Open(f)
	if x != api.OK {
		return nil, x
	}
	p.l, p.seq = l, v.Seq
	for _, r := range records {
		if r.Segment >= v.Log && !p.apply(r.Body, v) {
			return nil, api.ErrBad
		}
	}
	n := uint64(1)
	if segments := l.Segments(); len(segments) > 0 {
		n = segments[len(segments)-1] + 1
	}
	if n < v.Log {
		n = v.Log
	}
	if x = l.Begin(n); x != api.OK {
		return nil, x
	}
	if x = p.removeOthers(v); x != api.OK {
		return nil, x
	}
	for _, files := range v.Levels {
		for _, file := range files {
			t, x := table.Open(f, fmt.Sprintf("table-%012d", file.Number))
			if x == api.ErrNone {
				return nil, api.ErrBad
			}
			if x != api.OK {
				return nil, x
			}
			p.opened[file.Number] = t
		}
	}
	return p, api.OK
}

func (p *plain) apply(body []byte, v api.Version) bool {
	b, x := batch.Parse(body)
	if x != api.OK {
		return false
	}
	last := b.Seq + uint64(len(b.Writes)) - 1
	if last <= v.Seq {
		return true
	}
	if b.Seq != p.seq+1 {
		return false
	}
	p.put(b)
	return true
}

func (p *plain) put(b api.Batch) {
	for i, w := range b.Writes {
		p.open = append(p.open, api.Entry{Key: bytes.Clone(w.Key), Seq: b.Seq + uint64(i), Kind: w.Kind, Value: bytes.Clone(w.Value)})
		p.seq++
	}
	slices.SortFunc(p.open, func(a, b api.Entry) int {
		return cmp.Or(bytes.Compare(a.Key, b.Key), cmp.Compare(b.Seq, a.Seq))
	})
}

func (p *plain) removeOthers(v api.Version) api.Errno {
	var numbers []uint64
	for _, files := range v.Levels {
		for _, f := range files {
			numbers = append(numbers, f.Number)
		}
	}
	named := regexp.MustCompile(`\A(table|manifest)-([0-9]{12})\z`)
	removed := 0
	for _, name := range p.f.Names() {
		goes := name == "current.tmp" || name == "wal.tmp"
		if m := named.FindStringSubmatch(name); m != nil {
			n, _ := strconv.ParseUint(m[2], 10, 64)
			if m[1] == "table" {
				goes = !slices.Contains(numbers, n)
			} else {
				goes = n != p.m.Number()
			}
		}
		if goes {
			if x := p.f.Remove(name); x != api.OK {
				return x
			}
			removed++
		}
	}
	if removed > 0 {
		return p.f.SyncDir()
	}
	return api.OK
}

func (p *plain) fail(x api.Errno) (int, api.Errno) {
	p.readOnly = true
	return 0, x
}

func (p *plain) Write(l []api.Write) (uint64, api.Errno) {
	if p.readOnly {
		return 0, api.ErrReadOnly
	}
	b := api.Batch{Seq: p.seq + 1, Writes: l}
	if x := batch.Check(b); x != api.OK {
		return 0, x
	}
	if x := p.l.Append([]byte(batchBytes(b.Seq, l...))); x != api.OK {
		p.readOnly = true
		return 0, x
	}
	if x := p.l.Sync(); x != api.OK {
		p.readOnly = true
		return 0, x
	}
	p.put(b)
	return p.seq, api.OK
}

func size(l []api.Entry) int {
	n := 0
	for _, e := range l {
		n += len(e.Key) + len(e.Value) + 32
	}
	return n
}

// next answers which step comes.
func (p *plain) next() int {
	switch {
	case p.readOnly:
		return 0
	case size(p.open) >= p.s.Buffer && !p.isFrozen:
		return 1
	case p.isFrozen:
		return 2
	case !pick.Rest(p.m.Version(), p.s.Pick):
		return 3
	}
	return 0
}

func (p *plain) Idle() bool { return p.next() == 0 }

func (p *plain) Work() (int, api.Errno) {
	if p.readOnly {
		return 0, api.ErrReadOnly
	}
	switch p.next() {
	case 1:
		if x := p.l.Begin(p.l.Number() + 1); x != api.OK {
			return p.fail(x)
		}
		p.frozen, p.isFrozen, p.open = p.open, true, nil
		return 1, api.OK
	case 2:
		if x := p.flush(); x != api.OK {
			return p.fail(x)
		}
		return 2, api.OK
	case 3:
		if x := p.compact(); x != api.OK {
			return p.fail(x)
		}
		return 3, api.OK
	}
	return 0, api.OK
}

// files makes the files, and answers the edit's Adds, on that level.
func (p *plain) files(rows [][]api.Entry, bottom bool, level int) ([]api.Add, map[uint64]*table.Table, api.Errno) {
	cut, x := compact.Run(rows, p.Snapshots(), bottom, p.s.Target)
	if x != api.OK {
		return nil, nil, api.ErrBad
	}
	next := p.m.Version().Next
	for i, l := range cut {
		b, x := table.Make(l, p.s.Table)
		if x != api.OK {
			return nil, nil, api.ErrBad
		}
		name := fmt.Sprintf("table-%012d", next+uint64(i))
		if x = p.f.Create(name); x != api.OK {
			return nil, nil, x
		}
		if x = p.f.Append(name, b); x != api.OK {
			return nil, nil, x
		}
		if x = p.f.Sync(name); x != api.OK {
			return nil, nil, x
		}
	}
	if len(cut) > 0 {
		if x = p.f.SyncDir(); x != api.OK {
			return nil, nil, x
		}
	}
	var adds []api.Add
	opened := map[uint64]*table.Table{}
	for i, l := range cut {
		n := next + uint64(i)
		t, x := table.Open(p.f, fmt.Sprintf("table-%012d", n))
		if x != api.OK {
			return nil, nil, x
		}
		info, x := table.Info(l, p.s.Table)
		if x != api.OK {
			return nil, nil, x
		}
		opened[n] = t
		adds = append(adds, api.Add{Level: level, File: api.File{
			Number: n, Size: info.Size, Least: info.Least, Most: info.Most, Entries: info.Entries, MostSeq: info.MostSeq,
		}})
	}
	return adds, opened, api.OK
}

// edit has the manifest take an edit.
func (p *plain) edit(e api.Edit, opened map[uint64]*table.Table) api.Errno {
	if x := p.m.Append(e); x == api.ErrArg || x == api.ErrLong {
		return api.ErrBad
	} else if x != api.OK {
		return x
	}
	for n, t := range opened {
		p.opened[n] = t
	}
	return api.OK
}

func (p *plain) flush() api.Errno {
	adds, opened, x := p.files([][]api.Entry{p.frozen}, false, 0)
	if x != api.OK {
		return x
	}
	e := api.Edit{Adds: adds, Next: p.m.Version().Next + uint64(len(adds)), Log: p.l.Number()}
	for _, entry := range p.frozen {
		e.Seq = max(e.Seq, entry.Seq)
	}
	if x = p.edit(e, opened); x != api.OK {
		return x
	}
	if x = p.l.Drop(e.Log); x != api.OK {
		return x
	}
	p.frozen, p.isFrozen = nil, false
	return api.OK
}

func (p *plain) compact() api.Errno {
	v := p.m.Version()
	job, x := pick.Next(v, p.s.Pick)
	if x != api.OK {
		return x
	}
	var rows [][]api.Entry
	for i := len(job.Upper) - 1; i >= 0; i-- {
		l, x := p.opened[job.Upper[i].Number].All()
		if x != api.OK {
			return x
		}
		rows = append(rows, l)
	}
	for _, f := range job.Lower {
		l, x := p.opened[f.Number].All()
		if x != api.OK {
			return x
		}
		rows = append(rows, l)
	}
	adds, opened, x := p.files(rows, job.Bottom, job.Level+1)
	if x != api.OK {
		return x
	}
	e := api.Edit{Adds: adds, Next: v.Next + uint64(len(adds)), Seq: v.Seq, Log: v.Log}
	for _, f := range job.Upper {
		e.Drops = append(e.Drops, api.Drop{Level: job.Level, Number: f.Number})
	}
	for _, f := range job.Lower {
		e.Drops = append(e.Drops, api.Drop{Level: job.Level + 1, Number: f.Number})
	}
	if x = p.edit(e, opened); x != api.OK {
		return x
	}
	for _, d := range e.Drops {
		if x = p.f.Remove(fmt.Sprintf("table-%012d", d.Number)); x != api.OK {
			return x
		}
	}
	return p.f.SyncDir()
}

// inOrder tells the version's files as a look goes over them.
func (p *plain) inOrder() []api.File {
	v := p.m.Version()
	slices.Reverse(v.Levels[0])
	return slices.Concat(v.Levels...)
}

func (p *plain) mayLook(seq uint64) bool { return seq == p.seq || slices.Contains(p.noted, seq) }

func (p *plain) Get(key []byte, seq uint64) ([]byte, api.Errno) {
	if !p.mayLook(seq) {
		return nil, api.ErrArg
	}
	for _, l := range [][]api.Entry{p.open, p.frozen} {
		for _, e := range l {
			if bytes.Equal(e.Key, key) && e.Seq <= seq {
				return valueOf(e)
			}
		}
	}
	for _, f := range p.inOrder() {
		if bytes.Compare(f.Least, key) > 0 || bytes.Compare(f.Most, key) < 0 {
			continue
		}
		reads := p.opened[f.Number].Reads()
		e, x := p.opened[f.Number].Get(key, seq)
		if x == api.OK {
			return valueOf(e)
		}
		if x != api.ErrNone {
			return nil, x
		}
		// The script takes files away: that is no way to tell that a key is not there.
		if p.opened[f.Number].Reads() > reads && !slices.Contains(p.f.Names(), tableName(f.Number)) {
			return nil, api.ErrBad
		}
	}
	return nil, api.ErrNone
}

func valueOf(e api.Entry) ([]byte, api.Errno) {
	if e.Kind == api.WriteDelete {
		return nil, api.ErrNone
	}
	return e.Value, api.OK
}

func (p *plain) Scan(from, to []byte, seq uint64, n int) ([]api.Entry, api.Errno) {
	if !p.mayLook(seq) {
		return nil, api.ErrArg
	}
	rows := [][]api.Entry{p.open, p.frozen}
	for _, f := range p.inOrder() {
		if bytes.Compare(f.Most, from) < 0 || len(to) > 0 && bytes.Compare(f.Least, to) >= 0 {
			continue
		}
		l, x := p.opened[f.Number].From(from, greatestInt)
		if x != api.OK {
			return nil, x
		}
		rows = append(rows, l)
	}
	return merge.Between(rows, from, to, seq, n)
}

func (p *plain) Snapshot() (uint64, api.Errno) {
	if l := p.Snapshots(); len(l) == 32 && !slices.Contains(l, p.seq) {
		return 0, api.ErrBusy
	}
	p.noted = append(p.noted, p.seq)
	return p.seq, api.OK
}

func (p *plain) Release(seq uint64) api.Errno {
	i := slices.Index(p.noted, seq)
	if i < 0 {
		return api.ErrNone
	}
	p.noted = slices.Delete(p.noted, i, i+1)
	return api.OK
}

func (p *plain) Snapshots() []uint64 {
	l := slices.Clone(p.noted)
	slices.Sort(l)
	return slices.Compact(l)
}

func (p *plain) Seq() uint64          { return p.seq }
func (p *plain) ReadOnly() bool       { return p.readOnly }
func (p *plain) Version() api.Version { return p.m.Version() }
func (p *plain) Memory() (int, int)   { return size(p.open), size(p.frozen) }

// realOpen opens an engine.
func realOpen(f *vfs.Fs, s api.Setup) (engine, api.Errno) {
	e, x := lsm.Open(f, s)
	if (e == nil) != (x != api.OK) {
		panic("an engine with an error, or none without")
	}
	if e == nil {
		return nil, x
	}
	return e, x
}

// world is an engine, how it is opened, and its disk.
type world struct {
	f    *vfs.Fs
	s    api.Setup
	open func(f *vfs.Fs, s api.Setup) (engine, api.Errno)
	e    engine // the last one that could be opened
}

// tells what a world has to tell without an operation.
func (w *world) tells() string {
	s := fmt.Sprintf("%t, %d operations, %s", w.f.On(), w.f.Ops(), likeness(w.f))
	if w.e != nil {
		open, frozen := w.e.Memory()
		s += fmt.Sprintf("; Seq %d, %t, %t, %v, Memory %d, %d, %s", w.e.Seq(), w.e.ReadOnly(), w.e.Idle(), w.e.Snapshots(), open, frozen, toldVersion(w.e.Version()))
	}
	return s
}

// step is one of a script, and answers what it was told.
type step func(w *world) string

func doOpen(w *world) string {
	e, x := w.open(w.f, w.s)
	if x == api.OK {
		w.e = e
	}
	return fmt.Sprint("Open: ", x)
}

func doWrite(l ...api.Write) step {
	return func(w *world) string {
		n, x := w.e.Write(l)
		return fmt.Sprint("Write: ", x, " ", n)
	}
}

func doWork(w *world) string {
	what, x := w.e.Work()
	return fmt.Sprint("Work: ", x, " ", what)
}

func doGet(key string, seq uint64) step {
	return func(w *world) string {
		v, x := w.e.Get([]byte(key), seq)
		return fmt.Sprintf("Get: %d %q", x, v)
	}
}

func doScan(from, to string, seq uint64, n int) step {
	return func(w *world) string {
		l, x := w.e.Scan([]byte(from), []byte(to), seq, n)
		return fmt.Sprint("Scan: ", x, " ", told(l...))
	}
}

// drawnSeq draws a number to look at.
func drawnSeq(r *rand.Rand, e engine) uint64 {
	l := append(e.Snapshots(), e.Seq(), e.Seq(), e.Seq(), uint64(r.IntN(40)))
	return l[r.IntN(len(l))]
}

// drawnStep draws a step; e is the engine by now.
func drawnStep(r *rand.Rand, e engine) step {
	key, other, n, k := keys[r.IntN(len(keys))], keys[r.IntN(len(keys))], r.IntN(80), r.IntN(90)
	seq, l := drawnSeq(r, e), drawnBatch(r)
	switch r.IntN(40) {
	case 0, 1:
		return doOpen
	case 2:
		return func(w *world) string {
			return fmt.Sprint("Crash: ", w.f.Crash(n%9, []int{k, k / 2, k, k, k / 3, k, k, k, k})) + doOpen(w)
		}
	case 3:
		return func(w *world) string { return fmt.Sprint("Fuse: ", w.f.Fuse(n)) }
	case 4:
		return func(w *world) string { return fmt.Sprint("Fault: ", w.f.Fault(n/2, api.ErrFull+api.Errno(k%2))) }
	case 5, 6, 7, 8:
		return doGet(key, seq)
	case 9, 10, 11:
		return doScan(key, other, seq, n%5-1)
	case 12:
		return doScan("", "", seq, 99)
	case 13, 14:
		return func(w *world) string { n, x := w.e.Snapshot(); return fmt.Sprint("Snapshot: ", x, " ", n) }
	case 15, 16:
		return func(w *world) string { return fmt.Sprint("Release: ", w.e.Release(seq)) }
	case 17: // a batch that may not be
		return doWrite(append(l, api.Write{Kind: k % 4, Key: make([]byte, k%2*5000)})...)
	case 18: // a bit is turned for a while
		return func(w *world) string {
			names := w.f.Names()
			name := names[k%len(names)]
			at := n * 7 % max(w.f.Size(name), 1)
			s := fmt.Sprint("Turn: ", w.f.Turn(name, at, 1<<(k%8)), doGet(key, seq)(w), doScan("", "", seq, 99)(w))
			if n%2 == 0 {
				s += doOpen(w)
			}
			return s + fmt.Sprint(w.f.Turn(name, at, 1<<(k%8)))
		}
	case 19: // a file is not there for a while
		return func(w *world) string {
			names := w.f.Names()
			name := names[k%len(names)]
			s := fmt.Sprint("Rename: ", w.f.Rename(name, "other"), doOpen(w))
			return s + fmt.Sprint(w.f.Rename("other", name))
		}
	case 20: // files in the way
		return func(w *world) string {
			s := "files: "
			for _, name := range []string{"current.tmp", "wal.tmp", tableName(uint64(k)), manifestName(uint64(n)), "zz", segmentName(uint64(k / 3))} {
				if w.f.Size(name) < 0 {
					s += fmt.Sprint(w.f.Create(name))
				}
			}
			return s
		}
	case 31: // a look while the disk fails
		return func(w *world) string {
			w.f.Fault(k%2, api.ErrFull+api.Errno(n%2))
			return doGet(key, seq)(w)
		}
	case 21, 22, 23, 24, 25, 26, 27, 28, 29, 30:
		return doWork
	}
	return doWrite(l...)
}

// both does a step in both worlds, holds them against each other, and answers
// what was told.
func both(t *testing.T, what string, a, b *world, do step) string {
	t.Helper()
	answer, want := do(a), do(b)
	if answer != want {
		t.Fatalf("%s: %s; want %s", what, answer, want)
	}
	if got, want := a.tells(), b.tells(); got != want {
		t.Fatalf("%s: behind %s: %s; want %s", what, answer, got, want)
	}
	return answer
}

func TestDrawnScripts(t *testing.T) {
	t.Parallel()
	seen := map[string]int{}
	for seed := range uint64(1000) {
		r := rand.New(rand.NewPCG(seed, 1616))
		limit := 1 << 20
		if seed%5 == 0 {
			limit = 500 + r.IntN(4000)
		}
		s := drawnSetup(r)
		a := &world{f: roomOf(t, limit), s: s, open: realOpen}
		b := &world{f: roomOf(t, limit), s: s, open: openPlain}
		what := fmt.Sprintf("seed %d", seed)
		both(t, what, a, b, doOpen)
		for range 150 {
			if b.e == nil {
				break
			}
			answer := both(t, what, a, b, drawnStep(r, b.e))
			for n := range answer {
				if n > 1 && answer[n-1] == ' ' {
					if n+1 < len(answer) && answer[n+1] >= '0' && answer[n+1] <= '9' {
						n++
					}
					seen[answer[:n+1]]++
					break
				}
			}
		}
		fine(t, a.f.Fuse(-1), b.f.Fuse(-1), a.f.Fault(-1, api.ErrIO), b.f.Fault(-1, api.ErrIO), a.f.Crash(0, nil), b.f.Crash(0, nil))
		if got, want := contents(t, a.f), contents(t, b.f); got != want {
			t.Fatalf("%s: the disk has %s, want %s", what, got, want)
		}
		both(t, what, a, b, doOpen)
	}
	for _, answer := range []string{
		"Open: 0", "Open: 4", "Open: 7", "Open: 8", "Open: 9",
		"Write: 0", "Write: 2", "Write: 3", "Write: 7", "Write: 8", "Write: 9", "Write: 11",
		"Work: 0", "Work: 7", "Work: 8", "Work: 9", "Work: 11",
		"Get: 0", "Get: 2", "Get: 6", "Get: 7", "Get: 8", "Get: 9", "Scan: 0", "Scan: 2", "Scan: 7", "Scan: 8", "Scan: 9",
		"Snapshot: 0", "Release: 0", "Release: 6",
	} {
		if seen[answer] < 5 {
			t.Errorf("%q came %d times: too few", answer, seen[answer])
		}
	}
}
