package wal_test

import (
	"fmt"
	"math/rand/v2"
	"testing"

	"bootprint/api"
	"bootprint/vfs"
	"bootprint/wal"
)

// The order of the operations, and what becomes of errors at each of them: a
// log and a plain one go through the same scripts, on a disk each, and what
// they answer and what the disks have is the same. (A disk that crashes shows
// in which order it was written and synced.)

// world is a log, how it is opened, and its disk.
type world struct {
	f    *vfs.Fs
	open func(f *vfs.Fs) (logger, []api.LogRecord, api.Errno)
	l    logger
}

// realOpen opens a log.
func realOpen(f *vfs.Fs) (logger, []api.LogRecord, api.Errno) {
	l, records, e := wal.Open(f)
	if (l == nil) != (e != api.OK) {
		panic("a log with an error, or none without")
	}
	if l == nil {
		return nil, records, e
	}
	return l, records, e
}

// act is a step of a script, and answers what it was told.
type act func(w *world) string

func doOpen() act {
	return func(w *world) string {
		l, records, e := w.open(w.f)
		if e == api.OK {
			w.l = l // the one before goes on where there is none
		}
		return fmt.Sprint("Open: ", told(records), e)
	}
}

func doAppend(b string) act {
	return func(w *world) string { return fmt.Sprint("Append: ", w.l.Append([]byte(b))) }
}

func doSync() act {
	return func(w *world) string { return fmt.Sprint("Sync: ", w.l.Sync()) }
}

func doBegin(n uint64) act {
	return func(w *world) string { return fmt.Sprintf("Begin(%d): %d", n, w.l.Begin(n)) }
}

func doDrop(n uint64) act {
	return func(w *world) string { return fmt.Sprintf("Drop(%d): %d", n, w.l.Drop(n)) }
}

func doCrash(dir int, keep ...int) act {
	return func(w *world) string { return fmt.Sprint("Crash: ", w.f.Crash(dir, keep)) }
}

// tells what a world has to tell without an operation.
func (w *world) tells() string {
	s := fmt.Sprintf("%d %d; %t, %d operations, %d bytes:", w.l.Number(), w.l.Segments(), w.f.On(), w.f.Ops(), w.f.Used())
	for _, name := range w.f.Names() {
		s += fmt.Sprintf(" %s %d", name, w.f.Size(name))
	}
	return s
}

// twins goes through a script with a log and with a plain one.
type twins struct {
	log, plain world
}

func newTwins(t *testing.T, limit int) *twins {
	t.Helper()
	f, e := vfs.New(limit)
	fine(t, e)
	g, e := vfs.New(limit)
	fine(t, e)
	w := &twins{world{f: f, open: realOpen}, world{f: g, open: openPlain}}
	w.both(t, doOpen())
	return w
}

func (w *twins) both(t *testing.T, a act) {
	t.Helper()
	answer, want := a(&w.log), a(&w.plain)
	if answer != want {
		t.Fatalf("%q, want %q", answer, want)
	}
	if got, want := w.log.tells(), w.plain.tells(); got != want {
		t.Fatalf("behind %q: %q, want %q", answer, got, want)
	}
}

// end crashes both disks, and holds all that they have against each other.
func (w *twins) end(t *testing.T, dir int, keep ...int) {
	t.Helper()
	w.both(t, doCrash(dir, keep...))
	for _, name := range w.plain.f.Names() {
		if got, want := content(t, w.log.f, name), content(t, w.plain.f, name); got != want {
			t.Fatalf("%s has %q, want %q", name, got, want)
		}
	}
	w.both(t, doOpen())
	w.both(t, doBegin(w.plain.l.Number()+1))
	w.both(t, doAppend("goes on"))
	w.both(t, doSync())
	w.both(t, doOpen())
}

// scripts tells scripts with every operation in every part of the log.
func scripts() [][]act {
	return [][]act{
		{ // segments come and go
			doAppend("none"), doSync(), doBegin(1), doAppend("a"), doSync(), doAppend("b"), doAppend(""), doSync(),
			doBegin(2), doAppend("c"), doSync(), doBegin(5), doAppend("d"), doAppend("e"), doSync(), doDrop(5), doDrop(5),
			doBegin(6), doBegin(6), doBegin(7), doAppend("f"), doSync(), doDrop(1e12), doAppend("g"),
		},
		{ // opened anew, whole
			doBegin(1), doAppend("a"), doOpen(), doAppend("b"), doSync(), doBegin(2), doOpen(), doAppend("c"), doOpen(), doDrop(2), doOpen(), doSync(),
		},
		{ // opened anew, torn, twice
			doBegin(3), doAppend("a"), doSync(), doAppend("bcdefgh"), doCrash(0, 9), doOpen(), doAppend("i"), doSync(), doAppend("jkl"), doCrash(1, 14), doOpen(), doAppend("m"), doSync(),
		},
		{ // without a whole first frame
			doBegin(1), doAppend("a"), doSync(),
			func(w *world) string {
				return fmt.Sprint(w.f.Create(wal.Name(2)), w.f.Append(wal.Name(2), []byte(segmentOf(2)[:7])))
			},
			doOpen(), doAppend("b"), doSync(), doBegin(2), doAppend("c"), doSync(),
		},
		{ // records that were not synced when a segment was begun
			doBegin(1), doAppend("a"), doBegin(2), doAppend("b"), doBegin(3), doDrop(2), doAppend("c"), doSync(), doOpen(), doBegin(4),
		},
		{ // files of the names that are wanted
			func(w *world) string {
				return fmt.Sprint(w.f.Create("wal.tmp"), w.f.Append("wal.tmp", []byte("left")), w.f.Create(wal.Name(4)), w.f.SyncDir(), w.f.Append(wal.Name(4), []byte("other")))
			},
			doBegin(3), doBegin(4), doAppend("a"), doSync(), doAppend("b"), doCrash(0, 3), doOpen(), doAppend("c"), doSync(),
		},
	}
}

// run goes through the script; it answers how many operations it had.
func (w *twins) run(t *testing.T, script []act) int {
	t.Helper()
	for _, a := range script {
		w.both(t, a)
	}
	return w.plain.f.Ops()
}

// crashes are ways in which the disk may crash.
func crashes() []func(w *twins, t *testing.T) {
	var l []func(w *twins, t *testing.T)
	for dir := range 5 {
		for _, k := range []int{0, 1, 7, 13, 14, greatest} {
			l = append(l, func(w *twins, t *testing.T) {
				t.Helper()
				w.end(t, dir, k, k, k, k, k, k)
			})
		}
	}
	return l
}

func TestScriptsWithoutErrors(t *testing.T) {
	for _, script := range scripts() {
		for _, crash := range crashes() {
			w := newTwins(t, 1000)
			w.run(t, script)
			crash(w, t)
		}
	}
}

func TestFuseAtEveryOperation(t *testing.T) {
	for _, script := range scripts() {
		operations := newTwins(t, 1000).run(t, script)
		for place := range operations {
			for _, crash := range crashes() {
				w := newTwins(t, 1000)
				fine(t, w.log.f.Fuse(place), w.plain.f.Fuse(place))
				w.run(t, script)
				crash(w, t)
			}
		}
	}
}

func TestFaultAtEveryOperation(t *testing.T) {
	for _, script := range scripts() {
		operations := newTwins(t, 1000).run(t, script)
		for place := range operations {
			for _, e := range []api.Errno{api.ErrFull, api.ErrIO} {
				for _, crash := range crashes() {
					w := newTwins(t, 1000)
					fine(t, w.log.f.Fault(place, e), w.plain.f.Fault(place, e))
					w.run(t, script)
					crash(w, t)
				}
			}
		}
	}
}

func TestDisksWithLittleRoom(t *testing.T) {
	for _, script := range scripts() {
		for limit := range 200 {
			w := newTwins(t, limit)
			w.run(t, script)
			w.end(t, 1, 5, 5, 5, 5)
		}
	}
}

// scrambled tells an act that hangs on r's numbers.
func scrambled(r *rand.Rand) act {
	n := uint64(r.IntN(30))
	switch r.IntN(14) {
	case 0, 1, 2, 3:
		return doAppend("abcdefghijklmnopqrstuvwxyz"[:n%26])
	case 4, 5, 6:
		return doSync()
	case 7:
		return func(w *world) string { return doBegin(w.l.Number() + n%3)(w) }
	case 8:
		return func(w *world) string { return doDrop(w.l.Number() - n%4)(w) }
	case 9:
		return doOpen()
	case 10:
		return func(w *world) string { return fmt.Sprint(w.f.Fuse(int(n))) }
	case 11:
		return func(w *world) string { return fmt.Sprint(w.f.Fault(int(n), api.ErrFull+api.Errno(n%2))) }
	case 12:
		dir, keep := r.IntN(5), r.IntN(30)
		return func(w *world) string {
			return doCrash(dir, keep, keep, keep, keep)(w) + doOpen()(w)
		}
	}
	at, bit := r.IntN(60), r.IntN(8)
	return func(w *world) string {
		// A bit is turned for as long as it takes to open the log.
		name := wal.Name(w.l.Number())
		s := fmt.Sprint(w.f.Turn(name, at, 1<<bit))
		return s + doOpen()(w) + fmt.Sprint(w.f.Turn(name, at, 1<<bit))
	}
}

func TestScrambledScripts(t *testing.T) {
	for seed := range uint64(400) {
		r := rand.New(rand.NewPCG(seed, 5))
		w := newTwins(t, 200+r.IntN(800))
		for range 120 {
			w.both(t, scrambled(r))
		}
		w.end(t, r.IntN(5), r.IntN(30), r.IntN(30), r.IntN(30))
	}
}
