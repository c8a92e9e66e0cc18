package lsm_test

import (
	"fmt"
	"hash/crc32"
	"maps"
	"math/bits"
	"slices"
	"strings"
	"testing"

	"bootprint/api"
	"bootprint/lsm"
	"bootprint/manifest"
	"bootprint/table"
	"bootprint/vfs"
)

const (
	greatest    = 1<<64 - 1
	greatestInt = 1<<63 - 1
	trillion    = 1000 * 1000 * 1000 * 1000
)

// small is the setup of the chapter's examples.
func small() api.Setup {
	return api.Setup{
		Buffer: 64,
		Pick:   api.PickSetup{Trigger: 2, Base: 1000, Factor: 10},
		Table:  api.TableSetup{Block: 64, Bits: 10},
		Target: 1000,
	}
}

// quiet is a setup in which files are put together late.
func quiet() api.Setup {
	s := small()
	s.Pick.Trigger = 100
	return s
}

// fine fails unless every error is OK.
func fine(t *testing.T, errors ...api.Errno) {
	t.Helper()
	for i, e := range errors {
		if e != api.OK {
			t.Fatalf("call %d: %d, want OK", i, e)
		}
	}
}

// refused fails unless e is the error that is wanted.
func refused(t *testing.T, what string, e, want api.Errno) {
	t.Helper()
	if e != want {
		t.Errorf("%s: %d, want %d", what, e, want)
	}
}

// The disk

// fresh answers a new file system.
func fresh(t *testing.T) *vfs.Fs {
	t.Helper()
	f, e := vfs.New(1 << 26)
	if f == nil || e != api.OK {
		t.Fatalf("New: %v, %d", f, e)
	}
	return f
}

// put makes a file of these bytes, or puts them in the place of those it has;
// they and its name are synced.
func put(t *testing.T, f *vfs.Fs, name, b string) {
	t.Helper()
	if f.Size(name) >= 0 {
		fine(t, f.Remove(name))
	}
	fine(t, f.Create(name), f.Append(name, []byte(b)), f.Sync(name), f.SyncDir())
}

// content tells the bytes of a file.
func content(t *testing.T, f *vfs.Fs, name string) string {
	t.Helper()
	b, e := f.Read(name, 0, api.MaxDisk)
	if e != api.OK {
		t.Fatalf("Read of %s: %d", name, e)
	}
	return string(b)
}

// contents tells all files, with their bytes.
func contents(t *testing.T, f *vfs.Fs) string {
	t.Helper()
	var s strings.Builder
	for _, name := range f.Names() {
		fmt.Fprintf(&s, "%s: %q\n", name, content(t, f, name))
	}
	return s.String()
}

// holds fails unless the file has just these bytes.
func holds(t *testing.T, f *vfs.Fs, name, want string) {
	t.Helper()
	if b := content(t, f, name); b != want {
		t.Errorf("%s has %q, want %q", name, b, want)
	}
}

// likeness tells what a disk has, without an operation.
func likeness(f *vfs.Fs) string {
	s := fmt.Sprintf("%d bytes:", f.Used())
	for _, name := range f.Names() {
		s += fmt.Sprintf(" %s %d", name, f.Size(name))
	}
	return s
}

// named fails unless the directory has just these names.
func named(t *testing.T, what string, f *vfs.Fs, want ...string) {
	t.Helper()
	if l := f.Names(); !slices.Equal(l, want) {
		t.Errorf("%s: Names: %q, want %q", what, l, want)
	}
}

// took fails unless there were so many operations since before.
func took(t *testing.T, what string, f *vfs.Fs, before, want int) {
	t.Helper()
	if n := f.Ops() - before; n != want {
		t.Errorf("%s: %d operations, want %d", what, n, want)
	}
}

func manifestName(n uint64) string { return fmt.Sprintf("manifest-%012d", n) }

func segmentName(n uint64) string { return fmt.Sprintf("wal-%012d", n) }

func tableName(n uint64) string { return fmt.Sprintf("table-%012d", n) }

// The bytes, as the chapters say them

// maskedSum tells the masked sum of s as four bytes, by the library's sum.
func maskedSum(s string) string {
	m := bits.RotateLeft32(crc32.Checksum([]byte(s), crc32.MakeTable(crc32.Castagnoli)), 17) + 0xA282EAD8
	return string([]byte{byte(m), byte(m >> 8), byte(m >> 16), byte(m >> 24)})
}

// framed tells a frame.
func framed(kind byte, body string) string {
	head := string([]byte{kind, byte(len(body)), byte(len(body) >> 8), byte(len(body) >> 16)})
	return head + maskedSum(head) + body + maskedSum(body)
}

// short tells short numbers.
func short(numbers ...uint64) string {
	var b []byte
	for _, n := range numbers {
		for ; n >= 128; n /= 128 {
			b = append(b, byte(n%128+128))
		}
		b = append(b, byte(n))
	}
	return string(b)
}

func pieceOf(b []byte) string {
	return short(uint64(len(b))) + string(b)
}

// batchBytes tells a batch's.
func batchBytes(seq uint64, l ...api.Write) string {
	s := short(seq, uint64(len(l)))
	for _, w := range l {
		s += string([]byte{byte(w.Kind)}) + pieceOf(w.Key)
		if w.Kind == api.WritePut {
			s += pieceOf(w.Value)
		}
	}
	return s
}

// segment tells the log's segment of that number, with these records.
func segment(number uint64, records ...string) string {
	s := framed(0, short(number))
	for _, r := range records {
		s += framed(1, r)
	}
	return s
}

// editRow tells the frame of an edit.
func editRow(e api.Edit) string {
	s := short(e.Next, e.Seq, e.Log, uint64(len(e.Drops)))
	for _, d := range e.Drops {
		s += short(uint64(d.Level), d.Number)
	}
	s += short(uint64(len(e.Adds)))
	for _, a := range e.Adds {
		s += short(uint64(a.Level), a.File.Number, uint64(a.File.Size), uint64(a.File.Entries), a.File.MostSeq)
		s += pieceOf(a.File.Least) + pieceOf(a.File.Most)
	}
	return framed(5, s)
}

// tableBytes tells a table's.
func tableBytes(t *testing.T, s api.Setup, l ...api.Entry) string {
	t.Helper()
	b, e := table.Make(l, s.Table)
	fine(t, e)
	return string(b)
}

// fileOf tells the file of a table.
func fileOf(t *testing.T, s api.Setup, number uint64, l ...api.Entry) api.File {
	t.Helper()
	f := api.File{Number: number, Size: len(tableBytes(t, s, l...)), Entries: len(l), Least: l[0].Key, Most: l[len(l)-1].Key}
	for _, e := range l {
		f.MostSeq = max(f.MostSeq, e.Seq)
	}
	return f
}

// Writes and entries

func set(key, value string) api.Write {
	return api.Write{Kind: api.WritePut, Key: []byte(key), Value: []byte(value)}
}

func gone(key string) api.Write {
	return api.Write{Kind: api.WriteDelete, Key: []byte(key)}
}

func has(key string, seq uint64, value string) api.Entry {
	return api.Entry{Key: []byte(key), Seq: seq, Kind: api.WritePut, Value: []byte(value)}
}

func hasNot(key string, seq uint64) api.Entry {
	return api.Entry{Key: []byte(key), Seq: seq, Kind: api.WriteDelete}
}

// long answers a value with which one entry fills the table of the small setup.
func long(s string) string { return s + strings.Repeat(".", 40) }

// told writes entries as a text.
func told(l ...api.Entry) string {
	var s strings.Builder
	for _, e := range l {
		fmt.Fprintf(&s, "%q at %d", e.Key, e.Seq)
		switch e.Kind {
		case api.WritePut:
			fmt.Fprintf(&s, " = %q; ", e.Value)
		case api.WriteDelete:
			fmt.Fprintf(&s, " gone%s; ", e.Value)
		default:
			fmt.Fprintf(&s, " of kind %d, %q; ", e.Kind, e.Value)
		}
	}
	return s.String()
}

// toldVersion writes a version as a text.
func toldVersion(v api.Version) string {
	s := fmt.Sprintf("Next %d, Seq %d, Log %d, %d levels:", v.Next, v.Seq, v.Log, len(v.Levels))
	for level, l := range v.Levels {
		for _, f := range l {
			s += fmt.Sprintf(" %d at %d (%d bytes, %q to %q, %d up to %d)", f.Number, level, f.Size, f.Least, f.Most, f.Entries, f.MostSeq)
		}
	}
	return s
}

// levels writes which files stand on which level.
func levels(v api.Version) string {
	var s []string
	for _, l := range v.Levels {
		var numbers []string
		for _, f := range l {
			numbers = append(numbers, fmt.Sprint(f.Number))
		}
		s = append(s, strings.Join(numbers, " "))
	}
	return strings.Join(s, "/")
}

// The engine

// opened opens the engine of a disk.
func opened(t *testing.T, what string, f *vfs.Fs, s api.Setup) *lsm.Engine {
	t.Helper()
	e, x := lsm.Open(f, s)
	if e == nil || x != api.OK {
		t.Fatalf("%s: Open: %v, %d", what, e, x)
	}
	return e
}

// begun answers a new engine of a setup, and its disk.
func begun(t *testing.T, s api.Setup) (*lsm.Engine, *vfs.Fs) {
	t.Helper()
	f := fresh(t)
	return opened(t, "a new one", f, s), f
}

// notOpened fails unless Open answers that error and nothing else.
func notOpened(t *testing.T, what string, f *vfs.Fs, s api.Setup, want api.Errno) {
	t.Helper()
	if e, x := lsm.Open(f, s); e != nil || x != want {
		t.Errorf("%s: Open: %v, %d; want nothing and %d", what, e != nil, x, want)
	}
}

// writes writes one batch, and fails unless its last number is the one that
// comes.
func writes(t *testing.T, e *lsm.Engine, l ...api.Write) {
	t.Helper()
	want := e.Seq() + uint64(len(l))
	seq, x := e.Write(l)
	if seq != want || x != api.OK || e.Seq() != want {
		t.Fatalf("Write: %d, %d, Seq %d; want %d", seq, x, e.Seq(), want)
	}
}

// works does steps of work, and fails unless they are these.
func works(t *testing.T, e *lsm.Engine, want ...int) {
	t.Helper()
	for i, w := range want {
		if idle := e.Idle(); idle != (w == api.WorkNone) {
			t.Fatalf("ahead of step %d: Idle %t, want %d", i, idle, w)
		}
		if what, x := e.Work(); what != w || x != api.OK {
			t.Fatalf("step %d: %d, %d; want %d", i, what, x, w)
		}
	}
}

// flushed writes each batch, and has it flushed into a file of its own.
func flushed(t *testing.T, e *lsm.Engine, batches ...[]api.Write) {
	t.Helper()
	for _, l := range batches {
		writes(t, e, l...)
		works(t, e, api.WorkFreeze, api.WorkFlush)
	}
}

// rest does steps of work till there is none.
func rest(t *testing.T, e *lsm.Engine) (steps int) {
	t.Helper()
	for ; ; steps++ {
		what, x := e.Work()
		if x != api.OK || steps > 5000 {
			t.Fatalf("step %d: %d, %d", steps, what, x)
		}
		if what == api.WorkNone {
			return steps
		}
	}
}

// gets fails unless that is what Get answers at seq: a value, or nothing where
// it is "-".
func gets(t *testing.T, e *lsm.Engine, seq uint64, answers ...string) {
	t.Helper()
	for i := 0; i < len(answers); i += 2 {
		key, want := answers[i], answers[i+1]
		v, x := e.Get([]byte(key), seq)
		switch {
		case want == "-" && (x != api.ErrNone || v != nil):
			t.Errorf("Get %q at %d: %q, %d; want ErrNone", key, seq, v, x)
		case want != "-" && (x != api.OK || string(v) != want):
			t.Errorf("Get %q at %d: %q, %d; want %q", key, seq, v, x, want)
		}
	}
}

// scans fails unless that is what Scan answers.
func scans(t *testing.T, e *lsm.Engine, from, to string, seq uint64, n int, want ...api.Entry) {
	t.Helper()
	l, x := e.Scan([]byte(from), []byte(to), seq, n)
	if x != api.OK || told(l...) != told(want...) {
		t.Errorf("Scan %q to %q at %d, %d: %s, %d; want %s", from, to, seq, n, told(l...), x, told(want...))
	}
}

// sees tells what is seen at seq, as a text, by Scan, and has Get agree.
func sees(t *testing.T, what string, e *lsm.Engine, seq uint64) string {
	t.Helper()
	l, x := e.Scan(nil, nil, seq, greatestInt)
	if x != api.OK {
		t.Fatalf("%s: Scan at %d: %d", what, seq, x)
	}
	for _, entry := range l {
		if v, x := e.Get(entry.Key, seq); x != api.OK || string(v) != string(entry.Value) {
			t.Fatalf("%s: Get %q at %d: %q, %d; Scan has %q", what, entry.Key, seq, v, x, entry.Value)
		}
	}
	return told(l...)
}

// memory fails unless that is what Memory answers.
func memory(t *testing.T, what string, e *lsm.Engine, open, frozen int) {
	t.Helper()
	if a, b := e.Memory(); a != open || b != frozen {
		t.Errorf("%s: Memory %d, %d; want %d, %d", what, a, b, open, frozen)
	}
}

// stopped fails unless the engine is read-only, and each write and step answers
// so, without an operation.
func stopped(t *testing.T, what string, e *lsm.Engine, f *vfs.Fs) {
	t.Helper()
	seq, ops := e.Seq(), f.Ops()
	for range 2 {
		if !e.ReadOnly() || !e.Idle() {
			t.Errorf("%s: ReadOnly %t, Idle %t", what, e.ReadOnly(), e.Idle())
		}
		for _, l := range [][]api.Write{{set("a", "x")}, nil, {{Kind: 9}}} {
			if n, x := e.Write(l); n != 0 || x != api.ErrReadOnly {
				t.Errorf("%s: Write: %d, %d; want ErrReadOnly", what, n, x)
			}
		}
		if w, x := e.Work(); w != 0 || x != api.ErrReadOnly {
			t.Errorf("%s: Work: %d, %d; want ErrReadOnly", what, w, x)
		}
	}
	if e.Seq() != seq {
		t.Errorf("%s: Seq %d, was %d", what, e.Seq(), seq)
	}
	took(t, what, f, ops, 0)
}

// Disks that are laid by hand

// laid answers a disk with the manifest of these edits, and these files.
func laid(t *testing.T, edits []api.Edit, files map[string]string) *vfs.Fs {
	t.Helper()
	f := fresh(t)
	m, x := manifest.Open(f)
	fine(t, x)
	for _, e := range edits {
		fine(t, m.Append(e))
	}
	for _, name := range slices.Sorted(maps.Keys(files)) {
		put(t, f, name, files[name])
	}
	return f
}

// add is a file that an edit adds.
func add(level int, f api.File) api.Add { return api.Add{Level: level, File: f} }
