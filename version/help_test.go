package version_test

import (
	"encoding/binary"
	"fmt"
	"math/bits"
	"strings"
	"testing"

	"bootprint/api"
	"bootprint/version"
)

const (
	greatest    = 1<<64 - 1
	greatestInt = 1<<63 - 1
	leastInt    = -1 << 63

	trillion = 1000 * 1000 * 1000 * 1000
)

// What is handed in

func file(number uint64, least, most string) api.File {
	return api.File{Number: number, Size: 100, Least: []byte(least), Most: []byte(most), Entries: 1, MostSeq: 1}
}

// files answers a list of files, levelsOf the lists of a version: those that are
// handed in, and empty ones behind.
func files(l ...api.File) []api.File { return l }

func levelsOf(l ...[]api.File) [][]api.File {
	return append(l, make([][]api.File, 5-len(l))...)
}

// of answers a version with those lists, whose Next is behind all Numbers.
func of(levels ...[]api.File) api.Version {
	v := api.Version{Levels: levelsOf(levels...), Next: 1, Seq: 9, Log: 3}
	for _, l := range levels {
		for _, f := range l {
			v.Next = max(v.Next, f.Number+1)
		}
	}
	return v
}

// at answers a version with files on one level.
func at(level int, l ...api.File) api.Version {
	levels := make([][]api.File, level+1)
	levels[level] = l
	return of(levels...)
}

// some is a version with files on several levels.
func some() api.Version {
	return of(
		files(file(5, "b", "d"), file(7, "a", "c"), file(8, "x", "z")),
		files(file(3, "a", "c"), file(6, "d", "f")),
		nil,
		files(file(1, "c", "m"), file(4, "n", "p"), file(2, "q", "q")),
	)
}

func add(level int, f api.File) api.Add { return api.Add{Level: level, File: f} }

func drop(level int, number uint64) api.Drop { return api.Drop{Level: level, Number: number} }

// adds and drops answer edits that leave a version's numbers, or raise Next.
func adds(next uint64, l ...api.Add) api.Edit {
	return api.Edit{Adds: l, Next: next, Seq: 9, Log: 3}
}

func drops(next uint64, l ...api.Drop) api.Edit {
	return api.Edit{Drops: l, Next: next, Seq: 9, Log: 3}
}

// key answers n bytes that rise with i.
func key(n, i int) []byte {
	b := make([]byte, n)
	copy(b, binary.BigEndian.AppendUint32(nil, uint32(i)))
	return b
}

// row answers n files from a number on, with Keys of 4 bytes that rise.
func row(from, n int) []api.File {
	l := make([]api.File, n)
	for i := range l {
		l[i] = file(uint64(from+i), string(key(4, 2*(from+i))), string(key(4, 2*(from+i)+1)))
	}
	return l
}

// sized answers a version with files on a level whose whole edit has so many
// bytes.
func sized(t *testing.T, level, bytes int) api.Version {
	t.Helper()
	var l []api.File
	for i := range 127 {
		f := file(uint64(i+1), string(key(4096, 2*i)), string(key(4096, 2*i+1)))
		l = append(l, f)
	}
	l = append(l, file(128, string(key(4000, 256)), string(key(2000, 257))))
	v := at(level, l...)
	last := &v.Levels[level][127]
	missing := bytes - len(plainWhole(v))
	last.Most = key(2000+missing, 257)
	if n := len(plainWhole(v)); n != bytes {
		t.Fatalf("a version of %d bytes has %d", bytes, n)
	}
	return v
}

// What is answered, as texts, so that it is compared whole

func toldFile(f api.File) string {
	return fmt.Sprintf("%d of %d (%q to %q, %d up to %d)", f.Number, f.Size, f.Least, f.Most, f.Entries, f.MostSeq)
}

func toldFiles(l []api.File) string {
	var s []string
	for _, f := range l {
		s = append(s, toldFile(f))
	}
	return "[" + strings.Join(s, ", ") + "]"
}

func told(v api.Version) string {
	s := fmt.Sprintf("Next %d, Seq %d, Log %d:", v.Next, v.Seq, v.Log)
	for _, l := range v.Levels {
		s += " " + toldFiles(l)
	}
	return s
}

func toldEdit(e api.Edit) string {
	var s strings.Builder
	fmt.Fprintf(&s, "Next %d, Seq %d, Log %d:", e.Next, e.Seq, e.Log)
	for _, d := range e.Drops {
		fmt.Fprintf(&s, " drop %d at %d;", d.Number, d.Level)
	}
	for _, a := range e.Adds {
		fmt.Fprintf(&s, " add %s at %d;", toldFile(a.File), a.Level)
	}
	return s.String()
}

// numbers writes the Numbers alone.
func numbers(l []api.File) string {
	var s []string
	for _, f := range l {
		s = append(s, fmt.Sprint(f.Number))
	}
	return strings.Join(s, " ")
}

// numbersOf writes the Numbers of each level.
func numbersOf(v api.Version) string {
	var s []string
	for _, l := range v.Levels {
		s = append(s, numbers(l))
	}
	return strings.Join(s, "|")
}

// What the package tells

// fine fails unless the error is OK.
func fine(t *testing.T, what string, e api.Errno) {
	t.Helper()
	if e != api.OK {
		t.Fatalf("%s: %d, want OK", what, e)
	}
}

// refused fails unless e is the error that is wanted.
func refused(t *testing.T, what string, e, want api.Errno) {
	t.Helper()
	if e != want {
		t.Errorf("%s: %d, want %d", what, e, want)
	}
}

func applied(t *testing.T, v api.Version, e api.Edit) api.Version {
	t.Helper()
	w, err := version.Apply(v, e)
	fine(t, "Apply", err)
	return w
}

func whole(t *testing.T, v api.Version) api.Edit {
	t.Helper()
	e, err := version.Whole(v)
	fine(t, "Whole", err)
	return e
}

func appended(t *testing.T, p string, e api.Edit) []byte {
	t.Helper()
	b, err := version.Append([]byte(p), e)
	fine(t, "Append", err)
	return b
}

func parsed(t *testing.T, p []byte) api.Edit {
	t.Helper()
	e, err := version.Parse(p)
	fine(t, "Parse", err)
	return e
}

// checks fails unless Check answers want, and each call that asks whether a
// version may be goes along with it.
func checks(t *testing.T, what string, v api.Version, want api.Errno) {
	t.Helper()
	refused(t, what+": Check", version.Check(v), want)
	if want == api.OK {
		return
	}
	w, e := version.Apply(v, api.Edit{Next: v.Next, Seq: v.Seq, Log: v.Log})
	refused(t, what+": Apply", e, want)
	noVersion(t, what, w)
	// Check's error of it is told ahead of all others.
	w, e = version.Apply(v, api.Edit{Drops: []api.Drop{drop(9, 9)}, Adds: []api.Add{add(-1, api.File{}), add(-1, api.File{})}})
	refused(t, what+": Apply of a wrong edit", e, want)
	noVersion(t, what, w)
	edit, e := version.Whole(v)
	refused(t, what+": Whole", e, want)
	noEdit(t, what, edit)
	nothingOf(t, what, v)
}

// nothingOf fails unless Overlap, Bytes and Deepest tell nothing of a version
// that may not be.
func nothingOf(t *testing.T, what string, v api.Version) {
	t.Helper()
	for level := -1; level <= len(v.Levels); level++ {
		if l := version.Overlap(v, level, nil, nil); len(l) != 0 {
			t.Errorf("%s: Overlap of level %d: %s, want nothing", what, level, shortly(numbers(l)))
		}
		if n := version.Bytes(v, level); n != 0 {
			t.Errorf("%s: Bytes of level %d: %d, want 0", what, level, n)
		}
		if !version.Deepest(v, level, nil, nil) {
			t.Errorf("%s: Deepest of level %d: no, want yes", what, level)
		}
	}
}

func noVersion(t *testing.T, what string, v api.Version) {
	t.Helper()
	if len(v.Levels) != 0 || v.Next != 0 || v.Seq != 0 || v.Log != 0 {
		t.Errorf("%s: %s beside an error, want nothing", what, shortly(told(v)))
	}
}

func noEdit(t *testing.T, what string, e api.Edit) {
	t.Helper()
	if len(e.Drops) != 0 || len(e.Adds) != 0 || e.Next != 0 || e.Seq != 0 || e.Log != 0 {
		t.Errorf("%s: %s beside an error, want nothing", what, shortly(toldEdit(e)))
	}
}

// cannot fails unless Apply answers that error, and no version.
func cannot(t *testing.T, what string, v api.Version, e api.Edit, want api.Errno) {
	t.Helper()
	w, err := version.Apply(v, e)
	refused(t, what, err, want)
	noVersion(t, what, w)
}

// noBytes fails unless Append answers that error, and no bytes.
func noBytes(t *testing.T, what string, e api.Edit, want api.Errno) {
	t.Helper()
	for _, ahead := range []string{"", "p"} {
		p, err := version.Append([]byte(ahead), e)
		refused(t, what, err, want)
		if len(p) != 0 {
			t.Errorf("%s: %d bytes beside an error", what, len(p))
		}
	}
}

// unread fails unless Parse answers that error, and no edit.
func unread(t *testing.T, what string, p []byte, want api.Errno) {
	t.Helper()
	e, err := version.Parse(p)
	refused(t, what, err, want)
	noEdit(t, what, e)
}

// source draws numbers, the same ones each time.
type source uint64

func (s *source) below(n int) int {
	*s = source(bits.RotateLeft64(uint64(*s)*6364136223846793005+1442695040888963407, 23))
	return int(uint64(*s) >> 11 % uint64(n))
}

// key draws a short one of few letters, so that many are alike, or begin alike.
func (s *source) key() []byte {
	b := make([]byte, 1+s.below(2))
	for i := range b {
		b[i] = []byte{0, 'a', 'b', 'c', 'd', 255}[s.below(6)]
	}
	return b
}

// file draws one that may be, mostly.
func (s *source) file(number uint64) api.File {
	least, most := s.key(), s.key()
	if string(least) > string(most) && s.below(50) > 0 {
		least, most = most, least
	}
	f := api.File{Number: number, Size: s.below(1000), Least: least, Most: most, Entries: 1 + s.below(9), MostSeq: uint64(s.below(99))}
	switch s.below(200) {
	case 0:
		f.Size = -1
	case 1:
		f.Size = 1<<24 + s.below(2)
	case 2:
		f.Entries = 0
	case 3:
		f.Entries = 1<<24 + s.below(2)
	case 4:
		f.MostSeq = 1<<56 - 1 + uint64(s.below(2))
	case 5:
		f.Least = nil
	case 6:
		f.Most = key(4096+s.below(2), 1<<32-1)
	}
	return f
}

// shortly tells what a text begins with.
func shortly(s string) string {
	if len(s) > 600 {
		return fmt.Sprintf("%s.. (%d bytes)", s[:600], len(s))
	}
	return s
}
