package pick_test

import (
	"encoding/binary"
	"fmt"
	"math/bits"
	"slices"
	"strings"
	"testing"

	"bootprint/api"
	"bootprint/pick"
	"bootprint/version"
)

const (
	greatestInt = 1<<63 - 1
	leastInt    = -1 << 63
)

// noLevels are levels that are none.
var noLevels = []int{leastInt, leastInt + 1, -1 << 32, -2, -1, 5, 6, 256, 1 << 32, greatestInt - 1, greatestInt}

// wrongSetups are such as may not be: one number just below or above what it
// may be, or far from it.
func wrongSetups() []api.PickSetup {
	var l []api.PickSetup
	for _, n := range []int{leastInt, -1 << 32, -1, 0, 101, 1 << 32, greatestInt} {
		l = append(l, api.PickSetup{Trigger: n, Base: 100, Factor: 10})
	}
	for _, n := range []int{leastInt, -1 << 32, -1, 0, 1<<30 + 1, 1 << 59, 1 << 60, greatestInt} {
		l = append(l, api.PickSetup{Trigger: 2, Base: n, Factor: 10})
	}
	for _, n := range []int{leastInt, -1 << 32, -1, 0, 1, 101, 1 << 30, 1 << 60, greatestInt} {
		l = append(l, api.PickSetup{Trigger: 2, Base: 100, Factor: n})
	}
	return append(l, api.PickSetup{}, api.PickSetup{Trigger: 101, Base: 1<<30 + 1, Factor: 101})
}

// usual is the setup of the chapter's examples.
var usual = api.PickSetup{Trigger: 2, Base: 100, Factor: 10}

// never is one of which only a version of very many bytes is not at rest.
var never = api.PickSetup{Trigger: 100, Base: 1 << 30, Factor: 100}

// What is handed in

func file(number uint64, size int, least, most string) api.File {
	return api.File{Number: number, Size: size, Least: []byte(least), Most: []byte(most), Entries: 1, MostSeq: 1}
}

// files answers a list of files.
func files(l ...api.File) []api.File { return l }

// of answers a version with those lists, and empty ones behind, whose Next is
// behind all Numbers.
func of(levels ...[]api.File) api.Version {
	v := api.Version{Levels: append(slices.Clone(levels), make([][]api.File, 5-len(levels))...), Next: 1, Seq: 9, Log: 3}
	for _, l := range levels {
		for _, f := range l {
			v.Next = max(v.Next, f.Number+1)
		}
	}
	return v
}

// at answers a version with files on one level.
func at(level int, l ...api.File) api.Version {
	levels := make([][]api.File, level+1)
	levels[level] = l
	return of(levels...)
}

// ranges answers files of level 0 with rising Numbers from 1 on, each with the
// keys from the first to the last letter of a text.
func ranges(l ...string) []api.File {
	var f []api.File
	for i, s := range l {
		f = append(f, file(uint64(i+1), 1, s[:1], s[len(s)-1:]))
	}
	return f
}

// key answers 4 bytes that rise with i.
func key(i int) string {
	return string(binary.BigEndian.AppendUint32(nil, uint32(i)))
}

// row answers n files from a number on, none of which overlaps another one.
func row(from, n, size int) []api.File {
	l := make([]api.File, n)
	for i := range l {
		l[i] = file(uint64(from+i), size, key(2*(from+i)), key(2*(from+i)+1))
	}
	return l
}

// sizes answers n files whose sizes come to so many bytes together.
func sizes(n, bytes int) []api.File {
	l := row(1, n, 0)
	for i := range l {
		l[i].Size = min(bytes, 1<<24)
		bytes -= l[i].Size
	}
	if bytes != 0 {
		panic("more bytes than the files can have")
	}
	return l
}

// What is answered, as texts, so that it is compared whole

func toldFiles(l []api.File) string {
	var s []string
	for _, f := range l {
		s = append(s, fmt.Sprintf("%d of %d (%q to %q, %d up to %d)", f.Number, f.Size, f.Least, f.Most, f.Entries, f.MostSeq))
	}
	return "[" + strings.Join(s, ", ") + "]"
}

func told(j api.Job) string {
	return fmt.Sprintf("level %d, upper %s, lower %s, %q to %q, bottom %t", j.Level, toldFiles(j.Upper), toldFiles(j.Lower), j.Least, j.Most, j.Bottom)
}

func toldVersion(v api.Version) string {
	s := fmt.Sprintf("Next %d, Seq %d, Log %d:", v.Next, v.Seq, v.Log)
	for _, l := range v.Levels {
		s += " " + toldFiles(l)
	}
	return s
}

// numbers writes the Numbers alone.
func numbers(l []api.File) string {
	var s []string
	for _, f := range l {
		s = append(s, fmt.Sprint(f.Number))
	}
	return strings.Join(s, " ")
}

// shortJob writes a job with its files' Numbers alone.
func shortJob(j api.Job) string {
	s := fmt.Sprintf("%d: %s | %s, %s to %s", j.Level, numbers(j.Upper), numbers(j.Lower), j.Least, j.Most)
	if j.Bottom {
		s += ", bottom"
	}
	return s
}

// shortly tells what a text begins with.
func shortly(s string) string {
	if len(s) > 600 {
		return fmt.Sprintf("%s.. (%d bytes)", s[:600], len(s))
	}
	return s
}

// What the package tells

// next fails unless there is a job.
func next(t *testing.T, v api.Version, s api.PickSetup) api.Job {
	t.Helper()
	j, e := pick.Next(v, s)
	if e != api.OK {
		t.Fatalf("Next of %s: %d, want OK", shortly(toldVersion(v)), e)
	}
	return j
}

// isNext fails unless that is the job.
func isNext(t *testing.T, what string, v api.Version, s api.PickSetup, want string) {
	t.Helper()
	if e := version.Check(v); e != api.OK {
		t.Fatalf("%s: the version may not be: %d", what, e)
	}
	j, e := pick.Next(v, s)
	if got := shortJob(j); got != want || e != api.OK {
		t.Errorf("%s: %s, %d; want %s", what, shortly(got), e, shortly(want))
	}
	if pick.Rest(v, s) {
		t.Errorf("%s: at rest", what)
	}
}

// noNext fails unless Next answers that error, and no job.
func noNext(t *testing.T, what string, v api.Version, s api.PickSetup, want api.Errno) {
	t.Helper()
	j, e := pick.Next(v, s)
	if e != want {
		t.Errorf("%s: Next: %d, want %d", what, e, want)
	}
	if j.Level != 0 || len(j.Upper)+len(j.Lower)+len(j.Least)+len(j.Most) != 0 || j.Bottom {
		t.Errorf("%s: Next: %s beside an error", what, shortly(told(j)))
	}
	if got := pick.Rest(v, s); got != (want == api.ErrNone) {
		t.Errorf("%s: Rest: %t beside Next's error %d", what, got, want)
	}
}

// scored fails unless the levels have those scores, and no other level has one.
func scored(t *testing.T, what string, v api.Version, s api.PickSetup, want [5]int) {
	t.Helper()
	for level, n := range want {
		if got := pick.Score(v, s, level); got != n {
			t.Errorf("%s: Score of level %d: %d, want %d", what, level, got, n)
		}
	}
	for _, level := range noLevels {
		if got := pick.Score(v, s, level); got != 0 {
			t.Errorf("%s: Score of level %d: %d, want 0", what, level, got)
		}
	}
}

// source draws numbers, the same ones each time.
type source uint64

func (s *source) below(n int) int {
	*s = source(bits.RotateLeft64(uint64(*s)*6364136223846793005+1442695040888963407, 23))
	return int(uint64(*s) >> 11 % uint64(n))
}

// key draws a short one of few letters, so that many are alike, or begin alike.
func (s *source) key() string {
	b := make([]byte, 1+s.below(2))
	for i := range b {
		b[i] = []byte{0, 'a', 'b', 'c', 'd', 'e', 'f', 255}[s.below(8)]
	}
	return string(b)
}

// version draws one that may be, mostly: Numbers stand in any order, but for
// those of level 0.
func (s *source) version() api.Version {
	levels := make([][]api.File, 5)
	most := 0
	for level := range levels {
		keys := make([]string, s.below(14))
		for i := range keys {
			keys[i] = s.key()
		}
		if level > 0 {
			slices.Sort(keys)
			keys = slices.Compact(keys)
		}
		size := 120 << s.below(2*level+1)
		for i := 0; i+1 < len(keys); i += 2 {
			least, most := min(keys[i], keys[i+1]), max(keys[i], keys[i+1])
			if s.below(4) == 0 {
				most = least
			}
			levels[level] = append(levels[level], file(0, s.below(size), least, most))
		}
		most += len(levels[level])
	}
	s.number(levels, most+s.below(3))
	v := of(levels...)
	if s.below(8) == 0 {
		s.spoil(&v)
	}
	return v
}

// number gives the files Numbers from 1 to most, in any order.
func (s *source) number(levels [][]api.File, most int) {
	all := make([]uint64, most)
	for i := range all {
		j := s.below(i + 1)
		all[i] = all[j]
		all[j] = uint64(i + 1)
	}
	for _, l := range levels {
		for i := range l {
			l[i].Number, all = all[0], all[1:]
		}
	}
	slices.SortFunc(levels[0], func(a, b api.File) int { return int(a.Number) - int(b.Number) })
}

// spoil changes something by which the version may not be any more, mostly.
func (s *source) spoil(v *api.Version) {
	level := s.below(5)
	l := v.Levels[level]
	switch s.below(7) {
	case 0:
		v.Next--
	case 1:
		v.Seq = 1 << 56
	case 2:
		v.Levels = v.Levels[:4]
	case 3:
		slices.Reverse(l)
	case 4:
		v.Levels[level] = append(l, file(v.Next, 1, "a", "c"))
	case 5:
		v.Levels[level] = append(l, file(v.Next-1, 1, "\xff\xff\xff", "\xff\xff\xff"))
	case 6:
		if len(l) > 0 {
			l[s.below(len(l))].Size = -1
		}
	}
}

// setup draws one of small numbers that may be, mostly.
func (s *source) setup() api.PickSetup {
	p := api.PickSetup{Trigger: 1 + s.below(9), Base: 1 + s.below(600), Factor: 2 + s.below(3)}
	switch s.below(30) {
	case 0:
		p.Trigger = 0
	case 1:
		p.Base = 0
	case 2:
		p.Factor = 1
	}
	return p
}
