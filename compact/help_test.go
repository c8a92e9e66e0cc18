package compact_test

import (
	"fmt"
	"math/bits"
	"slices"
	"strings"
	"testing"

	"bootprint/api"
	"bootprint/compact"
	"bootprint/merge"
)

const (
	greatest    = 1<<64 - 1
	greatestInt = 1<<63 - 1
	leastInt    = -1 << 63
	mostTarget  = 1 << 24
)

func put(key string, seq uint64, value string) api.Entry {
	return api.Entry{Key: []byte(key), Seq: seq, Kind: api.WritePut, Value: []byte(value)}
}

func del(key string, seq uint64) api.Entry {
	return api.Entry{Key: []byte(key), Seq: seq, Kind: api.WriteDelete}
}

// row answers a list of entries, rowsOf a list of rows, at a list of numbers.
func row(l ...api.Entry) []api.Entry        { return l }
func rowsOf(l ...[]api.Entry) [][]api.Entry { return l }
func at(looks ...uint64) []uint64           { return looks }

// puts answers entries of one Key, none of which has a Value.
func puts(key string, seqs ...uint64) []api.Entry {
	var l []api.Entry
	for _, seq := range seqs {
		l = append(l, put(key, seq, ""))
	}
	return l
}

// sized answers an entry of a size from 33 on.
func sized(letter string, seq uint64, size int) api.Entry {
	return put(letter, seq, strings.Repeat("v", size-33))
}

// told writes entries as a text, so that they are compared whole.
func told(l ...api.Entry) string {
	s := ""
	for _, e := range l {
		s += fmt.Sprintf("%q at %d: %d %q; ", e.Key, e.Seq, e.Kind, e.Value)
	}
	return s
}

// toldRows writes rows, or files, as a text.
func toldRows(rows [][]api.Entry) string {
	s := ""
	for _, l := range rows {
		s += "[" + told(l...) + "] "
	}
	return s
}

// spots writes Keys and Seqs alone, "D" behind those of deletes.
func spots(l []api.Entry) string {
	var s []string
	for _, e := range l {
		spot := fmt.Sprintf("%s%d", e.Key, e.Seq)
		if e.Kind == api.WriteDelete {
			spot += "D"
		}
		s = append(s, spot)
	}
	return strings.Join(s, " ")
}

// toldFiles writes files by Keys and Seqs alone.
func toldFiles(files [][]api.Entry) string {
	var s []string
	for _, l := range files {
		s = append(s, spots(l))
	}
	return strings.Join(s, " | ")
}

// What the package tells

func visible(t *testing.T, l []api.Entry, looks []uint64) []bool {
	t.Helper()
	seen, e := compact.Visible(l, looks)
	fine(t, "Visible", e)
	return seen
}

func left(t *testing.T, l []api.Entry, looks []uint64, bottom bool) []api.Entry {
	t.Helper()
	l, e := compact.Row(l, looks, bottom)
	fine(t, "Row", e)
	return l
}

func files(t *testing.T, l []api.Entry, target int) [][]api.Entry {
	t.Helper()
	f, e := compact.Cut(l, target)
	fine(t, "Cut", e)
	return f
}

func run(t *testing.T, rows [][]api.Entry, looks []uint64, bottom bool, target int) [][]api.Entry {
	t.Helper()
	f, e := compact.Run(rows, looks, bottom, target)
	fine(t, "Run", e)
	return f
}

// whoSees fails unless those of the row that are seen at looks are the ones that
// are wanted.
func whoSees(t *testing.T, what string, l []api.Entry, looks []uint64, want string) {
	t.Helper()
	seen := visible(t, l, looks)
	if len(seen) != len(l) {
		t.Fatalf("%s: %d are told of, want %d", what, len(seen), len(l))
	}
	var of []api.Entry
	for i, ok := range seen {
		if ok {
			of = append(of, l[i])
		}
	}
	if spots(of) != want {
		t.Errorf("%s: %s is seen at %d: %s, want %s", what, spots(l), looks, spots(of), want)
	}
}

// leaves fails unless what is left of the row is what is wanted.
func leaves(t *testing.T, what string, l []api.Entry, looks []uint64, bottom bool, want string) {
	t.Helper()
	if got := spots(left(t, l, looks, bottom)); got != want {
		t.Errorf("%s: left of %s at %d, bottom %t: %s, want %s", what, spots(l), looks, bottom, got, want)
	}
}

// cuts fails unless the files are those that are wanted.
func cuts(t *testing.T, what string, l []api.Entry, target int, want string) {
	t.Helper()
	if got := toldFiles(files(t, l, target)); got != want {
		t.Errorf("%s by %d: %s, want %s", what, target, shortly(got), shortly(want))
	}
}

// noRow fails unless each call refuses the row, at looks and by a target.
func noRow(t *testing.T, what string, l []api.Entry, looks []uint64, target int) {
	t.Helper()
	noLooks(t, what, l, looks)
	noTarget(t, what, l, target)
	for _, bottom := range []bool{false, true} {
		noRun(t, what, rowsOf(l), looks, bottom, target)
	}
}

func noLooks(t *testing.T, what string, l []api.Entry, looks []uint64) {
	t.Helper()
	seen, e := compact.Visible(l, looks)
	if len(seen) != 0 || e != api.ErrArg {
		t.Errorf("%s: Visible: %t, %d, want ErrArg", what, seen, e)
	}
	for _, bottom := range []bool{false, true} {
		if l, e := compact.Row(l, looks, bottom); len(l) != 0 || e != api.ErrArg {
			t.Errorf("%s: Row: %s, %d, want ErrArg", what, told(l...), e)
		}
	}
}

func noTarget(t *testing.T, what string, l []api.Entry, target int) {
	t.Helper()
	if f, e := compact.Cut(l, target); len(f) != 0 || e != api.ErrArg {
		t.Errorf("%s: Cut by %d: %s, %d, want ErrArg", what, target, toldRows(f), e)
	}
}

func noRun(t *testing.T, what string, rows [][]api.Entry, looks []uint64, bottom bool, target int) {
	t.Helper()
	if f, e := compact.Run(rows, looks, bottom, target); len(f) != 0 || e != api.ErrArg {
		t.Errorf("%s: Run by %d: %s, %d, want ErrArg", what, target, toldRows(f), e)
	}
}

// seenAt answers what merge.Seen tells of a row.
func seenAt(t *testing.T, l []api.Entry, seq uint64) string {
	t.Helper()
	l, e := merge.Seen(rowsOf(l), seq)
	fine(t, "Seen", e)
	return told(l...)
}

// source draws numbers, the same ones each time.
type source uint64

func (s *source) below(n int) int {
	*s = source(bits.RotateLeft64(uint64(*s)*6364136223846793005+1442695040888963407, 23))
	return int(uint64(*s) >> 11 % uint64(n))
}

// key draws a short one of few letters, or none, so that many are alike, or
// begin alike.
func (s *source) key() []byte {
	b := make([]byte, s.below(3))
	for i := range b {
		b[i] = []byte{0, 'a', 'b', 255}[s.below(4)]
	}
	return b
}

// seq draws one of few, among them such as may not be.
func (s *source) seq() uint64 {
	return []uint64{0, 1, 2, 3, 4, 5, 6, api.MaxSeq - 1, api.MaxSeq, api.MaxSeq + 1, greatest}[s.below(11)]
}

// kind draws one, now and then one that is none.
func (s *source) kind() int {
	return []int{1, 1, 1, 1, 2, 2, 2, 2, 0, 3, -1}[s.below(11)]
}

// row draws a row of at most so many entries.
func (s *source) row(most int) []api.Entry {
	var l []api.Entry
	for range s.below(most + 1) {
		l = append(l, api.Entry{Key: s.key(), Seq: s.seq(), Kind: s.kind(), Value: []byte(strings.Repeat("v", s.below(20)))})
	}
	return plainAll(rowsOf(l))
}

func (s *source) rows(n, most int) [][]api.Entry {
	rows := make([][]api.Entry, n)
	for i := range rows {
		rows[i] = s.row(most)
	}
	return rows
}

// looks draws such as may be.
func (s *source) looks() []uint64 {
	var l []uint64
	for _, look := range []uint64{0, 1, 2, 3, 4, 5, 6, 7, api.MaxSeq - 1, api.MaxSeq} {
		if s.below(4) == 0 {
			l = append(l, look)
		}
	}
	return l
}

// bent draws a list that may be no row: two of its entries changed their places,
// or one stands twice.
func (s *source) bent(l []api.Entry) []api.Entry {
	l = slices.Clone(l)
	if len(l) == 0 {
		return l
	}
	i, j := s.below(len(l)), s.below(len(l))
	if s.below(2) == 0 {
		return slices.Insert(l, i, l[j])
	}
	l[i], l[j] = l[j], l[i]
	return l
}

// fine fails unless the error is OK.
func fine(t *testing.T, what string, e api.Errno) {
	t.Helper()
	if e != api.OK {
		t.Fatalf("%s: %d, want OK", what, e)
	}
}

// shortly tells what a text begins with.
func shortly(s string) string {
	if len(s) > 300 {
		return fmt.Sprintf("%s.. (%d bytes)", s[:300], len(s))
	}
	return s
}
