package merge_test

import (
	"fmt"
	"math/bits"
	"slices"
	"testing"

	"bootprint/api"
	"bootprint/merge"
)

const (
	greatest    = 1<<64 - 1
	greatestInt = 1<<63 - 1
	leastInt    = -1 << 63
)

func put(key string, seq uint64, value string) api.Entry {
	return api.Entry{Key: []byte(key), Seq: seq, Kind: api.WritePut, Value: []byte(value)}
}

func del(key string, seq uint64) api.Entry {
	return api.Entry{Key: []byte(key), Seq: seq, Kind: api.WriteDelete}
}

// row answers a list of entries, rowsOf a list of rows.
func row(l ...api.Entry) []api.Entry        { return l }
func rowsOf(l ...[]api.Entry) [][]api.Entry { return l }

// told writes entries as a text, so that they are compared whole.
func told(l ...api.Entry) string {
	s := ""
	for _, e := range l {
		s += fmt.Sprintf("%q at %d: %d %q; ", e.Key, e.Seq, e.Kind, e.Value)
	}
	return s
}

// toldRows writes rows as a text.
func toldRows(rows [][]api.Entry) string {
	s := ""
	for _, l := range rows {
		s += "[" + told(l...) + "] "
	}
	return s
}

// places writes Keys and Seqs alone.
func places(l []api.Entry) string {
	s := ""
	for _, e := range l {
		s += fmt.Sprintf("%q at %d; ", e.Key, e.Seq)
	}
	return s
}

// By the chapter's words

// ahead tells the order of entries.
func ahead(a, b api.Entry) bool {
	if string(a.Key) != string(b.Key) {
		return string(a.Key) < string(b.Key)
	}
	return a.Seq > b.Seq
}

func sameKey(a, b api.Entry) bool { return string(a.Key) == string(b.Key) }

// isRow holds each entry against all behind it.
func isRow(l []api.Entry) bool {
	for i := range l {
		for j := range i {
			if !ahead(l[j], l[i]) {
				return false
			}
		}
	}
	return true
}

// plainAll merges rows: of the same the first row's, then all sorted.
func plainAll(rows [][]api.Entry) []api.Entry {
	var l []api.Entry
	for _, r := range rows {
		for _, e := range r {
			if !slices.ContainsFunc(l, func(x api.Entry) bool { return sameKey(x, e) && x.Seq == e.Seq }) {
				l = append(l, e)
			}
		}
	}
	slices.SortFunc(l, func(a, b api.Entry) int {
		if ahead(a, b) {
			return -1
		}
		return 1
	})
	return l
}

// plainBetween holds each entry against all others.
func plainBetween(rows [][]api.Entry, from, to string, seq uint64, n int) []api.Entry {
	var l []api.Entry
	all := plainAll(rows)
	for _, e := range all {
		newer := func(x api.Entry) bool { return sameKey(x, e) && x.Seq <= seq && x.Seq > e.Seq }
		switch {
		case e.Seq > seq, e.Kind != api.WritePut, slices.ContainsFunc(all, newer):
		case string(e.Key) < from, to != "" && string(e.Key) >= to:
		case len(l) < n:
			l = append(l, e)
		}
	}
	return l
}

func plainSeen(rows [][]api.Entry, seq uint64) []api.Entry {
	return plainBetween(rows, "", "", seq, greatestInt)
}

// What the package tells

func all(t *testing.T, rows [][]api.Entry) []api.Entry {
	t.Helper()
	l, e := merge.All(rows)
	fine(t, "All", e)
	return l
}

func seen(t *testing.T, rows [][]api.Entry, seq uint64) []api.Entry {
	t.Helper()
	l, e := merge.Seen(rows, seq)
	fine(t, "Seen", e)
	return l
}

func between(t *testing.T, rows [][]api.Entry, from, to string, seq uint64, n int) []api.Entry {
	t.Helper()
	l, e := merge.Between(rows, []byte(from), []byte(to), seq, n)
	fine(t, "Between", e)
	return l
}

func merger(t *testing.T, rows [][]api.Entry) *merge.Merger {
	t.Helper()
	m, e := merge.New(rows)
	fine(t, "New", e)
	if m == nil {
		t.Fatal("New answers no merger")
	}
	return m
}

// rest takes what a merger has left, and fails unless Left and Peek go along.
func rest(t *testing.T, m *merge.Merger) []api.Entry {
	t.Helper()
	var l []api.Entry
	for left := m.Left(); left > 0; left-- {
		for range 2 {
			if m.Left() != left {
				t.Fatalf("Left: %d, want %d", m.Left(), left)
			}
		}
		x, ok := m.Peek()
		again, okAgain := m.Peek()
		e, okNext := m.Next()
		if !ok || !okAgain || !okNext || told(x) != told(e) || told(again) != told(e) {
			t.Fatalf("Peek: %s%t, then %s%t, but Next: %s%t", told(x), ok, told(again), okAgain, told(e), okNext)
		}
		l = append(l, e)
	}
	atEnd(t, m)
	return l
}

// taken takes what a merger has left by Next alone.
func taken(m *merge.Merger) []api.Entry {
	var l []api.Entry
	for e, ok := m.Next(); ok; e, ok = m.Next() {
		l = append(l, e)
	}
	return l
}

// atEnd fails unless a merger tells nothing, however often it is asked.
func atEnd(t *testing.T, m *merge.Merger) {
	t.Helper()
	for range 3 {
		x, ok := m.Next()
		nothing(t, "Next", x, ok)
		x, ok = m.Peek()
		nothing(t, "Peek", x, ok)
		if m.Left() != 0 {
			t.Errorf("Left: %d, want 0", m.Left())
		}
	}
}

func nothing(t *testing.T, what string, x api.Entry, ok bool) {
	t.Helper()
	if x.Key != nil || x.Seq != 0 || x.Kind != 0 || x.Value != nil || ok {
		t.Errorf("%s: %s%t, want nothing", what, told(x), ok)
	}
}

// tells fails unless the list is what is wanted.
func tells(t *testing.T, what string, l []api.Entry, want ...api.Entry) {
	t.Helper()
	if told(l...) != told(want...) {
		t.Errorf("%s: %s, want %s", what, shortly(told(l...)), shortly(told(want...)))
	}
}

// none fails unless rows are refused by each call that takes rows.
func none(t *testing.T, what string, rows [][]api.Entry) {
	t.Helper()
	if m, e := merge.New(rows); m != nil || e != api.ErrArg {
		t.Errorf("%s: New: %v, %d, want ErrArg", what, m, e)
	}
	if l, e := merge.All(rows); len(l) != 0 || e != api.ErrArg {
		t.Errorf("%s: All: %s, %d, want ErrArg", what, told(l...), e)
	}
	for _, seq := range []uint64{0, 1, greatest} {
		if l, e := merge.Seen(rows, seq); len(l) != 0 || e != api.ErrArg {
			t.Errorf("%s: Seen at %d: %s, %d, want ErrArg", what, seq, told(l...), e)
		}
		for _, n := range []int{leastInt, -1, 0, 1, greatestInt} {
			for _, to := range []string{"", "a", "\x00", "zz"} {
				if l, e := merge.Between(rows, []byte("z"), []byte(to), seq, n); len(l) != 0 || e != api.ErrArg {
					t.Errorf("%s: Between z and %q at %d, %d: %s, %d, want ErrArg", what, to, seq, n, told(l...), e)
				}
			}
		}
	}
}

// asPlain fails unless every call tells of rows what is told by the chapter's
// words.
func asPlain(t *testing.T, rows [][]api.Entry, seqs []uint64, keys []string, counts []int) {
	t.Helper()
	want := told(plainAll(rows)...)
	if got := told(all(t, rows)...); got != want {
		t.Fatalf("All of %s: %s, want %s", toldRows(rows), got, want)
	}
	if m := merger(t, rows); m.Left() != len(plainAll(rows)) {
		t.Fatalf("Left of %s: %d, want %d", toldRows(rows), m.Left(), len(plainAll(rows)))
	}
	if got := told(rest(t, merger(t, rows))...); got != want {
		t.Fatalf("a merger of %s: %s, want %s", toldRows(rows), got, want)
	}
	for _, seq := range seqs {
		if got, want := told(seen(t, rows, seq)...), told(plainSeen(rows, seq)...); got != want {
			t.Fatalf("Seen of %s at %d: %s, want %s", toldRows(rows), seq, got, want)
		}
		for _, from := range keys {
			for _, to := range keys {
				for _, n := range counts {
					got, want := told(between(t, rows, from, to, seq, n)...), told(plainBetween(rows, from, to, seq, n)...)
					if got != want {
						t.Fatalf("Between %q and %q of %s at %d, %d: %s, want %s", from, to, toldRows(rows), seq, n, got, want)
					}
				}
			}
		}
	}
}

// source draws numbers, the same ones each time.
type source uint64

func (s *source) below(n int) int {
	*s = source(bits.RotateLeft64(uint64(*s)*6364136223846793005+1442695040888963407, 23))
	return int(uint64(*s) >> 11 % uint64(n))
}

// key draws a short one of few letters, or none, so that many are alike, or
// begin alike.
func (s *source) key() []byte {
	b := make([]byte, s.below(4))
	for i := range b {
		b[i] = []byte{0, 'a', 'b', 255}[s.below(4)]
	}
	return b
}

// seq draws one of few, among them such as may not be.
func (s *source) seq() uint64 {
	return []uint64{0, 1, 2, 3, 4, api.MaxSeq, api.MaxSeq + 1, greatest}[s.below(8)]
}

// kind draws one, now and then one that is none.
func (s *source) kind() int {
	return []int{1, 1, 1, 1, 2, 2, 2, 0, 3, -1}[s.below(10)]
}

// row draws a row of at most so many entries.
func (s *source) row(most int) []api.Entry {
	var l []api.Entry
	for range s.below(most + 1) {
		l = append(l, api.Entry{Key: s.key(), Seq: s.seq(), Kind: s.kind(), Value: fmt.Append(nil, s.below(1000))})
	}
	return plainAll(rowsOf(l))
}

func (s *source) rows(n, most int) [][]api.Entry {
	rows := make([][]api.Entry, n)
	for i := range rows {
		rows[i] = s.row(most)
	}
	return rows
}

// shuffled answers the rows in another order.
func (s *source) shuffled(rows [][]api.Entry) [][]api.Entry {
	rows = slices.Clone(rows)
	for i := len(rows) - 1; i > 0; i-- {
		j := s.below(i + 1)
		rows[i], rows[j] = rows[j], rows[i]
	}
	return rows
}

// fine fails unless the error is OK.
func fine(t *testing.T, what string, e api.Errno) {
	t.Helper()
	if e != api.OK {
		t.Fatalf("%s: %d, want OK", what, e)
	}
}

// refused fails unless e is the error that is wanted.
func refused(t *testing.T, what string, e, want api.Errno) {
	t.Helper()
	if e != want {
		t.Errorf("%s: %d, want %d", what, e, want)
	}
}

// shortly tells what a text begins with.
func shortly(s string) string {
	if len(s) > 300 {
		return fmt.Sprintf("%s.. (%d bytes)", s[:300], len(s))
	}
	return s
}
