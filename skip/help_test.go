package skip_test

import (
	"bytes"
	"fmt"
	"math/bits"
	"slices"
	"testing"

	"bootprint/api"
	"bootprint/skip"
)

const greatest = 1<<64 - 1

func put(key string, seq uint64, value string) api.Entry {
	return api.Entry{Key: []byte(key), Seq: seq, Kind: api.WritePut, Value: []byte(value)}
}

func del(key string, seq uint64) api.Entry {
	return api.Entry{Key: []byte(key), Seq: seq, Kind: api.WriteDelete}
}

// sized answers an entry with a Key and a Value of so many bytes.
func sized(kind, key, value int, seq uint64) api.Entry {
	return api.Entry{Key: bytes.Repeat([]byte{'k'}, key), Seq: seq, Kind: kind, Value: bytes.Repeat([]byte{'v'}, value)}
}

// tall is an entry, and how high its tower is.
type tall struct {
	entry  api.Entry
	height int
}

// plain is a table by the chapter's words: a sorted list.
type plain []tall

// isAhead tells the order of entries as the chapter of batches says it.
func isAhead(a api.Entry, key []byte, seq uint64) bool {
	if string(a.Key) != string(key) {
		return string(a.Key) < string(key)
	}
	return a.Seq > seq
}

// place tells how many entries are ahead of one of key and seq.
func (p plain) place(key []byte, seq uint64) int {
	n := 0
	for _, x := range p {
		if isAhead(x.entry, key, seq) {
			n++
		}
	}
	return n
}

func (p plain) height(key []byte, seq uint64) int {
	for _, x := range p {
		if string(x.entry.Key) == string(key) && x.entry.Seq == seq {
			return x.height
		}
	}
	return 0
}

func (p *plain) insert(e api.Entry, height int) api.Errno {
	switch {
	case e.Kind != 1 && e.Kind != 2, len(e.Key) == 0, e.Kind == 2 && len(e.Value) > 0, e.Seq == 0:
		return api.ErrArg
	case len(e.Key) > 4096, len(e.Value) > 65536, e.Seq > 1<<56-1:
		return api.ErrLong
	case height < 1, height > 12:
		return api.ErrArg
	case p.height(e.Key, e.Seq) != 0:
		return api.ErrThere
	}
	*p = slices.Insert(*p, p.place(e.Key, e.Seq), tall{e, height})
	return api.OK
}

func (p plain) get(key []byte, seq uint64) (api.Entry, api.Errno) {
	best := api.Entry{}
	for _, x := range p {
		if string(x.entry.Key) == string(key) && x.entry.Seq <= seq && x.entry.Seq > best.Seq {
			best = x.entry
		}
	}
	if best.Seq == 0 {
		return api.Entry{}, api.ErrNone
	}
	return best, api.OK
}

func (p plain) seek(key []byte, seq uint64) (api.Entry, bool) {
	for _, x := range p {
		if !isAhead(x.entry, key, seq) {
			return x.entry, true
		}
	}
	return api.Entry{}, false
}

func (p plain) from(key []byte, n int) []api.Entry {
	var l []api.Entry
	for _, x := range p {
		if len(l) < n && string(x.entry.Key) >= string(key) {
			l = append(l, x.entry)
		}
	}
	return l
}

func (p plain) size() int {
	n := 0
	for _, x := range p {
		n += len(x.entry.Key) + len(x.entry.Value) + 32
	}
	return n
}

// steps goes over the towers as the chapter says, level by level.
func (p plain) steps(key []byte, seq uint64) int {
	n, at, level := 0, -1, 12
	for level > 0 {
		next := at + 1
		for next < len(p) && p[next].height < level {
			next++
		}
		if next < len(p) && isAhead(p[next].entry, key, seq) {
			at = next
		} else {
			level--
		}
		n++
	}
	return n
}

// told writes entries as a text, so that they are compared whole.
func told(l ...api.Entry) string {
	s := ""
	for _, e := range l {
		s += fmt.Sprintf("%q at %d: %d %q; ", e.Key, e.Seq, e.Kind, e.Value)
	}
	return s
}

// tells writes all that a table tells without a question.
func tells(s *skip.Table) string {
	return fmt.Sprint(s.Len(), " of size ", s.Size(), ": ", told(s.All()...))
}

// laid writes where its entries' towers stand, and how high they are.
func laid(s *skip.Table) string {
	text := tells(s)
	for _, e := range s.All() {
		text += fmt.Sprint(" ", s.Height(e.Key, e.Seq), "/", s.Steps(e.Key, e.Seq))
	}
	return text
}

// of makes a table of these entries, put in in their order.
func of(t *testing.T, towers ...tall) *skip.Table {
	t.Helper()
	s := skip.New()
	for _, x := range towers {
		fine(t, "Insert of "+shortly(told(x.entry)), s.Insert(x.entry, x.height))
	}
	return s
}

// flat makes a table of these entries, whose towers are all of that height.
func flat(t *testing.T, height int, entries ...api.Entry) *skip.Table {
	t.Helper()
	var towers []tall
	for _, e := range entries {
		towers = append(towers, tall{e, height})
	}
	return of(t, towers...)
}

// asks are keys and numbers that are worth being asked for: the entries' own,
// and such as are just beside.
func asks(p plain) (keys [][]byte, seqs []uint64) {
	keys, seqs = [][]byte{nil, {0}, {255}, {255, 255}}, []uint64{0, 1, api.MaxSeq, api.MaxSeq + 1, greatest}
	for _, x := range p {
		k := x.entry.Key
		keys = append(keys, k, append(bytes.Clone(k), 0), k[:len(k)-1])
		seqs = append(seqs, x.entry.Seq-1, x.entry.Seq, x.entry.Seq+1)
	}
	slices.SortFunc(keys, bytes.Compare)
	slices.Sort(seqs)
	return slices.CompactFunc(keys, bytes.Equal), slices.Compact(seqs)
}

// asTold fails unless the table tells what the plain one does, whatever is asked.
func asTold(t *testing.T, s *skip.Table, p plain) {
	t.Helper()
	all := p.from(nil, len(p))
	if want := fmt.Sprint(len(p), " of size ", p.size(), ": ", told(all...)); tells(s) != want {
		t.Fatalf("the table tells %s, want %s", tells(s), want)
	}
	keys, seqs := asks(p)
	for _, key := range keys {
		for _, seq := range seqs {
			asksTold(t, s, p, key, seq)
		}
		for _, n := range []int{-1, 0, 1, 2, len(p) - 1, len(p), len(p) + 1, 1 << 62} {
			if l, want := s.From(key, n), p.from(key, n); told(l...) != told(want...) {
				t.Fatalf("From %q %d: %s, want %s", key, n, told(l...), told(want...))
			}
		}
	}
}

func asksTold(t *testing.T, s *skip.Table, p plain, key []byte, seq uint64) {
	t.Helper()
	e, err := s.Get(key, seq)
	if want, wantErr := p.get(key, seq); told(e) != told(want) || err != wantErr {
		t.Fatalf("Get %q %d: %s%d, want %s%d", key, seq, told(e), err, told(want), wantErr)
	}
	e, ok := s.Seek(key, seq)
	if want, wantOk := p.seek(key, seq); told(e) != told(want) || ok != wantOk {
		t.Fatalf("Seek %q %d: %s%t, want %s%t", key, seq, told(e), ok, told(want), wantOk)
	}
	if n, want := s.Height(key, seq), p.height(key, seq); n != want {
		t.Fatalf("Height %q %d: %d, want %d", key, seq, n, want)
	}
	n, want := s.Steps(key, seq), p.steps(key, seq)
	if n != want || n < 12 || n > len(p)+12 {
		t.Fatalf("Steps %q %d in %s: %d, want %d", key, seq, laid(s), n, want)
	}
}

// source draws numbers, the same ones each time.
type source uint64

func (s *source) below(n int) int {
	*s = source(bits.RotateLeft64(uint64(*s)*6364136223846793005+1442695040888963407, 23))
	return int(uint64(*s) >> 11 % uint64(n))
}

// key draws a short one of few letters, so that many are alike, or begin alike.
func (s *source) key() []byte {
	b := make([]byte, 1+s.below(3))
	for i := range b {
		b[i] = []byte{0, 'a', 'b', 255}[s.below(4)]
	}
	return b
}

// seq draws one of few.
func (s *source) seq() uint64 {
	return []uint64{1, 2, 3, 4, 5, 1 << 32, api.MaxSeq - 1, api.MaxSeq}[s.below(8)]
}

func (s *source) entry() api.Entry {
	e := api.Entry{Key: s.key(), Seq: s.seq(), Kind: api.WriteDelete}
	if s.below(3) > 0 {
		e.Kind, e.Value = api.WritePut, bytes.Repeat([]byte{'v'}, s.below(5))
	}
	return e
}

// height draws low ones more often, as a table in use has them.
func (s *source) height() int {
	n := 1
	for n < 12 && s.below(3) == 0 {
		n++
	}
	return n
}

// plain draws a table, no two of whose entries are the same.
func (s *source) plain(n int) plain {
	var p plain
	for range n {
		p.insert(s.entry(), s.height())
	}
	return p
}

func (s *source) shuffle(towers []tall) {
	for i := len(towers) - 1; i > 0; i-- {
		j := s.below(i + 1)
		towers[i], towers[j] = towers[j], towers[i]
	}
}

// fine fails unless the error is OK.
func fine(t *testing.T, what string, e api.Errno) {
	t.Helper()
	if e != api.OK {
		t.Fatalf("%s: %d, want OK", what, e)
	}
}

// refused fails unless e is the error that is wanted.
func refused(t *testing.T, what string, e, want api.Errno) {
	t.Helper()
	if e != want {
		t.Errorf("%s: %d, want %d", what, e, want)
	}
}

// shortly tells what a text begins with.
func shortly(s string) string {
	if len(s) > 60 {
		return fmt.Sprintf("%s.. (%d bytes)", s[:60], len(s))
	}
	return s
}
