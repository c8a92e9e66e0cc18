package skip_test

import (
	"bytes"
	"fmt"
	"math"
	"testing"

	"bootprint/api"
	"bootprint/skip"
)

// spoil overwrites lists, their spare room too.
func spoil(lists ...[]byte) {
	for _, l := range lists {
		room := l[:cap(l)]
		for i := range room {
			room[i] = 0x55
		}
	}
}

// apart fails if two of the lists share memory, their spare room too.
func apart(t *testing.T, what string, lists ...[]byte) {
	t.Helper()
	for i, l := range lists {
		room := l[:cap(l)]
		for j := range room {
			room[j] = byte(i)
		}
	}
	for i, l := range lists {
		for _, c := range l[:cap(l)] {
			if c != byte(i) {
				t.Fatalf("%s: two lists share memory", what)
			}
		}
	}
}

func listsOf(entries ...api.Entry) [][]byte {
	var lists [][]byte
	for _, e := range entries {
		lists = append(lists, e.Key, e.Value)
	}
	return lists
}

// Rule 4

func TestInsertKeepsNothingOfWhatItWasHanded(t *testing.T) {
	const text = "ab..value......................"
	whole := []byte(text)
	s := skip.New()
	// The Key's spare room is the Value; and one list may be both.
	fine(t, "Insert", s.Insert(api.Entry{Key: whole[:1], Seq: 1, Kind: 1, Value: whole[4:9]}, 3))
	fine(t, "Insert", s.Insert(api.Entry{Key: whole[:2], Seq: 2, Kind: 1, Value: whole[:2]}, 1))
	fine(t, "Insert", s.Insert(api.Entry{Key: whole[1:2], Seq: 3, Kind: 2, Value: whole[2:2]}, 12))
	refused(t, "Insert", s.Insert(api.Entry{Key: whole[:1], Seq: 1, Kind: 2}, 1), api.ErrThere)
	if string(whole) != text {
		t.Fatalf("what was handed in is %q", whole)
	}
	const want = `3 of size 107: "a" at 1: 1 "value"; "ab" at 2: 1 "ab"; "b" at 3: 2 ""; `
	if tells(s) != want {
		t.Fatalf("the table tells %s, want %s", tells(s), want)
	}
	before := laid(s)
	spoil(whole)
	if laid(s) != before {
		t.Errorf("the table follows what was handed in: %s, want %s", laid(s), before)
	}
}

func TestAnswersAreNewMemory(t *testing.T) {
	entries := []api.Entry{put("a", 3, "some value"), put("a", 1, "v"), del("ab", 2), put("b", 7, "")}
	s := flat(t, 2, entries...)
	before := laid(s)
	get := func() []api.Entry { e, _ := s.Get([]byte("a"), 9); return []api.Entry{e} }
	seek := func() []api.Entry { e, _ := s.Seek([]byte("a"), 2); return []api.Entry{e} }
	from := func() []api.Entry { return s.From([]byte("a"), 3) }
	for what, call := range map[string]func() []api.Entry{"Get": get, "Seek": seek, "All": s.All, "From": from} {
		l, again := call(), call()
		want := told(l...)
		apart(t, what, listsOf(l...)...)
		room := l[:cap(l)]
		for i := range room {
			room[i] = api.Entry{Seq: 99}
		}
		if told(again...) != want {
			t.Errorf("%s: two answers share memory: %s, want %s", what, told(again...), want)
		}
		if laid(s) != before {
			t.Fatalf("%s: who writes to the answer changes the table: %s, want %s", what, laid(s), before)
		}
		spoil(listsOf(again...)...)
		if laid(s) != before || told(call()...) != want {
			t.Fatalf("%s: who writes to the answer changes the table: %s, want %s", what, laid(s), before)
		}
	}
	// What was answered stays, whatever comes.
	l := s.All()
	fine(t, "Insert", s.Insert(put("a", 2, "between"), 12))
	if told(l...) != told(entries...) {
		t.Errorf("All's answer follows the table: %s", told(l...))
	}
}

func TestKeysThatAreAskedForAreLeft(t *testing.T) {
	s := flat(t, 2, put("a", 1, "x"), put("ab", 2, "y"), put("abc", 3, "z"))
	before := laid(s)
	const text = "abcd........"
	whole := []byte(text)
	key := whole[:2] // a longer key would be found with its spare room
	for range 2 {
		e, err := s.Get(key, 9)
		x, ok := s.Seek(key, 9)
		if told(e, x) != `"ab" at 2: 1 "y"; "ab" at 2: 1 "y"; ` || err != api.OK || !ok {
			t.Errorf("Get and Seek: %s%d, %t", told(e, x), err, ok)
		}
		if l := s.From(key, 9); told(l...) != `"ab" at 2: 1 "y"; "abc" at 3: 1 "z"; ` {
			t.Errorf("From: %s", told(l...))
		}
		if s.Height(key, 2) != 2 || s.Height(key, 3) != 0 || s.Steps(key, 2) != 13 {
			t.Errorf("Height %d and %d, Steps %d", s.Height(key, 2), s.Height(key, 3), s.Steps(key, 2))
		}
		spoil(e.Key, x.Key)
	}
	if string(whole) != text {
		t.Errorf("what was handed in is %q", whole)
	}
	spoil(whole)
	if laid(s) != before {
		t.Errorf("asking changes the table: %s, want %s", laid(s), before)
	}
}

// Rule 5

func TestNoTable(t *testing.T) {
	unmade := skip.Table{}
	for _, s := range []*skip.Table{nil, {}, new(skip.Table), &unmade} {
		// Ahead of all else: of entries and heights that may not be, too.
		for _, height := range []int{math.MinInt, 0, 1, 12, 13} {
			refused(t, "Insert", s.Insert(put("a", 1, "x"), height), api.ErrNil)
			for _, w := range wrongs() {
				refused(t, "Insert of "+w.what, s.Insert(w.entry, height), api.ErrNil)
			}
		}
		for _, key := range []string{"", "a"} {
			for _, seq := range []uint64{0, 1, greatest} {
				noAnswer(t, s, []byte(key), seq)
			}
			for _, n := range []int{-1, 0, 1, math.MaxInt} {
				if l := s.From([]byte(key), n); len(l) != 0 {
					t.Errorf("From %q %d: %s", key, n, told(l...))
				}
			}
		}
		if s.Len() != 0 || s.Size() != 0 || len(s.All()) != 0 {
			t.Errorf("it tells %s", tells(s))
		}
	}
}

// noAnswer fails unless a table that is none answers so.
func noAnswer(t *testing.T, s *skip.Table, key []byte, seq uint64) {
	t.Helper()
	e, err := s.Get(key, seq)
	if told(e) != told(api.Entry{}) || err != api.ErrNil {
		t.Errorf("Get %q %d: %s%d", key, seq, told(e), err)
	}
	e, ok := s.Seek(key, seq)
	if told(e) != told(api.Entry{}) || ok {
		t.Errorf("Seek %q %d: %s%t", key, seq, told(e), ok)
	}
	if s.Height(key, seq) != 0 || s.Steps(key, seq) != 0 {
		t.Errorf("%q %d: Height %d, Steps %d", key, seq, s.Height(key, seq), s.Steps(key, seq))
	}
}

// Rule 6: a nil list and an empty one are the same.
func TestNilAndEmptyAreTheSame(t *testing.T) {
	for _, empty := range [][]byte{nil, {}, []byte("room")[:0]} {
		s := skip.New()
		refused(t, "no Key", s.Insert(api.Entry{Key: empty, Seq: 1, Kind: 1}, 1), api.ErrArg)
		fine(t, "Insert", s.Insert(api.Entry{Key: []byte("a"), Seq: 1, Kind: 1, Value: empty}, 1))
		fine(t, "Insert", s.Insert(api.Entry{Key: []byte("a"), Seq: 2, Kind: 2, Value: empty}, 1))
		if tells(s) != `2 of size 66: "a" at 2: 2 ""; "a" at 1: 1 ""; ` {
			t.Errorf("the table tells %s", tells(s))
		}
		_, err := s.Get(empty, 9)
		refused(t, "Get of no key", err, api.ErrNone)
		if e, ok := s.Seek(empty, 0); !ok || e.Seq != 2 {
			t.Errorf("Seek of no key: %s%t", told(e), ok)
		}
		if l := s.From(empty, 9); len(l) != 2 || s.Height(empty, 1) != 0 || s.Steps(empty, 1) != 12 {
			t.Errorf("From %s, Height %d, Steps %d", told(l...), s.Height(empty, 1), s.Steps(empty, 1))
		}
		for _, e := range s.All() {
			if len(e.Value) != 0 || cap(e.Value) > 0 && bytes.Contains(e.Value[:cap(e.Value)], []byte("room")) {
				t.Errorf("the spare room is handed out: %q", e.Value[:cap(e.Value)])
			}
		}
	}
}

// The chapter's examples

func TestExamplesOfTheChapter(t *testing.T) {
	s := skip.New()
	fine(t, "Insert", s.Insert(put("a", 1, "x"), 1))
	fine(t, "Insert", s.Insert(put("a", 3, "y"), 2))
	gets(t, s, []question{{"a", 2, `"a" at 1: 1 "x"; `}, {"a", 9, `"a" at 3: 1 "y"; `}, {"a", 0, ""}})
	seeks(t, s, []question{{"b", 9, ""}})
	if l := s.All(); told(l...) != `"a" at 3: 1 "y"; "a" at 1: 1 "x"; ` {
		t.Errorf("All: %s", told(l...))
	}
	refused(t, "Insert a at 3", s.Insert(put("a", 3, "z"), 5), api.ErrThere)
	if s.Size() != 68 || s.Height([]byte("a"), 3) != 2 {
		t.Errorf("Size %d, Height %d; want 68, 2", s.Size(), s.Height([]byte("a"), 3))
	}
}

func ExampleTable_Get() {
	s := skip.New()
	s.Insert(api.Entry{Key: []byte("a"), Seq: 1, Kind: api.WritePut, Value: []byte("x")}, 1)
	s.Insert(api.Entry{Key: []byte("a"), Seq: 3, Kind: api.WritePut, Value: []byte("y")}, 2)
	for _, seq := range []uint64{2, 9, 0} {
		e, err := s.Get([]byte("a"), seq)
		fmt.Printf("%q %d\n", e.Value, err)
	}
	// Output:
	// "x" 0
	// "y" 0
	// "" 6
}
