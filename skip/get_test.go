package skip_test

import (
	"testing"

	"bootprint/api"
	"bootprint/skip"
)

// question is one of Get and Seek, with the entry that is to be told; "", if none is.
type question struct {
	key  string
	seq  uint64
	want string
}

func gets(t *testing.T, s *skip.Table, l []question) {
	t.Helper()
	for _, q := range l {
		e, err := s.Get([]byte(q.key), q.seq)
		switch {
		case q.want == "" && (err != api.ErrNone || e.Key != nil || e.Seq != 0 || e.Kind != 0 || e.Value != nil):
			t.Errorf("Get %q %d: %s%d, want ErrNone", q.key, q.seq, told(e), err)
		case q.want != "" && (err != api.OK || told(e) != q.want):
			t.Errorf("Get %q %d: %s%d, want %s", q.key, q.seq, told(e), err, q.want)
		}
	}
}

func seeks(t *testing.T, s *skip.Table, l []question) {
	t.Helper()
	for _, q := range l {
		e, ok := s.Seek([]byte(q.key), q.seq)
		switch {
		case q.want == "" && (ok || e.Key != nil || e.Seq != 0 || e.Kind != 0 || e.Value != nil):
			t.Errorf("Seek %q %d: %s%t, want none", q.key, q.seq, told(e), ok)
		case q.want != "" && (!ok || told(e) != q.want):
			t.Errorf("Seek %q %d: %s%t, want %s", q.key, q.seq, told(e), ok, q.want)
		}
	}
}

// P7.2, Get

func TestGetOfManySeqs(t *testing.T) {
	one, five, six, most := put("k", 1, "one"), put("k", 5, "five"), put("k", 6, "six"), put("k", api.MaxSeq, "most")
	for height := 1; height <= 12; height++ {
		s := flat(t, height, five, most, put("j", 3, "j"), one, put("l", 3, "l"), six)
		gets(t, s, []question{
			{"k", 0, ""}, {"k", 1, told(one)}, {"k", 2, told(one)}, {"k", 4, told(one)},
			{"k", 5, told(five)}, {"k", 6, told(six)}, {"k", 7, told(six)}, {"k", api.MaxSeq - 1, told(six)},
			{"k", api.MaxSeq, told(most)}, {"k", api.MaxSeq + 1, told(most)}, {"k", 1 << 63, told(most)}, {"k", greatest, told(most)},
			{"j", 2, ""}, {"j", 3, `"j" at 3: 1 "j"; `}, {"j", greatest, `"j" at 3: 1 "j"; `}, {"l", 0, ""}, {"l", 9, `"l" at 3: 1 "l"; `},
			{"i", 9, ""}, {"m", 9, ""}, {"kk", 9, ""}, {"", 9, ""}, {"", 0, ""}, {"", greatest, ""},
		})
	}
}

func TestGetBelowAllSeqs(t *testing.T) {
	s := flat(t, 1, put("a", 7, "a"), put("b", 9, "b"), put("b", 8, "bb"))
	gets(t, s, []question{
		// The entry behind the place is another key's, or none.
		{"a", 6, ""}, {"a", 0, ""}, {"b", 7, ""}, {"b", 0, ""},
		{"a", 7, `"a" at 7: 1 "a"; `}, {"b", 8, `"b" at 8: 1 "bb"; `}, {"b", 9, `"b" at 9: 1 "b"; `},
	})
}

func TestGetOfKeysThatBeginAlike(t *testing.T) {
	a, a0, aa, ab, aba := put("a", 2, "1"), put("a\x00", 3, "2"), put("aa", 9, "3"), put("ab", 1, "4"), put("aba", 5, "5")
	s := flat(t, 2, ab, a, aba, aa, a0)
	gets(t, s, []question{
		{"a", 9, told(a)}, {"a", 1, ""}, {"a\x00", 9, told(a0)}, {"a\x00", 2, ""}, {"aa", 9, told(aa)}, {"aa", 8, ""},
		{"ab", 9, told(ab)}, {"ab", 1, told(ab)}, {"aba", 9, told(aba)}, {"aba", 4, ""},
		{"a\x01", 9, ""}, {"a\x00\x00", 9, ""}, {"abaa", 9, ""}, {"abb", 9, ""}, {"b", 9, ""},
	})
}

func TestGetOfADelete(t *testing.T) {
	s := flat(t, 3, put("a", 1, "x"), del("a", 4), put("a", 6, ""), del("b", 2))
	gets(t, s, []question{
		{"a", 3, `"a" at 1: 1 "x"; `}, {"a", 4, `"a" at 4: 2 ""; `}, {"a", 5, `"a" at 4: 2 ""; `}, {"a", 6, `"a" at 6: 1 ""; `},
		{"b", 1, ""}, {"b", 2, `"b" at 2: 2 ""; `}, {"b", 9, `"b" at 2: 2 ""; `},
	})
}

// P7.2, Seek

func TestSeekAsTold(t *testing.T) {
	b6, b2, c5, d := put("b", 6, "six"), del("b", 2), put("c", 5, ""), put("d", api.MaxSeq, "d")
	for height := 1; height <= 12; height++ {
		s := flat(t, height, c5, b2, d, b6)
		seeks(t, s, []question{
			// Ahead of the first one; an empty key is ahead of all, whatever its number.
			{"", 0, told(b6)}, {"", 1, told(b6)}, {"", greatest, told(b6)}, {"a", 0, told(b6)}, {"a", 9, told(b6)}, {"b", 7, told(b6)}, {"b", greatest, told(b6)},
			{"b", 6, told(b6)}, {"b", 5, told(b2)}, {"b", 3, told(b2)}, {"b", 2, told(b2)},
			// Behind all of a key the next key's first one is told.
			{"b", 1, told(c5)}, {"b", 0, told(c5)}, {"b\x00", 0, told(c5)}, {"b\x00", greatest, told(c5)}, {"bz", 4, told(c5)},
			{"c", 6, told(c5)}, {"c", 5, told(c5)}, {"c", 4, told(d)}, {"c", 0, told(d)},
			{"d", greatest, told(d)}, {"d", api.MaxSeq, told(d)},
			// Behind the last one.
			{"d", api.MaxSeq - 1, ""}, {"d", 0, ""}, {"d\x00", greatest, ""}, {"e", 1, ""}, {"\xff", greatest, ""},
		})
	}
}

func TestSeekOfKeysThatBeginAlike(t *testing.T) {
	a1, ab9 := put("a", 1, ""), put("ab", 9, "")
	s := flat(t, 1, ab9, a1)
	seeks(t, s, []question{
		{"a", 9, told(a1)}, {"a", 1, told(a1)}, {"a", 0, told(ab9)}, {"a\x00", 0, told(ab9)}, {"aa", 0, told(ab9)},
		{"ab", 9, told(ab9)}, {"ab", 8, ""}, {"aba", 9, ""},
	})
}

func TestNothingIsFoundWithoutEntries(t *testing.T) {
	s := skip.New()
	for _, key := range []string{"", "a", "\x00", "\xff"} {
		for _, seq := range []uint64{0, 1, api.MaxSeq, greatest} {
			gets(t, s, []question{{key, seq, ""}})
			seeks(t, s, []question{{key, seq, ""}})
		}
	}
}
