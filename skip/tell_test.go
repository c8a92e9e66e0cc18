package skip_test

import (
	"fmt"
	"math"
	"testing"

	"bootprint/api"
	"bootprint/skip"
)

// P7.3, All, Len, Size

func TestATableWithoutEntries(t *testing.T) {
	s := skip.New()
	if tells(s) != "0 of size 0: " {
		t.Errorf("it tells %s", tells(s))
	}
	for _, key := range []string{"", "a"} {
		for _, n := range []int{-1, 0, 1, math.MaxInt} {
			if l := s.From([]byte(key), n); len(l) != 0 {
				t.Errorf("From %q %d: %s", key, n, told(l...))
			}
		}
		for _, seq := range []uint64{0, 1, greatest} {
			if n := s.Height([]byte(key), seq); n != 0 {
				t.Errorf("Height %q %d: %d", key, seq, n)
			}
			// From the beginning it goes but down.
			if n := s.Steps([]byte(key), seq); n != 12 {
				t.Errorf("Steps %q %d: %d, want 12", key, seq, n)
			}
		}
	}
}

func TestTablesAreApart(t *testing.T) {
	a, b := skip.New(), skip.New()
	fine(t, "Insert", a.Insert(put("a", 1, "x"), 3))
	fine(t, "Insert", b.Insert(put("a", 1, "yy"), 12))
	fine(t, "Insert", b.Insert(put("b", 1, ""), 1))
	if tells(a) != `1 of size 34: "a" at 1: 1 "x"; ` || tells(b) != `2 of size 68: "a" at 1: 1 "yy"; "b" at 1: 1 ""; ` {
		t.Errorf("they tell %s and %s", tells(a), tells(b))
	}
	if tells(skip.New()) != "0 of size 0: " {
		t.Error("a new table has entries")
	}
}

func TestAllIsInOrder(t *testing.T) {
	s := flat(t, 2,
		put("b", 1, "6"), put("a", api.MaxSeq, "1"), put("ab", 4, "4"), put("a\xff", 2, "5"), put("a", 1, "2"), del("a\x00", 9), put("b\x00", 2, "8"), put("\xff", 1, "9"), put("Z", 1, "0"),
	)
	const want = `"Z" at 1: 1 "0"; "a" at 72057594037927935: 1 "1"; "a" at 1: 1 "2"; "a\x00" at 9: 2 ""; "ab" at 4: 1 "4"; "a\xff" at 2: 1 "5"; "b" at 1: 1 "6"; "b\x00" at 2: 1 "8"; "\xff" at 1: 1 "9"; `
	if l := s.All(); told(l...) != want {
		t.Errorf("All: %s, want %s", told(l...), want)
	}
	if s.Len() != 9 {
		t.Errorf("Len: %d", s.Len())
	}
}

func TestSizeOverPutsAndDeletes(t *testing.T) {
	s := skip.New()
	size := 0
	for i, c := range []struct {
		entry api.Entry
		more  int
	}{
		{put("a", 1, "x"), 34}, {put("a", 2, ""), 33}, {del("a", 3), 33}, {put("abc", 3, "defg"), 39}, {del("abc", 4), 35},
		{sized(2, 4096, 0, 1), 4128}, {sized(1, 4096, 65536, 2), 69664}, {sized(1, 1, 65536, 1), 65569},
	} {
		fine(t, "Insert", s.Insert(c.entry, 1+i))
		if size += c.more; s.Size() != size || s.Len() != i+1 {
			t.Errorf("behind %d entries: Len %d, Size %d, want %d", i+1, s.Len(), s.Size(), size)
		}
		refused(t, "Insert again", s.Insert(c.entry, 1), api.ErrThere)
		if s.Size() != size || s.Len() != i+1 {
			t.Errorf("an entry that is there counts: Len %d, Size %d, want %d", s.Len(), s.Size(), size)
		}
	}
}

// P7.3, From

func TestFromAsTold(t *testing.T) {
	a9, a1, ab, c := put("a", 9, "x"), del("a", 1), put("ab", 4, "y"), put("c", api.MaxSeq, "")
	for height := 1; height <= 12; height++ {
		s := flat(t, height, ab, a1, c, a9)
		for _, q := range []struct {
			key  string
			n    int
			want []api.Entry
		}{
			{"", 4, []api.Entry{a9, a1, ab, c}}, {"", 5, []api.Entry{a9, a1, ab, c}}, {"", math.MaxInt, []api.Entry{a9, a1, ab, c}},
			{"", 3, []api.Entry{a9, a1, ab}}, {"", 1, []api.Entry{a9}}, {"", 0, nil}, {"", -1, nil}, {"", math.MinInt, nil},
			// All of the key count, the newest first.
			{"a", 9, []api.Entry{a9, a1, ab, c}}, {"a", 4, []api.Entry{a9, a1, ab, c}}, {"a", 2, []api.Entry{a9, a1}}, {"a", 1, []api.Entry{a9}}, {"a", 0, nil}, {"a", -7, nil},
			{"ab", 9, []api.Entry{ab, c}}, {"ab", 2, []api.Entry{ab, c}}, {"ab", 1, []api.Entry{ab}},
			{"c", 1, []api.Entry{c}}, {"c", 2, []api.Entry{c}}, {"c", 0, nil},
			// Of keys that are no entry's.
			{"A", 9, []api.Entry{a9, a1, ab, c}}, {"a\x00", 9, []api.Entry{ab, c}}, {"aa\xff", 1, []api.Entry{ab}}, {"abc", 9, []api.Entry{c}}, {"b", 9, []api.Entry{c}}, {"b", -1, nil},
			{"c\x00", 9, nil}, {"d", 1, nil}, {"\xff\xff", math.MaxInt, nil},
		} {
			if l := s.From([]byte(q.key), q.n); told(l...) != told(q.want...) {
				t.Errorf("From %q %d: %s, want %s", q.key, q.n, told(l...), told(q.want...))
			}
		}
	}
}

// P7.3, Height

func TestHeightOfWhatIsThere(t *testing.T) {
	s := skip.New()
	for height := 1; height <= 12; height++ {
		fine(t, "Insert", s.Insert(put("k", uint64(10*height), ""), height))
		fine(t, "Insert", s.Insert(del(fmt.Sprintf("k%d", height), 5), 13-height))
	}
	for height := 1; height <= 12; height++ {
		if n := s.Height([]byte("k"), uint64(10*height)); n != height {
			t.Errorf("Height of k at %d: %d, want %d", 10*height, n, height)
		}
		key := fmt.Appendf(nil, "k%d", height)
		if n := s.Height(key, 5); n != 13-height {
			t.Errorf("Height of %s: %d, want %d", key, n, 13-height)
		}
	}
}

func TestHeightOfWhatIsNotThere(t *testing.T) {
	s := flat(t, 4, put("a", 5, "x"), put("ab", 7, "y"), put("ab", 3, "z"))
	for key, seqs := range map[string][]uint64{
		"":       {0, 1, 5, 7, greatest},
		"a":      {0, 1, 4, 6, 7, api.MaxSeq, greatest},
		"a\x00":  {5, 7},
		"ab":     {0, 2, 4, 5, 6, 8, greatest},
		"abc":    {3, 5, 7},
		"b":      {3, 5, 7, greatest},
		"\xff":   {0},
		"\x00":   {5},
		"A":      {5},
		"ab\x00": {3, 7},
	} {
		for _, seq := range seqs {
			if n := s.Height([]byte(key), seq); n != 0 {
				t.Errorf("Height of %q at %d: %d, want 0", key, seq, n)
			}
		}
	}
}

// P7.3, Steps

// By hand: twelve down, and each tower that is gone to.
func TestStepsAsTold(t *testing.T) {
	for _, c := range []struct {
		heights []int // of a, b, c .. at 5
		steps   []int // to a, b, c .., and behind the last one
	}{
		{[]int{1}, []int{12, 13}},
		{[]int{12}, []int{12, 13}},
		{[]int{1, 1, 1, 1}, []int{12, 13, 14, 15, 16}},
		{[]int{12, 12, 12}, []int{12, 13, 14, 15}},
		{[]int{1, 2, 1, 3, 1}, []int{12, 13, 13, 14, 13, 14}},
		{[]int{3, 2, 1}, []int{12, 13, 14, 15}},
		{[]int{1, 2, 3}, []int{12, 13, 13, 13}},
		{[]int{1, 1, 2, 1, 1, 2, 1, 1}, []int{12, 13, 14, 13, 14, 15, 14, 15, 16}},
		{[]int{1, 1, 12}, []int{12, 13, 14, 13}},
	} {
		s := skip.New()
		for i, height := range c.heights {
			fine(t, "Insert", s.Insert(put(string(rune('a'+i)), 5, ""), height))
		}
		for i, want := range c.steps {
			key := string(rune('a' + i))
			if n := s.Steps([]byte(key), 5); n != want {
				t.Errorf("Steps to %s over %d: %d, want %d", key, c.heights, n, want)
			}
			// A place beside it is found by the same towers, or with its own one.
			if n := s.Steps([]byte(key), greatest); n != want {
				t.Errorf("Steps to just ahead of %s over %d: %d, want %d", key, c.heights, n, want)
			}
			if i+1 < len(c.steps) {
				if n := s.Steps([]byte(key), 4); n != c.steps[i+1] {
					t.Errorf("Steps to just behind %s over %d: %d, want %d", key, c.heights, n, c.steps[i+1])
				}
			}
		}
		if n := s.Steps(nil, 0); n != 12 {
			t.Errorf("Steps to no key over %d: %d, want 12", c.heights, n)
		}
	}
}

func TestStepsWithinOneKey(t *testing.T) {
	// In order: 9 with 1, 6 with 2, 3 with 1.
	s := of(t, tall{put("a", 3, ""), 1}, tall{put("a", 9, ""), 1}, tall{put("a", 6, ""), 2})
	for seq, want := range map[uint64]int{greatest: 12, 10: 12, 9: 12, 8: 13, 6: 13, 5: 13, 3: 13, 2: 14, 0: 14} {
		if n := s.Steps([]byte("a"), seq); n != want {
			t.Errorf("Steps to a at %d: %d, want %d", seq, n, want)
		}
	}
}
