package skip_test

import (
	"fmt"
	"math"
	"testing"

	"bootprint/api"
	"bootprint/skip"
)

// P7.1

func TestInsertPutsIn(t *testing.T) {
	s := skip.New()
	for i, c := range []struct {
		entry  api.Entry
		height int
		want   string
	}{
		{put("b", 5, "x"), 3, `1 of size 34: "b" at 5: 1 "x"; `},
		{del("a", 6), 1, `2 of size 67: "a" at 6: 2 ""; "b" at 5: 1 "x"; `},
		{put("b", 7, ""), 12, `3 of size 100: "a" at 6: 2 ""; "b" at 7: 1 ""; "b" at 5: 1 "x"; `},
		{put("b", 1, "yy"), 2, `4 of size 135: "a" at 6: 2 ""; "b" at 7: 1 ""; "b" at 5: 1 "x"; "b" at 1: 1 "yy"; `},
		{put("c", 5, "z"), 1, `5 of size 169: "a" at 6: 2 ""; "b" at 7: 1 ""; "b" at 5: 1 "x"; "b" at 1: 1 "yy"; "c" at 5: 1 "z"; `},
	} {
		fine(t, fmt.Sprint("Insert ", i), s.Insert(c.entry, c.height))
		if tells(s) != c.want {
			t.Fatalf("behind Insert %d: %s, want %s", i, tells(s), c.want)
		}
		if n := s.Height(c.entry.Key, c.entry.Seq); n != c.height {
			t.Errorf("Height of entry %d: %d, want %d", i, n, c.height)
		}
	}
}

func TestInsertOfHeights(t *testing.T) {
	for height := -2; height <= 15; height++ {
		for _, others := range [][]api.Entry{nil, {put("a", 1, "")}, {put("a", 1, ""), put("c", 1, "")}} {
			s := flat(t, 3, others...)
			before := laid(s)
			want := api.OK
			if height < 1 || height > 12 {
				want = api.ErrArg
			}
			refused(t, fmt.Sprint("height ", height), s.Insert(put("b", 1, "x"), height), want)
			if want == api.OK && (s.Len() != len(others)+1 || s.Height([]byte("b"), 1) != height) {
				t.Errorf("behind height %d: %s", height, laid(s))
			}
			if want != api.OK && laid(s) != before {
				t.Errorf("behind height %d: %s, want %s", height, laid(s), before)
			}
		}
	}
	for _, height := range []int{math.MinInt, math.MaxInt, 1<<32 + 1, -1 << 32, 256 + 1} {
		refused(t, fmt.Sprint("height ", height), skip.New().Insert(put("a", 1, "x"), height), api.ErrArg)
	}
}

func TestInsertOfEntriesAtTheBounds(t *testing.T) {
	s := skip.New()
	for _, e := range []api.Entry{
		put("a", 1, ""), put("a", api.MaxSeq, ""), del("b", 1), del("b", api.MaxSeq), put("\x00", 1, "\x00"), put("\xff", 1, "\xff"),
		sized(1, 4096, 65536, 1), sized(1, 4096, 65536, api.MaxSeq), sized(2, 4096, 0, 2), sized(1, 1, 65536, 1), sized(1, 4095, 0, 1),
	} {
		fine(t, "Insert of "+shortly(told(e)), s.Insert(e, 2))
		if got, err := s.Get(e.Key, e.Seq); err != api.OK || told(got) != told(e) {
			t.Errorf("Get of %s: %s, %d", shortly(told(e)), shortly(told(got)), err)
		}
	}
	if want := 11*32 + 6 + 2 + 3*4096 + 2*65536 + 1 + 65536 + 4095; s.Len() != 11 || s.Size() != want {
		t.Errorf("Len %d, Size %d; want 11, %d", s.Len(), s.Size(), want)
	}
}

// wrongs are entries that may not be, with what is answered of them.
func wrongs() []struct {
	what  string
	entry api.Entry
	want  api.Errno
} {
	return []struct {
		what  string
		entry api.Entry
		want  api.Errno
	}{
		{"nothing", api.Entry{}, api.ErrArg},
		{"Kind 0", sized(0, 1, 1, 1), api.ErrArg},
		{"Kind 3", sized(3, 1, 1, 1), api.ErrArg},
		{"Kind -1", sized(-1, 1, 1, 1), api.ErrArg},
		{"Kind 257", sized(257, 1, 1, 1), api.ErrArg},
		{"no Key", sized(1, 0, 1, 1), api.ErrArg},
		{"no Key of a delete", sized(2, 0, 0, 1), api.ErrArg},
		{"a delete's Value", sized(2, 1, 1, 1), api.ErrArg},
		{"Seq 0", sized(1, 1, 1, 0), api.ErrArg},
		{"Seq 0 and a long Key", sized(1, 4097, 1, 0), api.ErrArg},
		{"a long Value of a delete", sized(2, 1, 65537, 1), api.ErrArg},
		{"a long Key", sized(1, 4097, 1, 1), api.ErrLong},
		{"a long Key of a delete", sized(2, 4097, 0, 1), api.ErrLong},
		{"a long Value", sized(1, 1, 65537, 1), api.ErrLong},
		{"a Seq too great", sized(1, 1, 1, api.MaxSeq+1), api.ErrLong},
		{"the greatest Seq", sized(1, 1, 1, greatest), api.ErrLong},
		{"all too long", sized(1, 4097, 65537, greatest), api.ErrLong},
	}
}

// Of these errors the first that applies is answered: the entry's, the height's,
// that it is there.
func TestInsertRefusesInOrder(t *testing.T) {
	heights := map[int]bool{math.MinInt: false, -1: false, 0: false, 1: true, 7: true, 12: true, 13: false, math.MaxInt: false}
	there := sized(1, 1, 0, 1)
	for height, fits := range heights {
		for _, towers := range [][]tall{nil, {{there, 1}}, {{there, 12}, {put("z", 1, "z"), 12}, {put("a", 1, "a"), 2}}} {
			s := of(t, towers...)
			before := laid(s)
			for _, w := range wrongs() {
				// Where its Key and Seq are there, too: the entry's error is the first.
				refused(t, fmt.Sprint(w.what, ", height ", height), s.Insert(w.entry, height), w.want)
			}
			for _, e := range []api.Entry{there, sized(1, 1, 5, 1), sized(2, 1, 0, 1)} {
				want := api.ErrThere
				switch {
				case !fits:
					want = api.ErrArg
				case len(towers) == 0:
					continue
				}
				refused(t, fmt.Sprint(told(e), "height ", height), s.Insert(e, height), want)
			}
			if laid(s) != before {
				t.Fatalf("behind errors the table is %s, want %s", laid(s), before)
			}
		}
	}
}

func TestInsertOfWhatIsThere(t *testing.T) {
	towers := []tall{{put("a", 1, "x"), 1}, {put("a", 3, "y"), 2}, {put("a", 5, ""), 12}, {del("ab", 3), 4}, {put("b", api.MaxSeq, "z"), 3}}
	s := of(t, towers...)
	before := laid(s)
	for _, x := range towers {
		key, seq := string(x.entry.Key), x.entry.Seq
		for _, again := range []api.Entry{x.entry, put(key, seq, ""), put(key, seq, "another"), del(key, seq)} {
			for height := 1; height <= 12; height++ {
				refused(t, told(again), s.Insert(again, height), api.ErrThere)
			}
			if laid(s) != before {
				t.Fatalf("behind %sagain the table is %s, want %s", told(again), laid(s), before)
			}
		}
	}
	// Those beside them are not there.
	for _, e := range []api.Entry{put("a", 2, ""), put("a", 4, ""), put("a", 6, ""), del("ab", 1), put("b", 3, ""), put("a\x00", 1, ""), put("abc", 3, "")} {
		fine(t, told(e), s.Insert(e, 1))
		refused(t, told(e), s.Insert(e, 1), api.ErrThere)
	}
}

func TestInsertAsTold(t *testing.T) {
	d := source(3)
	for range 60 {
		s, p := skip.New(), plain{}
		for range 40 {
			e, height := d.entry(), d.below(15)-1
			switch d.below(12) {
			case 0:
				e.Seq = []uint64{0, api.MaxSeq + 1, greatest}[d.below(3)]
			case 1:
				e.Kind = []int{0, 1, 2, 3}[d.below(4)]
			case 2:
				e.Key = [][]byte{nil, make([]byte, 4096), make([]byte, 4097)}[d.below(3)]
			}
			before := laid(s)
			err, want := s.Insert(e, height), p.insert(e, height)
			if err != want {
				t.Fatalf("Insert of %sheight %d into %s: %d, want %d", told(e), height, before, err, want)
			}
			if err != api.OK && laid(s) != before {
				t.Fatalf("Insert of %sheight %d: %d, and the table is %s, want %s", told(e), height, err, laid(s), before)
			}
		}
		asTold(t, s, p)
	}
}
