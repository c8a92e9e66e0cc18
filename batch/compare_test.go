package batch_test

import (
	"bytes"
	"slices"
	"strings"
	"testing"

	"bootprint/api"
	"bootprint/batch"
)

// P6.3

func TestCompareAsTold(t *testing.T) {
	at := func(key string, seq uint64) api.Entry { return api.Entry{Key: []byte(key), Seq: seq, Kind: 1} }
	for _, c := range []struct {
		a, b api.Entry
		want int
	}{
		{at("a", 1), at("b", 1), -1},
		{at("a", 1), at("a", 1), 0},
		{at("a", 2), at("a", 1), -1},
		{at("a", 1), at("b", 2), -1},
		{at("a", 2), at("b", 1), -1},
		{at("a", 1), at("ab", 1), -1},
		{at("a", 1), at("ab", 9), -1},
		{at("a", 9), at("ab", 1), -1},
		{at("a", 9), at("a\x00", 9), -1},
		{at("", 1), at("a", 9), -1},
		{at("", 1), at("", 0), -1},
		{at("ab", 1), at("b", 1), -1},
		{at("Z", 1), at("a", 1), -1},
		{at("\x7f", 1), at("\x80", 1), -1},
		{at("\x00", 1), at("\xff", 1), -1},
		{at("a", api.MaxSeq), at("a", 1), -1},
		{at("a", greatest), at("a", 0), -1},
		{at("a", 1<<63), at("a", 1<<63-1), -1},
		{at("a", 1<<63+1), at("a", 1), -1},
		{at("a", greatest), at("a", greatest), 0},
		{at(strings.Repeat("k", 4096), 1), at(strings.Repeat("k", 4096)+"k", 1), -1},
		{api.Entry{}, api.Entry{}, 0},
		{api.Entry{Key: []byte{}}, api.Entry{}, 0},
	} {
		if n := batch.Compare(c.a, c.b); n != c.want {
			t.Errorf("Compare of %s and %s: %d, want %d", shortly(toldEntries([]api.Entry{c.a})), shortly(toldEntries([]api.Entry{c.b})), n, c.want)
		}
		if n := batch.Compare(c.b, c.a); n != -c.want {
			t.Errorf("Compare of %s and %s: %d, want %d", shortly(toldEntries([]api.Entry{c.b})), shortly(toldEntries([]api.Entry{c.a})), n, -c.want)
		}
	}
}

func TestCompareByKeyAndSeqAlone(t *testing.T) {
	for _, kind := range []int{-1, 0, 1, 2, 3} {
		for _, value := range []string{"", "a", "z"} {
			a := api.Entry{Key: []byte("k"), Seq: 5, Kind: 1, Value: []byte("m")}
			b := api.Entry{Key: []byte("k"), Seq: 5, Kind: kind, Value: []byte(value)}
			if batch.Compare(a, b) != 0 || batch.Compare(b, a) != 0 {
				t.Errorf("Compare looks at Kind %d or Value %q", kind, value)
			}
		}
	}
	whole := []byte("abcd")
	a, b := api.Entry{Key: whole[:2], Seq: 1}, api.Entry{Key: []byte("ab"), Seq: 1}
	if batch.Compare(a, b) != 0 || batch.Compare(b, a) != 0 {
		t.Error("Compare looks at spare room")
	}
}

// P6.4

func TestCompareIsAnOrder(t *testing.T) {
	s := source(11)
	var l []api.Entry
	for range 110 {
		e := api.Entry{Key: s.key(), Seq: []uint64{0, 1, 2, 3, api.MaxSeq, 1 << 63, greatest}[s.below(7)], Kind: 1 + s.below(2), Value: s.bytes(s.below(3))}
		if s.below(20) == 0 {
			e.Key = nil
		}
		l = append(l, e)
	}
	for _, a := range l {
		for _, b := range l {
			n := batch.Compare(a, b)
			if n != -batch.Compare(b, a) || n < -1 || n > 1 {
				t.Fatalf("%s: %d and %d", toldEntries([]api.Entry{a, b}), n, batch.Compare(b, a))
			}
			if same := bytes.Equal(a.Key, b.Key) && a.Seq == b.Seq; same != (n == 0) {
				t.Fatalf("%s: %d", toldEntries([]api.Entry{a, b}), n)
			}
			for _, c := range l {
				if n <= 0 && batch.Compare(b, c) <= 0 && batch.Compare(a, c) > 0 {
					t.Fatalf("%s are no order", toldEntries([]api.Entry{a, b, c}))
				}
			}
		}
	}
}

func TestParseOfAppend(t *testing.T) {
	s := source(13)
	check := func(b api.Batch) {
		t.Helper()
		p, e := batch.Append(nil, b)
		if e != api.OK || string(p) != byWords(b) {
			t.Fatalf("Append of %s: %s, %d", shortly(told(b)), shortly(string(p)), e)
		}
		if c, e := batch.Parse(p); e != api.OK || told(c) != told(b) {
			t.Fatalf("Parse of Append of %s: %s, %d", shortly(told(b)), shortly(told(c)), e)
		}
	}
	for range 2000 {
		check(s.batch(12))
	}
	for range 5 {
		check(s.batch(1024))
	}
	for _, n := range []int{17, 1024} {
		check(filled(t, uint64(n), n, api.MaxFrame))
	}
	for n := uint64(1); n <= api.MaxSeq && n > 0; n <<= 7 {
		check(of(n, del("a")))
		check(of(n+n-1, put("a", "")))
		check(of(n<<7-1, s.batch(1).Writes...))
	}
}

func TestEntriesOfOneBatchAreNeverTheSame(t *testing.T) {
	s := source(17)
	for range 50 {
		b := s.batch(60)
		l, e := batch.Entries(b)
		fine(t, "Entries", e)
		for i := range l {
			for j := range i {
				if batch.Compare(l[j], l[i]) != -1 || batch.Compare(l[i], l[j]) != 1 {
					t.Fatalf("entries %d and %d of %s", j, i, toldEntries(l))
				}
			}
		}
		// They are the writes, each once.
		slices.SortFunc(l, func(a, b api.Entry) int { return int(a.Seq) - int(b.Seq) })
		again := of(b.Seq)
		for i, entry := range l {
			if entry.Seq != b.Seq+uint64(i) {
				t.Fatalf("entry %d is at %d", i, entry.Seq)
			}
			fine(t, "CheckEntry", batch.CheckEntry(entry))
			again.Writes = append(again.Writes, api.Write{Kind: entry.Kind, Key: entry.Key, Value: entry.Value})
		}
		if told(again) != told(b) || batch.Last(b) != l[len(l)-1].Seq {
			t.Fatalf("the entries of %s are those of %s", told(b), told(again))
		}
	}
}
