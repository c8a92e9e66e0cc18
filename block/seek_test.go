package block_test

import (
	"fmt"
	"testing"

	"bootprint/api"
	"bootprint/block"
)

// P8.3

// question is one of Seek, with what is to be told: "", if there is none.
type question struct {
	key  string
	seq  uint64
	want string
	read int
}

func answers(t *testing.T, l []api.Entry, questions []question) {
	t.Helper()
	p, e := block.Append(nil, l)
	fine(t, "Append", e)
	for _, q := range questions {
		x, read, err := block.Seek(p, []byte(q.key), q.seq)
		got, want := "", api.OK
		if err == api.OK {
			got = told(x)
		}
		if q.want == "" {
			want = api.ErrNone
		}
		if got != q.want || read != q.read || err != want {
			t.Errorf("Seek %q %d: %q, %d looked at, %d; want %q, %d, %d", q.key, q.seq, got, read, err, q.want, q.read, want)
		}
		if err == api.ErrNone && (x.Key != nil || x.Seq != 0 || x.Kind != 0 || x.Value != nil) {
			t.Errorf("Seek %q %d: %s beside ErrNone", q.key, q.seq, told(x))
		}
	}
}

func TestSeekInOneRun(t *testing.T) {
	b6, b2, c5, d := put("b", 6, "six"), del("b", 2), put("c", 5, ""), put("d", api.MaxSeq, "d")
	answers(t, []api.Entry{b6, b2, c5, d}, []question{
		// Ahead of the first one; an empty key is ahead of all, whatever its number.
		{"", 0, told(b6), 1}, {"", greatest, told(b6), 1}, {"a", 0, told(b6), 1}, {"b", 7, told(b6), 1}, {"b", greatest, told(b6), 1},
		{"b", 6, told(b6), 1}, {"b", 5, told(b2), 2}, {"b", 3, told(b2), 2}, {"b", 2, told(b2), 2},
		// Behind all of a key the next key's first one is told.
		{"b", 1, told(c5), 3}, {"b", 0, told(c5), 3}, {"b\x00", 0, told(c5), 3}, {"b\x00", greatest, told(c5), 3}, {"bz", 4, told(c5), 3},
		{"c", 6, told(c5), 3}, {"c", 5, told(c5), 3}, {"c", 4, told(d), 4}, {"c", 0, told(d), 4},
		{"d", greatest, told(d), 4}, {"d", api.MaxSeq, told(d), 4},
		// Behind the last one: all were looked at.
		{"d", api.MaxSeq - 1, "", 4}, {"d", 0, "", 4}, {"d\x00", greatest, "", 4}, {"e", 1, "", 4}, {"\xff", greatest, "", 4},
	})
	answers(t, []api.Entry{c5}, []question{{"", 1, told(c5), 1}, {"c", 5, told(c5), 1}, {"c", 4, "", 1}, {"d", 9, "", 1}})
}

// runs answers n entries whose keys are the numbers from 000 on, at 5.
func runs(n int) []api.Entry {
	var l []api.Entry
	for i := range n {
		l = append(l, put(fmt.Sprintf("%03d", i), 5, ""))
	}
	return l
}

// By hand: the restarts are 000, 016, 032 ..
func TestSeekOverRestarts(t *testing.T) {
	at := func(n int) string { return told(put(fmt.Sprintf("%03d", n), 5, "")) }
	// One run: nothing to halve.
	answers(t, runs(16), []question{{"000", 5, at(0), 1}, {"007", 5, at(7), 8}, {"015", 5, at(15), 16}, {"015", 4, "", 16}, {"016", 9, "", 16}})
	// Two: 016 is halved upon, once.
	answers(t, runs(17), []question{
		{"", 0, at(0), 2}, {"000", 5, at(0), 2}, {"000", 4, at(1), 3}, {"015", 5, at(15), 17},
		// Not ahead, so the first run is gone over, and 016 met again behind it.
		{"015", 4, at(16), 18}, {"016", 6, at(16), 18}, {"016", 5, at(16), 18},
		{"016", 4, "", 2}, {"017", 9, "", 2},
	})
	answers(t, runs(32), []question{{"016", 5, at(16), 18}, {"016", 4, at(17), 3}, {"017", 5, at(17), 3}, {"031", 5, at(31), 17}, {"031", 4, "", 17}})
	// Three: 016 first; behind it 032.
	answers(t, runs(33), []question{
		{"000", 5, at(0), 2}, {"016", 5, at(16), 18},
		{"017", 5, at(17), 4}, {"031", 5, at(31), 18}, {"032", 5, at(32), 19}, {"032", 4, "", 3}, {"999", 1, "", 3},
	})
	// Four: 032 first; then 016, or 048.
	answers(t, runs(64), []question{
		{"000", 5, at(0), 3}, {"015", 5, at(15), 18}, {"016", 5, at(16), 19}, {"016", 4, at(17), 4},
		{"032", 5, at(32), 19}, {"032", 4, at(33), 4}, {"048", 5, at(48), 19}, {"049", 5, at(49), 4}, {"063", 5, at(63), 18}, {"063", 4, "", 18},
	})
	// Five: 032; ahead of it 016; behind it 048, then 064.
	answers(t, runs(65), []question{
		{"000", 5, at(0), 3}, {"020", 5, at(20), 7}, {"040", 5, at(40), 11},
		{"050", 5, at(50), 6}, {"064", 5, at(64), 20}, {"064", 4, "", 4},
	})
}

func TestSeekAtEveryPlaceAsTold(t *testing.T) {
	for _, n := range []int{1, 2, 15, 16, 17, 31, 32, 33, 48, 49, 80, 81, 200} {
		l := rising(n)
		p := byWords(l)
		for _, e := range l {
			for _, seq := range []uint64{0, e.Seq - 1, e.Seq, e.Seq + 1, greatest} {
				seeks(t, p, l, e.Key, seq)
			}
			seeks(t, p, l, e.Key[:6], 1)
			seeks(t, p, l, append(e.Key, 0), 1)
		}
		for _, key := range []string{"", "a", "key", "kez", "\xff"} {
			seeks(t, p, l, []byte(key), 1)
		}
	}
}

func TestSeekWithinOneKeyAsTold(t *testing.T) {
	var l []api.Entry
	for i := range 50 {
		l = append(l, put("k", uint64(3*(50-i)), fmt.Sprint(i)))
	}
	p := byWords(l)
	for seq := range uint64(160) {
		seeks(t, p, l, []byte("k"), seq)
	}
	for _, key := range []string{"", "j", "k\x00", "l"} {
		seeks(t, p, l, []byte(key), 75)
	}
}

func TestSeekInDrawnBlocksAsTold(t *testing.T) {
	d := source(13)
	for n := 1; n < 90; n += 4 {
		l := d.block(n)
		p := byWords(l)
		for _, key := range asks(l) {
			for _, seq := range []uint64{0, 1, l[d.below(len(l))].Seq, d.seq(), api.MaxSeq, greatest} {
				seeks(t, p, l, key, seq)
			}
		}
		for _, e := range l {
			seeks(t, p, l, e.Key, e.Seq)
		}
	}
}

// Of bytes that are no block's, those that are wrong behind the one that is
// looked for count too.
func TestSeekTellsBadBytesAnywhere(t *testing.T) {
	s := []byte(byWords(rising(40)))
	for i := range s {
		s[i] ^= 0x80
		if _, _, e := parsed(string(s)); e == api.ErrBad {
			x, read, err := block.Seek(s, []byte("key0000"), 1)
			if told(x) != told(api.Entry{}) || read != 0 || err != api.ErrBad {
				t.Errorf("byte %d turned: %s, %d, %d; want ErrBad", i, told(x), read, err)
			}
		}
		s[i] ^= 0x80
	}
}
