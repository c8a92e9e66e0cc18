package skip_test

import (
	"fmt"
	"slices"
	"testing"

	"bootprint/api"
	"bootprint/skip"
)

// P7.4

func TestDrawnTablesAsTold(t *testing.T) {
	d := source(7)
	for i := range 60 {
		p := d.plain(i)
		towers := slices.Clone(p)
		d.shuffle(towers)
		asTold(t, of(t, towers...), p)
	}
}

func TestEveryOrderAndHeightTellTheSame(t *testing.T) {
	entries := []api.Entry{put("a", 2, "x"), del("a", 1), put("ab", 3, ""), put("b", 3, "yy")}
	heights := [][]int{{1, 1, 1, 1}, {12, 12, 12, 12}, {1, 2, 3, 4}, {4, 3, 2, 1}, {2, 1, 12, 1}, {1, 12, 1, 2}, {3, 3, 1, 3}}
	permute(entries, func(order []api.Entry) {
		for _, h := range heights {
			s, p := skip.New(), plain{}
			for i, e := range order {
				fine(t, "Insert", s.Insert(e, h[i]))
				p.insert(e, h[i])
				asTold(t, s, p)
			}
			if tells(s) != `4 of size 136: "a" at 2: 1 "x"; "a" at 1: 2 ""; "ab" at 3: 1 ""; "b" at 3: 1 "yy"; ` {
				t.Fatalf("put in as %s the table tells %s", told(order...), tells(s))
			}
		}
	})
}

// permute hands on each order of the list.
func permute(l []api.Entry, do func([]api.Entry)) {
	var from func(int)
	from = func(n int) {
		if n == len(l) {
			do(slices.Clone(l))
			return
		}
		for i := n; i < len(l); i++ {
			l[n], l[i] = l[i], l[n]
			from(n + 1)
			l[n], l[i] = l[i], l[n]
		}
	}
	from(0)
}

// answers writes all that a table tells, but for Height and Steps.
func answers(s *skip.Table, p plain) string {
	text := tells(s)
	keys, seqs := asks(p)
	for _, key := range keys {
		for _, seq := range seqs {
			e, err := s.Get(key, seq)
			x, ok := s.Seek(key, seq)
			text += fmt.Sprint(told(e, x), err, ok)
		}
		for n := range 4 {
			text += "\n" + told(s.From(key, n)...)
		}
	}
	return text
}

func TestWhatIsToldDoesNotHangOnOrderNorHeights(t *testing.T) {
	d := source(19)
	for _, n := range []int{2, 5, 12, 30} {
		p := d.plain(n)
		towers := slices.Clone(p)
		first := answers(of(t, towers...), p)
		for _, order := range []func(){
			func() { slices.Reverse(towers) }, func() { d.shuffle(towers) }, func() { d.shuffle(towers) }, func() { d.shuffle(towers) },
		} {
			order()
			for i := range towers {
				towers[i].height = 1 + d.below(12)
			}
			if again := answers(of(t, towers...), p); again != first {
				t.Fatalf("%s\nand, otherwise put in,\n%s", first, again)
			}
		}
	}
}

func TestStepsAreBounded(t *testing.T) {
	d := source(23)
	for i, draw := range []func(n int) int{
		func(int) int { return 1 },
		func(int) int { return 12 },
		func(int) int { return 1 + d.below(12) },
		func(int) int { return d.height() },
		func(n int) int { return 1 + n%12 },
		func(n int) int { return 12 - n%12 },
	} {
		s, most := skip.New(), 0
		for n := range 300 {
			fine(t, "Insert", s.Insert(put(fmt.Sprintf("%03d", n*7%300), 5, ""), draw(n)))
		}
		for n := -1; n <= 300; n++ {
			for _, seq := range []uint64{0, 5, greatest} {
				steps := s.Steps(fmt.Appendf(nil, "%03d", n), seq)
				most = max(most, steps)
				if steps < 12 || steps > 312 {
					t.Fatalf("heights %d: %d steps to %03d", i, steps, n)
				}
			}
		}
		// Where all are of one height, the last place is as far as can be.
		if i < 2 && most != 312 {
			t.Errorf("heights %d: at most %d steps, want 312", i, most)
		}
		if i == 3 && most > 100 {
			t.Errorf("towers of drawn heights save nothing: %d steps", most)
		}
	}
}

func TestManyEntries(t *testing.T) {
	d := source(29)
	s := skip.New()
	const many = 20000
	for n := range many {
		fine(t, "Insert", s.Insert(put(fmt.Sprintf("%05d", n*7919%many), uint64(n+1), "v"), d.height()))
	}
	l := s.All()
	if len(l) != many || s.Len() != many || s.Size() != many*38 {
		t.Fatalf("All %d, Len %d, Size %d", len(l), s.Len(), s.Size())
	}
	for i, e := range l {
		if string(e.Key) != fmt.Sprintf("%05d", i) {
			t.Fatalf("entry %d is %s", i, told(e))
		}
		if got, err := s.Get(e.Key, greatest); err != api.OK || told(got) != told(e) {
			t.Fatalf("Get %s: %s, %d", e.Key, told(got), err)
		}
	}
}
