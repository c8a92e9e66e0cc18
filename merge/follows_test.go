package merge_test

import (
	"fmt"
	"slices"
	"testing"

	"bootprint/api"
)

// P11.3

// subsets answers each row that has some of four entries, their Kinds by turns,
// with a Value that tells the row.
func subsets(number, turn int) [][]api.Entry {
	spots := row(put("a", 2, ""), put("a", 1, ""), put("b", 2, ""), put("b", 1, ""))
	var rows [][]api.Entry
	for set := range 1 << len(spots) {
		var l []api.Entry
		for i, e := range spots {
			if set>>i&1 == 1 {
				e.Kind = 1 + (i*turn+number+i*i)%3 // 3 is no Kind
				e.Value = fmt.Appendf(nil, "%d", number)
				l = append(l, e)
			}
		}
		rows = append(rows, l)
	}
	return rows
}

// Every three rows that have some of four entries.
func TestAllRowsOfFewEntries(t *testing.T) {
	for turn := range 3 {
		first, second, third := subsets(0, turn), subsets(1, turn), subsets(2, turn)
		for _, a := range first {
			for _, b := range second {
				for _, c := range third {
					asPlain(t, rowsOf(a, b, c), []uint64{0, 1, 2, greatest}, []string{"", "b"}, []int{1, 2})
				}
			}
		}
	}
}

func TestDrawnRowsAsTold(t *testing.T) {
	d := source(11)
	for i := range 250 {
		rows := d.rows(i%9, 1+i%25)
		seqs := []uint64{0, 1, 2, d.seq(), api.MaxSeq - 1, api.MaxSeq, greatest}
		keys := []string{"", string(d.key()), string(d.key()), "\xff", "a"}
		asPlain(t, rows, seqs, keys, []int{-1, 0, 1, d.below(9), greatestInt})
	}
}

func TestMergersTellAllOneByOne(t *testing.T) {
	d := source(13)
	for i := range 500 {
		rows := d.rows(i%12, 20)
		want := all(t, rows)
		tells(t, "Next alone", taken(merger(t, rows)), want...)
		// Peek now and then.
		m := merger(t, rows)
		for j, e := range want {
			if d.below(2) == 0 {
				if x, ok := m.Peek(); !ok || told(x) != told(e) {
					t.Fatalf("Peek %d of %s: %s%t", j, toldRows(rows), told(x), ok)
				}
			}
			if m.Left() != len(want)-j {
				t.Fatalf("Left %d, want %d", m.Left(), len(want)-j)
			}
			if x, ok := m.Next(); !ok || told(x) != told(e) {
				t.Fatalf("Next %d of %s: %s%t", j, toldRows(rows), told(x), ok)
			}
		}
		atEnd(t, m)
		// What comes out is a row.
		if !isRow(want) {
			t.Fatalf("All of %s is no row: %s", toldRows(rows), told(want...))
		}
	}
}

func TestMergingMergedRows(t *testing.T) {
	d := source(17)
	for i := range 200 {
		rows := d.rows(1+i%8, 15)
		want := told(all(t, rows)...)
		again := func(how string, parts ...[]api.Entry) {
			t.Helper()
			if got := told(all(t, parts)...); got != want {
				t.Fatalf("%s of %s: %s, want %s", how, toldRows(rows), got, want)
			}
			if got := told(rest(t, merger(t, parts))...); got != want {
				t.Fatalf("a merger of %s of %s: %s, want %s", how, toldRows(rows), got, want)
			}
			for _, seq := range []uint64{0, 2, greatest} {
				if got, want := told(seen(t, parts, seq)...), told(seen(t, rows, seq)...); got != want {
					t.Fatalf("Seen at %d, %s of %s: %s, want %s", seq, how, toldRows(rows), got, want)
				}
			}
		}
		again("all", all(t, rows))
		again("all, twice", all(t, rows), all(t, rows))
		for cut := range len(rows) + 1 {
			again("two parts", all(t, rows[:cut]), all(t, rows[cut:]))
			for end := cut; end <= len(rows); end++ {
				again("a part between", slices.Concat(rows[:cut], rowsOf(all(t, rows[cut:end])), rows[end:])...)
			}
		}
		// One by one.
		var l []api.Entry
		for _, r := range rows {
			l = all(t, rowsOf(l, r))
		}
		again("one by one", l)
	}
}

func TestTheOrderOfRows(t *testing.T) {
	d := source(19)
	others := 0
	for i := range 400 {
		rows := d.rows(i%8, 12)
		first := all(t, rows)
		again := d.shuffled(rows)
		other := all(t, again)
		if places(other) != places(first) {
			t.Fatalf("All of %s: %s, and in another order %s", toldRows(rows), told(first...), told(other...))
		}
		if told(other...) != told(first...) {
			others++
		}
		// Where two differ, each is of the first row that has it.
		tells(t, "in another order", other, plainAll(again)...)
		for j, e := range other {
			if told(e) != told(first[j]) && count(rows, e) < 2 {
				t.Fatalf("%s is in one row, and told otherwise: %s", told(first[j]), told(e))
			}
		}
	}
	if others < 50 {
		t.Errorf("only %d orders made a difference", others)
	}
}

// count tells how many rows have an entry of that Key and Seq.
func count(rows [][]api.Entry, e api.Entry) int {
	n := 0
	for _, r := range rows {
		if slices.ContainsFunc(r, func(x api.Entry) bool { return sameKey(x, e) && x.Seq == e.Seq }) {
			n++
		}
	}
	return n
}

// Where no two rows have the same, their order counts for nothing.
func TestTheOrderOfRowsWithNothingInCommon(t *testing.T) {
	d := source(23)
	for range 200 {
		l := d.row(40)
		rows := make([][]api.Entry, 1+d.below(8))
		for _, e := range l {
			j := d.below(len(rows))
			rows[j] = append(rows[j], e)
		}
		for range 4 {
			rows = d.shuffled(rows)
			tells(t, "All", all(t, rows), l...)
			tells(t, "a merger", rest(t, merger(t, rows)), l...)
			for _, seq := range []uint64{0, 1, 3, api.MaxSeq, greatest} {
				tells(t, "Seen", seen(t, rows, seq), plainSeen(rowsOf(l), seq)...)
			}
		}
	}
}

// What is seen is a row of puts, and sees itself.
func TestSeenOfSeen(t *testing.T) {
	d := source(29)
	for range 300 {
		rows := d.rows(1+d.below(6), 15)
		seq := d.seq()
		l := seen(t, rows, seq)
		if !isRow(l) {
			t.Fatalf("Seen at %d of %s is no row: %s", seq, toldRows(rows), told(l...))
		}
		for i, e := range l {
			if e.Kind != api.WritePut || e.Seq > seq || i > 0 && sameKey(l[i-1], e) {
				t.Fatalf("Seen at %d of %s: %s", seq, toldRows(rows), told(l...))
			}
		}
		tells(t, "Seen of Seen", seen(t, rowsOf(l), seq), l...)
		tells(t, "Between", between(t, rows, "", "", seq, greatestInt), l...)
	}
}

// Many rows, and many entries: whoever goes over all rows for each entry does
// not come to an end here.
func TestManyRowsAndEntries(t *testing.T) {
	const many, each = 5000, 40
	rows := make([][]api.Entry, many)
	for i := range rows {
		// Row i has the places i, i + many, ..; each key three Seqs, in rows apart.
		for j := range each {
			n := i + j*many
			rows[i] = append(rows[i], put(fmt.Sprintf("%06d", n/3), uint64(3-n%3), fmt.Sprint(n)))
		}
	}
	rows = append(rows, rows[:10]...) // the same once more
	l := all(t, rows)
	m := merger(t, rows)
	if len(l) != many*each || m.Left() != many*each {
		t.Fatalf("All %d, Left %d", len(l), m.Left())
	}
	for n, e := range l {
		x, ok := m.Next()
		if string(e.Value) != fmt.Sprint(n) || !ok || string(x.Value) != fmt.Sprint(n) || m.Left() != many*each-n-1 {
			t.Fatalf("entry %d: %s%s%t, Left %d", n, told(e), told(x), ok, m.Left())
		}
	}
	if l := seen(t, rows, 1); len(l) != many*each/3 {
		t.Errorf("Seen at 1: %d", len(l))
	}
	if l := between(t, rows, "000100", "000200", 2, 50); len(l) != 50 || string(l[0].Key) != "000100" || l[49].Seq != 2 {
		t.Errorf("Between: %s", told(l...))
	}
}

// One Key that has many entries, of which only the last one is seen.
func TestManyEntriesOfOneKey(t *testing.T) {
	const many = 20000
	rows := make([][]api.Entry, 3)
	for n := range many {
		rows[n%3] = append(rows[n%3], put("k", uint64(many-n), fmt.Sprint(many-n)))
	}
	rows = append(rows, row(put("l", 1, "last")))
	for _, seq := range []uint64{1, 2, many / 2, many, greatest} {
		want := fmt.Sprint(min(seq, many))
		if l := seen(t, rows, seq); len(l) != 2 || string(l[0].Value) != want || string(l[1].Value) != "last" {
			t.Errorf("Seen at %d: %s", seq, told(l...))
		}
	}
}
