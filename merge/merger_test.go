package merge_test

import (
	"fmt"
	"slices"
	"strings"
	"testing"

	"bootprint/api"
	"bootprint/merge"
)

// P11.1

func TestCheckOfRows(t *testing.T) {
	for what, l := range map[string][]api.Entry{
		"nil":                       nil,
		"none":                      {},
		"one":                       row(put("a", 1, "x")),
		"two Keys":                  row(put("a", 1, "x"), put("b", 1, "y")),
		"two Keys, the Seq rises":   row(put("a", 1, "x"), put("b", 9, "y")),
		"two Keys, the Seq falls":   row(put("a", 9, "x"), put("b", 1, "y")),
		"one Key, the newest first": row(put("a", 3, "x"), del("a", 2), put("a", 1, "y")),
		"a Key that goes on":        row(put("a", 1, ""), put("a\x00", 2, ""), put("ab", 1, ""), put("b", 1, "")),
		"bytes above 127":           row(put("\x7f", 1, ""), put("\x80", 1, ""), put("\xff", 1, ""), put("\xff\x00", 1, "")),
		"great letters first":       row(put("Z", 1, ""), put("a", 1, "")),
		"Seqs far apart":            row(put("a", greatest, ""), put("a", 1<<63, ""), put("a", 1<<63-1, ""), put("a", 0, "")),
	} {
		refused(t, what, merge.Check(l), api.OK)
		if !isRow(l) {
			t.Errorf("%s: no row by the words", what)
		}
	}
}

// wrongRows answers lists that are no rows.
func wrongRows() map[string][]api.Entry {
	return map[string][]api.Entry{
		"an entry twice":                    row(put("a", 1, "x"), put("a", 1, "x")),
		"twice, with another Value":         row(put("a", 1, "x"), put("a", 1, "y")),
		"twice, with another Kind":          row(put("a", 1, "x"), del("a", 1)),
		"twice at the end":                  row(put("a", 1, "x"), put("b", 2, "y"), put("b", 2, "y")),
		"twice, not side by side":           row(put("a", 1, "x"), put("b", 2, "y"), put("a", 1, "x")),
		"the Seqs of a Key rise":            row(put("a", 1, "x"), put("a", 2, "y")),
		"the Seqs of the last Key rise":     row(put("a", 3, "x"), put("a", 2, "y"), put("b", 1, "x"), put("b", 2, "y")),
		"the Keys fall":                     row(put("b", 1, "x"), put("a", 1, "y")),
		"the Keys fall, as the Seq does":    row(put("b", 9, "x"), put("a", 1, "y")),
		"the last Key falls":                row(put("a", 1, "x"), put("c", 1, "y"), put("b", 1, "z")),
		"a Key behind one that goes on":     row(put("ab", 1, "x"), put("a", 1, "y")),
		"bytes above 127 first":             row(put("\x80", 1, ""), put("\x7f", 1, "")),
		"no Key, twice":                     row(put("", 0, ""), put("", 0, "")),
		"no Key behind one":                 row(put("a", 1, ""), put("", 1, "")),
		"Seqs that rise above the greatest": row(put("a", api.MaxSeq, ""), put("a", greatest, "")),
	}
}

func TestCheckOfWhatIsNoRow(t *testing.T) {
	for what, l := range wrongRows() {
		refused(t, what, merge.Check(l), api.ErrArg)
		if isRow(l) {
			t.Errorf("%s: a row by the words", what)
		}
	}
}

// mayNotBe is a row none of whose entries may be.
func mayNotBe() []api.Entry {
	return row(
		put("", greatest, "no Key, a Seq that is too great"),
		api.Entry{Seq: 1, Kind: 7},
		put("", 0, "neither"),
		put("a", api.MaxSeq+1, "too great"),
		api.Entry{Key: []byte("a"), Seq: 5, Kind: 3, Value: []byte("no Kind")},
		api.Entry{Key: []byte("a"), Seq: 4},
		api.Entry{Key: []byte("a"), Seq: 3, Kind: -1},
		api.Entry{Key: []byte("a"), Seq: 2, Kind: api.WriteDelete, Value: []byte("a delete's")},
		put("a", 0, "no Seq"),
		put("b"+strings.Repeat("k", api.MaxKey), 1, strings.Repeat("v", api.MaxValue+1)),
	)
}

func TestWhetherEntriesMayBeIsNotAsked(t *testing.T) {
	l := mayNotBe()
	refused(t, "Check", merge.Check(l), api.OK)
	for i := range l {
		refused(t, fmt.Sprint("Check of entry ", i), merge.Check(l[i:i+1]), api.OK)
	}
	rows := rowsOf(l[5:], l[:7])
	tells(t, "All", all(t, rows), l...)
	tells(t, "a merger", rest(t, merger(t, rows)), l...)
	slices.Reverse(l)
	refused(t, "Check of the same, the other way round", merge.Check(l), api.ErrArg)
}

func TestCheckOfDrawnLists(t *testing.T) {
	d := source(5)
	rows := 0
	for range 20000 {
		var l []api.Entry
		for range d.below(5) {
			l = append(l, api.Entry{Key: d.key(), Seq: d.seq(), Kind: d.kind()})
		}
		want := api.ErrArg
		if isRow(l) {
			want = api.OK
			rows++
		}
		if e := merge.Check(l); e != want {
			t.Fatalf("Check of %s: %d, want %d", told(l...), e, want)
		}
	}
	if rows < 5000 || rows > 15000 {
		t.Errorf("%d were rows: too few, or too many", rows)
	}
}

func TestWhereverARowIsNone(t *testing.T) {
	fair := func() [][]api.Entry {
		return rowsOf(row(put("a", 1, "x")), nil, row(put("a", 1, "y"), put("b", 1, "z")), row(), row(del("c", 4)))
	}
	for what, wrong := range wrongRows() {
		none(t, what, rowsOf(wrong))
		for i := range len(fair()) + 1 {
			none(t, fmt.Sprintf("%s, as row %d", what, i), slices.Insert(fair(), i, wrong))
		}
		none(t, what+", twice", rowsOf(wrong, wrong))
		many := slices.Repeat(fair(), 200)
		none(t, what+", as the last of many", append(many, wrong))
	}
}

func TestMergersWithoutEntries(t *testing.T) {
	for _, rows := range [][][]api.Entry{nil, {}, {nil}, {{}}, {nil, {}, nil}, make([][]api.Entry, 100)} {
		m := merger(t, rows)
		if m.Left() != 0 {
			t.Errorf("Left of %s: %d", toldRows(rows), m.Left())
		}
		atEnd(t, m)
	}
}

func TestNextOfOneRow(t *testing.T) {
	l := row(put("a", 3, "x"), del("a", 2), put("a", 1, "y"), put("b", 9, ""), del("c", 1))
	for n := range len(l) + 1 {
		for _, rows := range [][][]api.Entry{{l[:n]}, {nil, l[:n]}, {l[:n], nil}, {{}, {}, l[:n], {}}, {l[:n], l[:n]}} {
			m := merger(t, rows)
			if m.Left() != n {
				t.Errorf("Left of %s: %d, want %d", toldRows(rows), m.Left(), n)
			}
			tells(t, toldRows(rows), taken(m), l[:n]...)
			atEnd(t, m)
		}
	}
}

func TestNextAndPeekByTurns(t *testing.T) {
	m := merger(t, rowsOf(
		row(put("a", 2, "first"), put("c", 1, "first")),
		row(put("a", 2, "second"), put("a", 1, "second"), del("b", 1)),
		row(put("a", 2, "third"), put("b", 1, "third"), put("c", 1, "third")),
	))
	want := row(put("a", 2, "first"), put("a", 1, "second"), del("b", 1), put("c", 1, "first"))
	for i, e := range want {
		for range i { // Peek none, once, twice, ..
			if x, ok := m.Peek(); told(x) != told(e) || !ok || m.Left() != 4-i {
				t.Errorf("Peek %d: %s%t, Left %d", i, told(x), ok, m.Left())
			}
		}
		if m.Left() != 4-i {
			t.Errorf("ahead of Next %d: Left %d", i, m.Left())
		}
		if x, ok := m.Next(); told(x) != told(e) || !ok || m.Left() != 3-i {
			t.Errorf("Next %d: %s%t, Left %d", i, told(x), ok, m.Left())
		}
	}
	atEnd(t, m)
}

// What is the same counts once, wherever it stands.
func TestLeftOfWhatIsTheSame(t *testing.T) {
	a, b, c := put("a", 1, "x"), put("b", 1, "x"), put("c", 1, "x")
	for _, c := range []struct {
		rows [][]api.Entry
		want int
	}{
		{rowsOf(row(a), row(a)), 1},
		{rowsOf(row(a), row(a), row(a)), 1},
		{rowsOf(row(a, b), row(a), row(b)), 2},
		{rowsOf(row(a), row(b), row(a, b)), 2},
		{rowsOf(row(a, b, c), row(a, b, c), row(a, b, c), nil), 3},
		{rowsOf(row(a), row(b), row(c)), 3},
		{rowsOf(row(put("a", 2, "")), row(a)), 2},
		{slices.Repeat(rowsOf(row(a, b), row(b, c)), 50), 3},
	} {
		m := merger(t, c.rows)
		if m.Left() != c.want {
			t.Errorf("Left of %s: %d, want %d", toldRows(c.rows), m.Left(), c.want)
		}
		if l := rest(t, m); len(l) != c.want {
			t.Errorf("a merger of %s tells %s", toldRows(c.rows), told(l...))
		}
	}
}

// Two mergers of the same rows know nothing of each other.
func TestMergersStandApart(t *testing.T) {
	rows := rowsOf(row(put("a", 1, "x"), put("c", 1, "")), row(put("a", 1, "y"), put("b", 1, "z")))
	m, other := merger(t, rows), merger(t, rows)
	tells(t, "the first", taken(m), put("a", 1, "x"), put("b", 1, "z"), put("c", 1, ""))
	if other.Left() != 3 {
		t.Errorf("Left of the other: %d", other.Left())
	}
	tells(t, "the other", rest(t, other), put("a", 1, "x"), put("b", 1, "z"), put("c", 1, ""))
	atEnd(t, m)
}
