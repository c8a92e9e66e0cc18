package merge_test

import (
	"fmt"
	"testing"

	"bootprint/api"
)

// P11.2

func TestAllAsTold(t *testing.T) {
	for _, c := range []struct {
		what string
		rows [][]api.Entry
		want []api.Entry
	}{
		{"no rows", nil, nil},
		{"rows without entries", rowsOf(nil, row(), nil), nil},
		{"one row", rowsOf(row(put("a", 2, "x"), del("a", 1))), row(put("a", 2, "x"), del("a", 1))},
		{
			"rows without entries among others",
			rowsOf(nil, row(put("b", 1, "x")), row(), row(put("a", 1, "y")), nil),
			row(put("a", 1, "y"), put("b", 1, "x")),
		},
		{
			"one row ahead of another, and behind",
			rowsOf(row(put("c", 1, ""), put("d", 1, "")), row(put("a", 1, ""), put("b", 1, ""))),
			row(put("a", 1, ""), put("b", 1, ""), put("c", 1, ""), put("d", 1, "")),
		},
		{
			"rows of which some end early",
			rowsOf(row(put("a", 1, "")), row(put("b", 1, ""), put("e", 1, "")), row(put("a", 2, ""), put("c", 1, ""), put("d", 1, ""), put("f", 1, ""))),
			row(put("a", 2, ""), put("a", 1, ""), put("b", 1, ""), put("c", 1, ""), put("d", 1, ""), put("e", 1, ""), put("f", 1, "")),
		},
		{
			"the newest first, whichever row has it",
			rowsOf(row(put("a", 3, ""), put("a", 1, "")), row(put("a", 4, ""), del("a", 2))),
			row(put("a", 4, ""), put("a", 3, ""), del("a", 2), put("a", 1, "")),
		},
		{
			"in two rows, with another Value",
			rowsOf(row(put("b", 5, "")), row(put("a", 1, "second")), row(put("a", 1, "third"))),
			row(put("a", 1, "second"), put("b", 5, "")),
		},
		{
			"in two rows, with another Kind",
			rowsOf(row(del("a", 1)), row(put("a", 1, "second"))),
			row(del("a", 1)),
		},
		{
			"in two rows, with another Kind, the other way round",
			rowsOf(row(put("a", 1, "first")), row(del("a", 1))),
			row(put("a", 1, "first")),
		},
		{
			"in three rows, where they stand ahead, within and at the end",
			rowsOf(row(put("m", 1, "first"), put("z", 1, "")), row(put("a", 1, ""), put("m", 1, "second"), put("z", 1, "second")), row(put("b", 1, ""), del("m", 1))),
			row(put("a", 1, ""), put("b", 1, ""), put("m", 1, "first"), put("z", 1, "")),
		},
		{
			"a Key that another goes on",
			rowsOf(row(put("ab", 9, "")), row(put("a", 1, ""), put("b", 1, "")), row(put("a\x00", 5, ""))),
			row(put("a", 1, ""), put("a\x00", 5, ""), put("ab", 9, ""), put("b", 1, "")),
		},
	} {
		tells(t, c.what, all(t, c.rows), c.want...)
		tells(t, c.what+", a merger", rest(t, merger(t, c.rows)), c.want...)
	}
}

// The first of many rows counts, whatever the heap has done.
func TestTheFirstOfManyRows(t *testing.T) {
	for n := 1; n <= 40; n++ {
		var rows [][]api.Entry
		for i := range n {
			// Row i has just the keys that i + 1 divides: the first row of some
			// that has key k is another one for each k.
			var l []api.Entry
			for k := i + 1; k <= 60; k += i + 1 {
				l = append(l, put(fmt.Sprintf("%02d", k), 1, fmt.Sprint("row ", i)))
			}
			rows = append(rows, l)
		}
		for first := range rows {
			tells(t, fmt.Sprintf("rows %d to %d", first, n-1), all(t, rows[first:]), plainAll(rows[first:])...)
		}
	}
}

func TestSeenAtNumbers(t *testing.T) {
	rows := rowsOf(
		row(put("a", 7, "a7"), put("a", 3, "a3"), put("c", 5, "c5")),
		row(put("a", 5, "a5"), put("b", 4, "b4"), put("b", 2, "b2")),
	)
	for _, c := range []struct {
		seq  uint64
		want []api.Entry
	}{
		{0, nil},
		{1, nil},
		{2, row(put("b", 2, "b2"))},
		{3, row(put("a", 3, "a3"), put("b", 2, "b2"))},
		{4, row(put("a", 3, "a3"), put("b", 4, "b4"))},
		{5, row(put("a", 5, "a5"), put("b", 4, "b4"), put("c", 5, "c5"))},
		{6, row(put("a", 5, "a5"), put("b", 4, "b4"), put("c", 5, "c5"))},
		{7, row(put("a", 7, "a7"), put("b", 4, "b4"), put("c", 5, "c5"))},
		{8, row(put("a", 7, "a7"), put("b", 4, "b4"), put("c", 5, "c5"))},
		{api.MaxSeq, row(put("a", 7, "a7"), put("b", 4, "b4"), put("c", 5, "c5"))},
		{greatest, row(put("a", 7, "a7"), put("b", 4, "b4"), put("c", 5, "c5"))},
	} {
		tells(t, fmt.Sprint("Seen at ", c.seq), seen(t, rows, c.seq), c.want...)
	}
}

func TestSeenOfNothing(t *testing.T) {
	for _, rows := range [][][]api.Entry{nil, {}, {nil}, {nil, {}}, {row(del("a", 1)), row(del("a", 2), del("b", 1))}} {
		for _, seq := range []uint64{0, 1, greatest} {
			tells(t, toldRows(rows), seen(t, rows, seq))
		}
	}
}

func TestSeenOfDeletes(t *testing.T) {
	for _, c := range []struct {
		what string
		rows [][]api.Entry
		seq  uint64
		want []api.Entry
	}{
		{"older ones in the same row", rowsOf(row(del("a", 3), put("a", 2, "x"), put("a", 1, "y"))), 3, nil},
		{"older ones in a row ahead", rowsOf(row(put("a", 2, "x")), row(del("a", 3))), 3, nil},
		{"older ones in a row behind", rowsOf(row(del("a", 3)), row(put("a", 2, "x"), put("a", 1, "y"))), 3, nil},
		{"in the same row and in another", rowsOf(row(put("a", 2, "x")), row(del("a", 3), put("a", 1, "y")), row(put("a", 2, "z"))), 9, nil},
		{"below it", rowsOf(row(del("a", 3), put("a", 2, "x"), put("a", 1, "y"))), 2, row(put("a", 2, "x"))},
		{"a newer one", rowsOf(row(del("a", 3), put("a", 2, "x")), row(put("a", 4, "new"))), 4, row(put("a", 4, "new"))},
		{"a newer one that is not looked at", rowsOf(row(del("a", 3), put("a", 2, "x")), row(put("a", 4, "new"))), 3, nil},
		{"two deletes", rowsOf(row(del("a", 4)), row(del("a", 3), put("a", 2, "x"))), 9, nil},
		{"of one Key only", rowsOf(row(put("a", 1, "x"), del("b", 2), put("b", 1, "y"), put("c", 1, "z"))), 9, row(put("a", 1, "x"), put("c", 1, "z"))},
		{"the same as a put in the first row", rowsOf(row(put("a", 2, "x")), row(del("a", 2), put("a", 1, "y"))), 2, row(put("a", 2, "x"))},
		{"the same as a put in the second row", rowsOf(row(del("a", 2)), row(put("a", 2, "x"), put("a", 1, "y"))), 2, nil},
		{"the same, below it", rowsOf(row(del("a", 2)), row(put("a", 2, "x"), put("a", 1, "y"))), 1, row(put("a", 1, "y"))},
		{"a Key that goes on", rowsOf(row(del("a", 5), put("ab", 1, "x")), row(put("a", 4, ""), put("a\x00", 1, "y"))), 9, row(put("a\x00", 1, "y"), put("ab", 1, "x"))},
	} {
		tells(t, c.what, seen(t, c.rows, c.seq), c.want...)
	}
}

// An entry of no Kind hides older ones, and is not seen; a Key without bytes is
// one like others.
func TestSeenOfEntriesThatMayNotBe(t *testing.T) {
	l := mayNotBe()
	long := l[9]
	for _, c := range []struct {
		seq  uint64
		want []api.Entry
	}{
		{0, row(l[2], l[8])},
		{1, row(l[8], long)},
		{2, row(long)},
		{5, row(long)},
		{api.MaxSeq, row(long)},
		{api.MaxSeq + 1, row(l[3], long)},
		{greatest, row(l[0], l[3], long)},
	} {
		for _, rows := range [][][]api.Entry{{l}, {l[5:], l[:5]}, {l, l, l}, {l[:1], l[1:2], l[2:]}} {
			tells(t, fmt.Sprint("Seen at ", c.seq), seen(t, rows, c.seq), c.want...)
			tells(t, fmt.Sprint("Between at ", c.seq), between(t, rows, "", "", c.seq, 9), c.want...)
		}
	}
	tells(t, "Between no Key and a", between(t, rowsOf(l), "", "a", greatest, 9), l[0])
	tells(t, "Between \\0 and b", between(t, rowsOf(l), "\x00", "b", greatest, 9), l[3])
}

// letters answers rows that have a to e, each put at 1.
func letters() (rows [][]api.Entry, l []api.Entry) {
	for _, c := range "abcde" {
		l = append(l, put(string(c), 1, "value "+string(c)))
	}
	return rowsOf(row(l[1], l[3]), row(l[0], l[2], l[3], l[4])), l
}

func TestBetweenBounds(t *testing.T) {
	rows, l := letters()
	for _, c := range []struct {
		from, to string
		want     []api.Entry
	}{
		{"", "", l},
		{"a", "", l},
		{"", "f", l},
		{"a", "f", l},
		{"", "e", l[:4]},
		{"", "e\x00", l},
		{"b", "d", l[1:3]},
		{"b\x00", "d", l[2:3]},
		{"b", "d\x00", l[1:4]},
		{"b", "b\x00", l[1:2]},
		{"b", "c", l[1:2]},
		{"a\xff", "b\xff", l[1:2]},
		{"e", "", l[4:]},
		{"e\x00", "", nil},
		{"z", "", nil},
		{"", "a", nil},
		{"", "\x00", nil},
		{"", "A", nil},
		{"b", "b", nil},
		{"bb", "bb", nil},
		{"d", "b", nil},
		{"z", "a", nil},
		{"f", "z", nil},
		{"\x00", "\x01", nil},
	} {
		for _, seq := range []uint64{1, 2, greatest} {
			tells(t, fmt.Sprintf("Between %q and %q", c.from, c.to), between(t, rows, c.from, c.to, seq, 9), c.want...)
		}
		tells(t, "Between at 0", between(t, rows, c.from, c.to, 0, 9))
	}
}

func TestBetweenNumbers(t *testing.T) {
	rows, l := letters()
	for _, n := range []int{leastInt, -7, -1, 0, 1, 2, 4, 5, 6, 1000, greatestInt} {
		few := min(max(n, 0), 5)
		tells(t, fmt.Sprint("the first ", n), between(t, rows, "", "", 1, n), l[:few]...)
		few = min(max(n, 0), 3)
		tells(t, fmt.Sprint("the first ", n, " from b to e"), between(t, rows, "b", "e", 1, n), l[1:1+few]...)
		tells(t, "of none", between(t, nil, "", "", 1, n))
	}
}

// What is not seen does not count for n; of a Key at a bound the newest counts.
func TestBetweenOfWhatIsSeen(t *testing.T) {
	rows := rowsOf(
		row(del("a", 5), put("b", 6, "b6"), put("d", 3, "d3")),
		row(put("a", 4, "a4"), put("b", 2, "b2"), put("c", 9, "c9"), put("c", 1, "c1")),
		row(put("b", 6, "hidden"), del("c", 5), put("d", 2, "d2"), put("e", 7, "e7")),
	)
	for _, c := range []struct {
		from, to string
		seq      uint64
		n        int
		want     []api.Entry
	}{
		{"", "", 9, 1, row(put("b", 6, "b6"))},
		{"", "", 9, 2, row(put("b", 6, "b6"), put("c", 9, "c9"))},
		{"", "", 8, 2, row(put("b", 6, "b6"), put("d", 3, "d3"))},
		{"", "", 4, 2, row(put("a", 4, "a4"), put("b", 2, "b2"))},
		{"", "b", 9, 9, nil},
		{"", "b", 4, 9, row(put("a", 4, "a4"))},
		{"b", "c", 5, 9, row(put("b", 2, "b2"))},
		{"c", "d", 8, 9, nil},
		{"c", "d", 4, 9, row(put("c", 1, "c1"))},
		{"d", "", 9, 9, row(put("d", 3, "d3"), put("e", 7, "e7"))},
		{"d", "", 2, 9, row(put("d", 2, "d2"))},
		{"d", "", 1, 9, nil},
		{"", "", 0, 9, nil},
	} {
		what := fmt.Sprintf("Between %q and %q at %d, %d", c.from, c.to, c.seq, c.n)
		tells(t, what, between(t, rows, c.from, c.to, c.seq, c.n), c.want...)
	}
}

// The chapter's examples

func TestExamplesOfTheChapter(t *testing.T) {
	tells(t, "the first", all(t, rowsOf(row(put("a", 1, "")), row(put("a", 2, ""), put("b", 1, "")))),
		put("a", 2, ""), put("a", 1, ""), put("b", 1, ""))
	tells(t, "the second", all(t, rowsOf(row(put("a", 1, "x")), row(put("a", 1, "y")))), put("a", 1, "x"))
	for _, rows := range [][][]api.Entry{
		rowsOf(row(put("a", 1, "x")), row(del("a", 2))),
		rowsOf(row(del("a", 2), put("a", 1, "x"))),
	} {
		tells(t, "the third", seen(t, rows, 2))
		tells(t, "the third", seen(t, rows, 1), put("a", 1, "x"))
	}
}
