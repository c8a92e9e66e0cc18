package compact_test

import (
	"fmt"
	"testing"

	"bootprint/api"
)

// P15.1: Visible

func TestWhatIsSeenWithoutLooks(t *testing.T) {
	whoSees(t, "no entry", nil, nil, "")
	whoSees(t, "one", puts("a", 3), nil, "a3")
	whoSees(t, "a delete", row(del("a", 3)), nil, "a3D")
	whoSees(t, "the newest alone", puts("a", 3, 2, 1), nil, "a3")
	whoSees(t, "the newest, which is a delete", row(del("a", 3), put("a", 2, "x")), nil, "a3D")
	whoSees(t, "of each Key", append(puts("a", 3, 2), append(puts("b", 9), puts("ba", 5, 4)...)...), nil, "a3 b9 ba5")
}

func TestALookBelowAtAndAboveAnEntry(t *testing.T) {
	l := puts("a", 30, 20, 10)
	for look, want := range map[uint64]string{
		0: "a30", 9: "a30", 10: "a30 a10", 11: "a30 a10", 19: "a30 a10", 20: "a30 a20", 21: "a30 a20",
		29: "a30 a20", 30: "a30", 31: "a30", api.MaxSeq - 1: "a30", api.MaxSeq: "a30",
	} {
		whoSees(t, "one look", l, at(look), want)
	}
	whoSees(t, "looks on both sides", l, at(9, 31), "a30")
	whoSees(t, "all", l, at(10, 20), "a30 a20 a10")
	whoSees(t, "all, by other looks", l, at(19, 29), "a30 a20 a10")
}

func TestManyEntriesBetweenTwoLooks(t *testing.T) {
	l := puts("a", 9, 8, 7, 6, 5, 4, 3, 2, 1)
	whoSees(t, "two looks", l, at(3, 7), "a9 a7 a3")
	whoSees(t, "neighbours", l, at(6, 7), "a9 a7 a6")
	whoSees(t, "the first and the last", l, at(0, 1, 9), "a9 a1")
}

func TestManyLooksBetweenTwoEntries(t *testing.T) {
	l := puts("a", 100, 50, 10)
	whoSees(t, "below all", l, at(0, 1, 2, 3, 4, 5, 6, 7, 8, 9), "a100")
	whoSees(t, "between two", l, at(11, 12, 13, 14, 15, 16, 17, 18, 19, 20, 30, 49), "a100 a10")
	whoSees(t, "above all", l, at(100, 101, 102, 103, 104, 105), "a100")
}

// Who looks is asked of each Key anew, whatever the Key ahead of it has.
func TestLooksOfSeveralKeys(t *testing.T) {
	l := row(put("", 9, ""), put("", 2, ""), put("a", 5, ""), put("a", 3, ""), put("a", 1, ""),
		put("a\x00", 4, ""), put("a\x00", 2, ""), put("b", 8, ""), put("c", 1, ""))
	whoSees(t, "none", l, nil, "9 a5 a\x004 b8 c1")
	whoSees(t, "at 1", l, at(1), "9 a5 a1 a\x004 b8 c1")
	whoSees(t, "at 2", l, at(2), "9 2 a5 a1 a\x004 a\x002 b8 c1")
	whoSees(t, "at 3 and 8", l, at(3, 8), "9 2 a5 a3 a\x004 a\x002 b8 c1")
	whoSees(t, "at 4", l, at(4), "9 2 a5 a3 a\x004 b8 c1")
}

func TestLooksAtTheBounds(t *testing.T) {
	l := puts("a", api.MaxSeq, api.MaxSeq-1, 1, 0)
	whoSees(t, "none", l, nil, fmt.Sprint("a", api.MaxSeq))
	whoSees(t, "at 0", l, at(0), fmt.Sprint("a", api.MaxSeq, " a0"))
	whoSees(t, "at the greatest number", l, at(api.MaxSeq), fmt.Sprint("a", api.MaxSeq))
	whoSees(t, "at both", l, at(0, api.MaxSeq), fmt.Sprint("a", api.MaxSeq, " a0"))
	whoSees(t, "just below", l, at(api.MaxSeq-1, api.MaxSeq), fmt.Sprint("a", api.MaxSeq, " a", api.MaxSeq-1))
}

// Whether entries may be is not asked: those above the greatest number are seen
// by nobody.
func TestEntriesAboveTheGreatestNumber(t *testing.T) {
	l := puts("a", greatest, api.MaxSeq+1, 7, 6)
	whoSees(t, "none", l, nil, "a7")
	whoSees(t, "at 6", l, at(6), "a7 a6")
	whoSees(t, "at the greatest", l, at(6, api.MaxSeq), "a7 a6")
	whoSees(t, "alone", puts("a", api.MaxSeq+1), at(0, api.MaxSeq), "")
	leaves(t, "alone", puts("a", api.MaxSeq+1), nil, false, "")
	leaves(t, "above others", l, at(6), true, "a7 a6")
}

func TestLooksThatMayNotBe(t *testing.T) {
	for what, looks := range map[string][]uint64{
		"above the greatest":           at(api.MaxSeq + 1),
		"the greatest there is":        at(greatest),
		"above it, behind others":      at(1, api.MaxSeq, api.MaxSeq+1),
		"two that are the same":        at(1, 1),
		"twice 0":                      at(0, 0),
		"twice the greatest":           at(api.MaxSeq, api.MaxSeq),
		"the same, behind others":      at(1, 2, 2),
		"the same, ahead of others":    at(1, 1, 2),
		"two that fall":                at(2, 1),
		"falling, behind others":       at(1, 3, 2),
		"falling, ahead of others":     at(3, 1, 4),
		"falling in the last places":   at(1, 2, 3, 4, 5, 0),
		"above the greatest and falls": at(api.MaxSeq+1, 1),
	} {
		for _, l := range rowsOf(nil, puts("a", 3, 2, 1)) {
			noLooks(t, what, l, looks)
			for _, bottom := range []bool{false, true} {
				noRun(t, what, rowsOf(l), looks, bottom, 60)
			}
		}
		noRun(t, what, nil, looks, false, 60)
		// What is no row is told first, and what else is wrong by the way: one
		// error, of all of them.
		noRow(t, what+", no row", puts("a", 1, 2), looks, 60)
		noRow(t, what+", no row and no target", puts("a", 1, 1), looks, 0)
		noRun(t, what+", no target", rowsOf(puts("a", 1)), looks, false, 0)
	}
	for _, looks := range [][]uint64{nil, {}, at(0), at(api.MaxSeq), at(0, 1), at(0, api.MaxSeq), at(api.MaxSeq-1, api.MaxSeq)} {
		visible(t, puts("a", 1), looks)
		left(t, puts("a", 1), looks, true)
		run(t, rowsOf(puts("a", 1)), looks, true, 1)
	}
}

func TestListsThatAreNoRow(t *testing.T) {
	for what, l := range map[string][]api.Entry{
		"Keys that fall":          row(put("b", 1, ""), put("a", 2, "")),
		"a Key that is shorter":   row(put("ab", 1, ""), put("a", 2, "")),
		"a Key with bytes ahead":  row(put("a", 1, ""), put("", 1, "")),
		"numbers that rise":       puts("a", 1, 2),
		"the same, twice":         puts("a", 1, 1),
		"the same of two Kinds":   row(put("a", 1, ""), del("a", 1)),
		"behind others":           append(puts("a", 3, 2, 1), puts("a", 1)...),
		"ahead of others":         append(puts("b", 1), puts("a", 3, 2)...),
		"a Key that comes again":  append(puts("a", 3), append(puts("b", 2), puts("a", 1)...)...),
		"numbers that nobody has": puts("a", greatest, greatest),
	} {
		noRow(t, what, l, nil, 60)
		noRow(t, what+", at a look", l, at(2), mostTarget)
		noRow(t, what+", at looks that may not be", l, at(2, 1), 60)
		noRow(t, what+", by no target", l, at(2), 0)
		noRow(t, what+", all of it", l, at(greatest), mostTarget+1)
		noRun(t, what+", behind a row", rowsOf(puts("a", 2), l), nil, false, 60)
		noRun(t, what+", ahead of a row", rowsOf(l, puts("a", 2)), nil, true, 60)
	}
}
