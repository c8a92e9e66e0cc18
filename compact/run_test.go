package compact_test

import (
	"testing"

	"bootprint/api"
)

// P15.2

// goes fails unless Run's files are those that are wanted.
func goes(t *testing.T, what string, rows [][]api.Entry, looks []uint64, bottom bool, target int, want string) {
	t.Helper()
	if got := toldFiles(run(t, rows, looks, bottom, target)); got != want {
		t.Errorf("%s: %s, want %s", what, got, want)
	}
}

func TestRunOfNothing(t *testing.T) {
	for what, rows := range map[string][][]api.Entry{
		"no row": nil, "no rows": {}, "an empty one": {nil}, "empty ones": {{}, nil, {}},
	} {
		for _, bottom := range []bool{false, true} {
			if f := run(t, rows, at(0, 5), bottom, 1); len(f) != 0 {
				t.Errorf("%s: %s", what, toldRows(f))
			}
		}
	}
	goes(t, "nothing is left", rowsOf(row(del("a", 1)), row(del("b", 2), put("b", 1, ""))), nil, true, 1, "")
}

func TestRunOfRows(t *testing.T) {
	rows := rowsOf(
		row(put("a", 9, ""), del("c", 8)),
		nil,
		row(put("a", 5, ""), put("b", 4, ""), put("c", 3, "")),
		row(put("a", 2, ""), del("b", 1), del("d", 1)),
	)
	goes(t, "no look", rows, nil, false, 60, "a9 b4 | c8D d1D")
	goes(t, "at the bottom", rows, nil, true, 60, "a9 b4")
	goes(t, "a look", rows, at(3), false, 60, "a9 a2 | b4 b1D | c8D c3 | d1D")
	goes(t, "a look at the bottom", rows, at(3), true, 60, "a9 a2 | b4 c8D c3")
	goes(t, "each Key alone", rows, at(5), true, 1, "a9 a5 | b4 | c8D c3")
	goes(t, "all in one", rows, at(5), false, mostTarget, "a9 a5 b4 c8D c3 d1D")
	goes(t, "one row", rows[2:3], nil, true, 66, "a5 b4 | c3")
}

// What is the same in several rows is the first one's.
func TestRunOfTheSameEntries(t *testing.T) {
	rows := rowsOf(row(put("a", 3, "first")), row(put("a", 3, "second"), put("b", 1, "one")), row(del("a", 3), put("b", 1, "other")))
	want := `["a" at 3: 1 "first"; ] ["b" at 1: 1 "one"; ] `
	if got := toldRows(run(t, rows, at(0), true, 1)); got != want {
		t.Errorf("Run: %s, want %s", got, want)
	}
	rows[0], rows[2] = rows[2], rows[0]
	want = `["b" at 1: 1 "other"; ] `
	if got := toldRows(run(t, rows, nil, true, 1)); got != want {
		t.Errorf("Run the other way: %s, want %s", got, want)
	}
}

// A fault in each part, and in two at once: one error tells of all.
func TestRunRefuses(t *testing.T) {
	rows, wrong := rowsOf(puts("a", 2, 1), puts("b", 1)), rowsOf(puts("a", 2, 1), puts("b", 1, 1))
	for _, bottom := range []bool{false, true} {
		noRun(t, "rows", wrong, at(1), bottom, 60)
		noRun(t, "looks", rows, at(1, 1), bottom, 60)
		noRun(t, "target", rows, at(1), bottom, 0)
		noRun(t, "rows and looks", wrong, at(2, 1), bottom, 60)
		noRun(t, "rows and target", wrong, at(1), bottom, mostTarget+1)
		noRun(t, "looks and target", rows, at(greatest), bottom, -1)
		noRun(t, "all", wrong, at(greatest), bottom, -1)
		// Rows that are refused though nothing of them would be left.
		noRun(t, "deletes", rowsOf(row(del("a", 1), del("a", 1))), nil, bottom, 60)
	}
}
