package compact_test

import (
	"strings"
	"testing"

	"bootprint/api"
)

// P15.1: Cut

func TestNoFileOfNoEntry(t *testing.T) {
	for _, l := range [][]api.Entry{nil, {}} {
		for _, target := range []int{1, 60, mostTarget} {
			if f := files(t, l, target); len(f) != 0 {
				t.Errorf("by %d: %s", target, toldRows(f))
			}
		}
	}
}

func TestTargetsThatMayNotBe(t *testing.T) {
	for _, target := range []int{leastInt, -mostTarget, -1, 0, mostTarget + 1, 1 << 32, 1<<32 + 1, greatestInt} {
		for _, l := range rowsOf(nil, puts("a", 1), puts("a", 1, 2)) {
			noTarget(t, "no target", l, target)
			noRun(t, "no target", rowsOf(l), nil, false, target)
			noRun(t, "no target", rowsOf(l), at(2, 1), true, target)
		}
		noRun(t, "no target, no row", nil, nil, true, target)
	}
	for _, target := range []int{1, 2, mostTarget - 1, mostTarget} {
		cuts(t, "one", puts("a", 1), target, "a1")
	}
}

func TestAFileOfEachKey(t *testing.T) {
	l := append(puts("a", 3, 2, 1), append(puts("b", 5), puts("c", 2, 1)...)...)
	for _, target := range []int{1, 32, 33} {
		cuts(t, "as small as may be", l, target, "a3 a2 a1 | b5 | c2 c1")
	}
	cuts(t, "an entry more", l, 34, "a3 a2 a1 | b5 c2 c1")
	cuts(t, "all in one", l, mostTarget, spots(l))
}

// What is taken is below the target, at it, and above it; the next one's Key is
// another one, or the same.
func TestSizesAtATarget(t *testing.T) {
	for size, goesOn := range map[int]bool{98: true, 99: true, 100: false, 101: false, 200: false} {
		next, same := put("c", 1, ""), put("b", 6, "")
		want, wantSame := "a9 b7 | c1", "a9 b7 b6 | c1"
		if goesOn {
			want = "a9 b7 c1"
		}
		first := row(sized("a", 9, 40), sized("b", 7, size-40))
		cuts(t, "another Key", append(first[:2:2], next), 100, want)
		cuts(t, "the same Key", append(first[:2:2], same, next), 100, wantSame)
	}
	for size, want := range map[int]string{99: "a9 b7 b6 | c1", 100: "a9 | b7 b6 c1", 101: "a9 | b7 b6 c1"} {
		cuts(t, "the first alone", row(sized("a", 9, size), put("b", 7, ""), put("b", 6, ""), put("c", 1, "")), 100, want)
	}
}

// A file's size is that of its own entries, not of all that were taken.
func TestEachFileIsCountedAnew(t *testing.T) {
	var l []api.Entry
	for _, letter := range "abcdefghij" {
		l = append(l, sized(string(letter), 1, 40))
	}
	cuts(t, "forties", l, 1, "a1 | b1 | c1 | d1 | e1 | f1 | g1 | h1 | i1 | j1")
	cuts(t, "forties", l, 40, "a1 | b1 | c1 | d1 | e1 | f1 | g1 | h1 | i1 | j1")
	cuts(t, "forties", l, 41, "a1 b1 | c1 d1 | e1 f1 | g1 h1 | i1 j1")
	cuts(t, "forties", l, 80, "a1 b1 | c1 d1 | e1 f1 | g1 h1 | i1 j1")
	cuts(t, "forties", l, 81, "a1 b1 c1 | d1 e1 f1 | g1 h1 i1 | j1")
	cuts(t, "forties", l, 400, "a1 b1 c1 d1 e1 f1 g1 h1 i1 j1")
}

// Key and Value count alike, and 32 whatever there is.
func TestWhatAnEntryCounts(t *testing.T) {
	for _, first := range []api.Entry{put("", 1, ""), put("", 1, "xyz"), put("abc", 1, ""), put("ab", 1, "z"), del("abc", 1)} {
		l := row(first, put("b", 1, ""))
		size := len(first.Key) + len(first.Value) + 32
		cuts(t, "at its size", l, size, spots(l[:1])+" | b1")
		cuts(t, "above it", l, size+1, spots(l))
	}
}

// One Key's entries stay together, however much they are.
func TestOneKeyIsNotCut(t *testing.T) {
	var l []api.Entry
	for i := range 1000 {
		l = append(l, put("b", uint64(1000-i), strings.Repeat("v", 100)))
	}
	all := append(puts("a", 1), append(l, puts("c", 1)...)...)
	cuts(t, "many of one Key", all, 1, "a1 | "+spots(l)+" | c1")
	cuts(t, "many of one Key", all, 33, "a1 | "+spots(l)+" | c1")
	cuts(t, "many of one Key", all, 34, "a1 "+spots(l)+" | c1")
}

func TestTheGreatestTarget(t *testing.T) {
	for size, want := range map[int]string{mostTarget - 1: "a1 b2 b1 | c1", mostTarget: "a1 | b2 b1 c1", mostTarget + 1: "a1 | b2 b1 c1"} {
		l := append(row(sized("a", 1, size)), append(puts("b", 2, 1), puts("c", 1)...)...)
		cuts(t, "the greatest target", l, mostTarget, want)
		if got := toldFiles(run(t, rowsOf(l), at(1), false, mostTarget)); got != want {
			t.Errorf("Run with %d bytes: %s, want %s", size, got, want)
		}
	}
}

// Deletes and what nobody sees are cut as all else: a row is cut as it is.
func TestCutLooksAtNothingElse(t *testing.T) {
	l := row(del("a", 9), del("a", 8), put("a", 7, ""), api.Entry{Key: []byte("b"), Seq: greatest, Kind: 7}, put("b", 0, ""))
	cuts(t, "any entries", l, 60, "a9D a8D a7 | b18446744073709551615 b0")
}
