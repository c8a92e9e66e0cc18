package compact_test

import (
	"testing"

	"bootprint/api"
)

// P15.1: Row

// at the bottom and not, what is the same is wanted.
func leavesAnywhere(t *testing.T, what string, l []api.Entry, looks []uint64, want string) {
	t.Helper()
	leaves(t, what, l, looks, false, want)
	leaves(t, what, l, looks, true, want)
}

func TestWhatNobodySeesGoes(t *testing.T) {
	leavesAnywhere(t, "no entry", nil, nil, "")
	leavesAnywhere(t, "no entry, some looks", nil, at(0, 3, api.MaxSeq), "")
	leavesAnywhere(t, "one", puts("a", 3), nil, "a3")
	leavesAnywhere(t, "the newest stays", puts("a", 3, 2, 1), nil, "a3")
	leavesAnywhere(t, "and what a look sees", puts("a", 5, 4, 3, 2, 1), at(2, 4), "a5 a4 a2")
	leavesAnywhere(t, "of each Key", append(puts("a", 3, 1), puts("b", 2, 1)...), at(2), "a3 a1 b2")
	leavesAnywhere(t, "all are seen", puts("a", 3, 2, 1), at(1, 2), "a3 a2 a1")
}

func TestValuesStay(t *testing.T) {
	l := row(put("a", 3, "x"), put("a", 2, "y"), del("b", 9), put("b", 4, ""), put("c", 1, "zz"))
	want := `"a" at 3: 1 "x"; "a" at 2: 1 "y"; "b" at 9: 2 ""; "b" at 4: 1 ""; "c" at 1: 1 "zz"; `
	if got := told(left(t, l, at(2, 5), false)...); got != want {
		t.Errorf("left: %s, want %s", got, want)
	}
}

func TestDeletesAtTheBottom(t *testing.T) {
	one := row(del("a", 3))
	leaves(t, "a delete alone", one, nil, false, "a3D")
	leaves(t, "a delete alone", one, nil, true, "")
	leaves(t, "a delete alone, seen twice", one, at(3, 4), true, "")

	two := row(put("a", 5, ""), del("a", 3), del("a", 1))
	leaves(t, "the oldest two are deletes", two, at(1, 3), false, "a5 a3D a1D")
	leaves(t, "the oldest two are deletes", two, at(1, 3), true, "a5")
	leaves(t, "the oldest that is left is a delete", two, at(3), false, "a5 a3D")
	leaves(t, "the oldest that is left is a delete", two, at(3), true, "a5")

	every := row(del("a", 5), del("a", 3), del("a", 1))
	leaves(t, "all are deletes", every, at(1, 3), false, "a5D a3D a1D")
	leaves(t, "all are deletes", every, at(1, 3), true, "")

	covered := row(del("a", 5), del("a", 3), put("a", 1, ""))
	leavesAnywhere(t, "a put below deletes", covered, at(1, 3), "a5D a3D a1")
	leavesAnywhere(t, "a put below deletes, one of them seen", covered, at(1), "a5D a1")
	leaves(t, "a put that nobody sees below deletes", covered, at(3), false, "a5D a3D")
	leaves(t, "a put that nobody sees below deletes", covered, at(3), true, "")
	leaves(t, "a put that nobody sees below a delete", covered, nil, false, "a5D")
	leaves(t, "a put that nobody sees below a delete", covered, nil, true, "")

	between := row(put("a", 7, ""), del("a", 5), put("a", 3, ""), del("a", 1))
	leaves(t, "deletes below and above a put", between, at(1, 3, 5), false, "a7 a5D a3 a1D")
	leaves(t, "deletes below and above a put", between, at(1, 3, 5), true, "a7 a5D a3")
	leaves(t, "a delete between puts that nobody sees", between, at(3), true, "a7 a3")
}

// A delete that is the newest is seen by who looks last; one below a put only by
// a look.
func TestDeletesThatOnlyALookKeeps(t *testing.T) {
	l := row(put("a", 5, ""), del("a", 3), put("a", 1, ""))
	leavesAnywhere(t, "no look", l, nil, "a5")
	leavesAnywhere(t, "a look below", l, at(2), "a5 a1")
	leavesAnywhere(t, "looks at both", l, at(2, 4), "a5 a3D a1")
	leaves(t, "a look at the delete", l, at(4), false, "a5 a3D")
	leaves(t, "a look at the delete", l, at(4), true, "a5")
}

// The deletes of one Key hang on nothing that another has.
func TestDeletesOfSeveralKeys(t *testing.T) {
	l := row(del("", 2), put("a", 4, ""), del("a", 2), del("ab", 4), put("ab", 2, ""), del("b", 4), del("b", 2), put("c", 1, ""), del("d", 1))
	leaves(t, "not the bottom", l, at(2), false, "2D a4 a2D ab4D ab2 b4D b2D c1 d1D")
	leaves(t, "the bottom", l, at(2), true, "a4 ab4D ab2 c1")
	leaves(t, "the bottom, no look", l, nil, true, "a4 c1")
}

// Only what is a WriteDelete goes at the bottom: whether a Kind may be is not
// asked.
func TestOtherKindsStayAtTheBottom(t *testing.T) {
	for _, kind := range []int{leastInt, -2, -1, 0, 3, 4, 258, greatestInt} {
		l := row(del("a", 3), api.Entry{Key: []byte("a"), Seq: 1, Kind: kind}, api.Entry{Key: []byte("b"), Seq: 1, Kind: kind})
		leavesAnywhere(t, "another Kind", l, at(1), "a3D a1 b1")
	}
	// A delete with a Value is one.
	leaves(t, "a delete with a Value", row(api.Entry{Key: []byte("a"), Seq: 1, Kind: 2, Value: []byte("x")}), nil, true, "")
}
