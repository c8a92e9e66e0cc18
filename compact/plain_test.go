package compact_test

import (
	"slices"
	"testing"

	"bootprint/api"
	"bootprint/compact"
)

// The calls by the chapter's words, without haste.

func sameKey(a, b api.Entry) bool { return string(a.Key) == string(b.Key) }

// ahead tells the order of entries.
func ahead(a, b api.Entry) bool {
	if !sameKey(a, b) {
		return string(a.Key) < string(b.Key)
	}
	return a.Seq > b.Seq
}

// plainIsRow holds each entry against all behind it.
func plainIsRow(l []api.Entry) bool {
	for i := range l {
		for j := range i {
			if !ahead(l[j], l[i]) {
				return false
			}
		}
	}
	return true
}

// plainAll merges rows: of the same the first row's, then all sorted.
func plainAll(rows [][]api.Entry) []api.Entry {
	var l []api.Entry
	for _, r := range rows {
		for _, e := range r {
			if !slices.ContainsFunc(l, func(x api.Entry) bool { return sameKey(x, e) && x.Seq == e.Seq }) {
				l = append(l, e)
			}
		}
	}
	slices.SortFunc(l, func(a, b api.Entry) int {
		if ahead(a, b) {
			return -1
		}
		return 1
	})
	return l
}

func plainLooksMayBe(looks []uint64) bool {
	for i, look := range looks {
		if look > api.MaxSeq {
			return false
		}
		for _, other := range looks[:i] {
			if other >= look {
				return false
			}
		}
	}
	return true
}

func plainVisible(l []api.Entry, looks []uint64) ([]bool, api.Errno) {
	if !plainIsRow(l) || !plainLooksMayBe(looks) {
		return nil, api.ErrArg
	}
	seen := make([]bool, len(l))
	for _, look := range append(slices.Clone(looks), api.MaxSeq) {
		for i, e := range l {
			newer := func(x api.Entry) bool { return sameKey(x, e) && x.Seq <= look && x.Seq > e.Seq }
			if e.Seq <= look && !slices.ContainsFunc(l, newer) {
				seen[i] = true
			}
		}
	}
	return seen, api.OK
}

func plainRow(l []api.Entry, looks []uint64, bottom bool) ([]api.Entry, api.Errno) {
	seen, e := plainVisible(l, looks)
	if e != api.OK {
		return nil, e
	}
	var stay []api.Entry
	for i, ok := range seen {
		if ok {
			stay = append(stay, l[i])
		}
	}
	for bottom {
		oldestDelete := slices.IndexFunc(stay, func(e api.Entry) bool {
			older := func(x api.Entry) bool { return sameKey(x, e) && x.Seq < e.Seq }
			return e.Kind == api.WriteDelete && !slices.ContainsFunc(stay, older)
		})
		if oldestDelete < 0 {
			break
		}
		stay = slices.Delete(stay, oldestDelete, oldestDelete+1)
	}
	return stay, api.OK
}

func plainSize(l []api.Entry) int {
	n := 0
	for _, e := range l {
		n += len(e.Key) + len(e.Value) + 32
	}
	return n
}

func plainCut(l []api.Entry, target int) ([][]api.Entry, api.Errno) {
	if !plainIsRow(l) || target < 1 || target > mostTarget {
		return nil, api.ErrArg
	}
	var files [][]api.Entry
	var taken []api.Entry
	for i, e := range l {
		if plainSize(taken) >= target && !sameKey(l[i-1], e) {
			files = append(files, taken)
			taken = nil
		}
		taken = append(taken, e)
	}
	if len(taken) > 0 {
		files = append(files, taken)
	}
	return files, api.OK
}

func plainRun(rows [][]api.Entry, looks []uint64, bottom bool, target int) ([][]api.Entry, api.Errno) {
	for _, r := range rows {
		if !plainIsRow(r) {
			return nil, api.ErrArg
		}
	}
	l, e := plainRow(plainAll(rows), looks, bottom)
	if e != api.OK {
		return nil, e
	}
	return plainCut(l, target)
}

// asPlain fails unless every call tells what it tells by the chapter's words.
func asPlain(t *testing.T, rows [][]api.Entry, looks []uint64, target int) {
	t.Helper()
	for _, l := range rows {
		seen, e := compact.Visible(l, looks)
		want, wantE := plainVisible(l, looks)
		if !slices.Equal(seen, want) || e != wantE {
			t.Fatalf("Visible of %s at %d: %t %d, want %t %d", told(l...), looks, seen, e, want, wantE)
		}
		f, e := compact.Cut(l, target)
		wantF, wantE := plainCut(l, target)
		if toldRows(f) != toldRows(wantF) || e != wantE {
			t.Fatalf("Cut of %s by %d: %s %d, want %s %d", told(l...), target, toldRows(f), e, toldRows(wantF), wantE)
		}
	}
	for _, bottom := range []bool{false, true} {
		for _, l := range rows {
			got, e := compact.Row(l, looks, bottom)
			want, wantE := plainRow(l, looks, bottom)
			if told(got...) != told(want...) || e != wantE {
				t.Fatalf("Row of %s at %d, %t: %s %d, want %s %d", told(l...), looks, bottom, told(got...), e, told(want...), wantE)
			}
		}
		f, e := compact.Run(rows, looks, bottom, target)
		want, wantE := plainRun(rows, looks, bottom, target)
		if toldRows(f) != toldRows(want) || e != wantE {
			t.Fatalf("Run of %s at %d, %t, by %d: %s %d, want %s %d", toldRows(rows), looks, bottom, target, toldRows(f), e, toldRows(want), wantE)
		}
	}
}

func TestDrawnRowsAsTold(t *testing.T) {
	s := source(15)
	for i := range 3000 {
		target := []int{1, 33, 34, 40, 60, 66, 99, 150, 400, mostTarget}[s.below(10)]
		asPlain(t, s.rows(i%5, 1+i%14), s.looks(), target)
	}
}

// Rows, looks and targets that may not be, among such as may be.
func TestDrawnFaultsAsTold(t *testing.T) {
	s := source(16)
	refused, fine := 0, 0
	for i := range 3000 {
		rows := s.rows(1+i%3, 6)
		if s.below(3) == 0 {
			j := s.below(len(rows))
			rows[j] = s.bent(rows[j])
		}
		looks := s.looks()
		if s.below(3) == 0 {
			looks = slices.Insert(looks, s.below(len(looks)+1), s.seq())
		}
		target := 1 + s.below(99)
		if s.below(5) == 0 {
			target = []int{leastInt, -1, 0, 1, mostTarget, mostTarget + 1, greatestInt}[s.below(7)]
		}
		asPlain(t, rows, looks, target)
		if _, e := compact.Run(rows, looks, false, target); e == api.OK {
			fine++
		} else {
			refused++
		}
	}
	if refused < 500 || fine < 500 {
		t.Errorf("%d refused, %d fine", refused, fine)
	}
}

// Every row of five entries of one Key and two of another, each of them a put or
// a delete or not there, at all looks.
func TestAllRowsOfFewEntries(t *testing.T) {
	for first := range 3 * 3 * 3 * 3 {
		var l []api.Entry
		for i, n := 0, first; i < 4; i, n = i+1, n/3 {
			if n%3 > 0 {
				l = append(l, api.Entry{Key: []byte("a"), Seq: uint64(9 - 2*i), Kind: n % 3})
			}
		}
		for second := range 3 * 3 {
			l := slices.Clip(l)
			for i, n := 0, second; i < 2; i, n = i+1, n/3 {
				if n%3 > 0 {
					l = append(l, api.Entry{Key: []byte("b"), Seq: uint64(6 - 2*i), Kind: n % 3})
				}
			}
			for set := range 1 << 5 {
				var looks []uint64
				for i, look := range at(3, 4, 6, 8, 9) {
					if set>>i&1 == 1 {
						looks = append(looks, look)
					}
				}
				asPlain(t, rowsOf(l), looks, 60)
			}
		}
	}
}
