package table_test

import (
	"fmt"
	"strings"
	"testing"

	"bootprint/api"
	"bootprint/table"
)

// P10.4

// whole fails unless the table tells all entries of l, and no others.
func whole(t *testing.T, x *table.Table, l []api.Entry) {
	t.Helper()
	tellsAll(t, x, l)
	there := map[string]api.Entry{}
	for _, e := range l {
		there[fmt.Sprint(e.Seq, " ", string(e.Key))] = e
		gets(t, x, string(e.Key), e.Seq, e)
	}
	for _, key := range asks(l) {
		for _, seq := range []uint64{0, 1, 5, api.MaxSeq, greatest} {
			got, e := x.Get([]byte(key), seq)
			if e == api.OK && (told(got) != told(there[fmt.Sprint(got.Seq, " ", key)]) || got.Seq > seq) || e != api.OK && e != api.ErrNone {
				t.Errorf("Get %q %d: %s%d", key, seq, told(got), e)
			}
		}
	}
}

func TestWhatWasMadeIsTold(t *testing.T) {
	for what, l := range lists() {
		if len(l) > 200 {
			l = l[:200]
		}
		for _, s := range []api.TableSetup{setup(64, 10), setup(64, 1), setup(500, 32), setup(65536, 5)} {
			x, _ := opened(t, made(t, l, s))
			whole(t, x, l)
			if t.Failed() {
				t.Fatalf("%s, %v", what, s)
			}
		}
	}
}

func TestDrawnTablesTellTheirEntries(t *testing.T) {
	d := source(21)
	for i := range 150 {
		l := d.entries(1 + d.below(100))
		s := setup(64+d.below(400), 1+d.below(32))
		b := made(t, l, s)
		x, _ := opened(t, b)
		whole(t, x, l)
		agree(t, "drawn", b, asks(l), sound)
		if t.Failed() {
			t.Fatalf("drawn table %d", i)
		}
	}
}

// turns are ways in which a byte is turned.
func turns() []byte {
	return []byte{1, 2, 4, 8, 16, 32, 64, 128, 255, 0x55, 0x0f, 3}
}

// neverAnother fails if the table tells an entry that is none of l's, or not
// the one that is asked for.
func neverAnother(t *testing.T, x *table.Table, l []api.Entry) {
	t.Helper()
	for _, e := range l {
		if got, err := x.Get(e.Key, e.Seq); err == api.OK && !same([]api.Entry{got}, []api.Entry{e}) || err != api.OK && err != api.ErrBad {
			t.Fatalf("Get %q %d: %s%d", e.Key, e.Seq, told(got), err)
		}
	}
	got, err := x.All()
	if err == api.OK && !same(got, l) || err != api.OK && err != api.ErrBad {
		t.Fatalf("All: %s, %d", told(got...), err)
	}
}

// Every byte of a table's file, turned one at a time.
func TestEveryByteTurned(t *testing.T) {
	value := strings.Repeat("v", 30)
	l := []api.Entry{put("a", 300, value), del("ab", 1), put("b", 5, value), put("c", 9, value), put("c", 8, value), put("d", 5, "")}
	s := sheetOf(l, setup(64, 10))
	b := s.file()
	if len(s.rows) < 3 {
		t.Fatalf("%d blocks", len(s.rows))
	}
	blocks := int(s.rows[len(s.rows)-1].at + s.rows[len(s.rows)-1].size)
	for at := range len(b) {
		for _, bits := range turns() {
			f := stored(t, b)
			fine(t, f.Turn("t", at, bits))
			x, e := table.Open(f, "t")
			switch {
			case at >= len(b)-16 && at < len(b)-8:
				// The place has no sum: but no other entry is told.
				if e == api.OK {
					neverAnother(t, x, l)
				} else if e != api.ErrBad || x != nil {
					t.Fatalf("byte %d turned by %d: Open: %v, %d", at, bits, x, e)
				}
			case at >= blocks:
				if e != api.ErrBad || x != nil {
					t.Fatalf("byte %d turned by %d: Open: %v, %d; want ErrBad", at, bits, x, e)
				}
			default:
				fine(t, e)
				turned(t, x, l, s, at)
			}
		}
	}
}

// turned fails unless the block that has the byte at that place is bad, and all
// others are told.
func turned(t *testing.T, x *table.Table, l []api.Entry, s *sheet, at int) {
	t.Helper()
	next := 0
	for i, r := range s.rows {
		for range s.perBlock[i] {
			e := l[next]
			if uint64(at) >= r.at && uint64(at) < r.at+r.size {
				getsNone(t, x, string(e.Key), e.Seq, api.ErrBad)
			} else {
				gets(t, x, string(e.Key), e.Seq, e)
			}
			next++
		}
	}
	got, e := x.All()
	tellsNone(t, "All", got, e, api.ErrBad)
	if t.Failed() {
		t.Fatalf("byte %d turned", at)
	}
}

// Turned when the table is open: what Open has read stays.
func TestEveryByteTurnedBehindOpen(t *testing.T) {
	l := append(rising(12), ofOneKey("kez", 6)...)
	s := sheetOf(l, setup(64, 10))
	b := s.file()
	x, f := opened(t, b)
	blocks := int(s.rows[len(s.rows)-1].at + s.rows[len(s.rows)-1].size)
	for at := range len(b) {
		bits := turns()[at%len(turns())]
		fine(t, f.Turn("t", at, bits))
		if at < blocks {
			turned(t, x, l, s, at)
		} else {
			whole(t, x, l)
		}
		fine(t, f.Turn("t", at, bits))
		if got := toldInfo(x.Info()); got != s.info() {
			t.Fatalf("Info: %s, want %s", got, s.info())
		}
	}
	whole(t, x, l)
}

// Many bytes turned at once: no other entry is told.
func TestManyBytesTurned(t *testing.T) {
	d := source(2)
	open := 0
	for range 1500 {
		l := d.entries(1 + d.below(25))
		b := made(t, l, setup(64, 1+d.below(32)))
		f := stored(t, b)
		for range 1 + d.below(4) {
			fine(t, f.Turn("t", d.below(len(b)), byte(1+d.below(255))))
		}
		x, e := table.Open(f, "t")
		if e != api.OK && e != api.ErrBad || (x == nil) != (e != api.OK) {
			t.Fatalf("Open: %v, %d", x, e)
		}
		if x != nil {
			open++
			neverAnother(t, x, l)
		}
	}
	if open < 100 || open > 1400 {
		t.Errorf("%d tables could be opened: too few, or too many", open)
	}
}

// Behind a crash a table that was synced is told; of one that was not, whatever
// is left is told as bad.
func TestTablesBehindACrash(t *testing.T) {
	l := rising(40)
	b := made(t, l, setup(64, 10))
	for keep := range len(b) + 1 {
		f := stored(t, "")
		fine(t, f.Append("t", []byte(b)), f.Crash(0, []int{keep}))
		x, e := table.Open(f, "t")
		if keep == len(b) {
			fine(t, e)
			tellsAll(t, x, l)
		} else if x != nil || e != api.ErrBad {
			t.Errorf("Open of the first %d bytes: %v, %d", keep, x, e)
		}
	}
}
