package compact_test

import (
	"fmt"
	"slices"
	"testing"

	"bootprint/api"
	"bootprint/compact"
)

const roomyText = "..ab..x..ac..yb........................................................................................."

// roomy answers rows all of whose lists have spare room, the bytes in one list,
// which is answered too; and looks with spare room. What stands in spare room
// would make them no rows and no looks, and would make keys other ones.
func roomy() (rows [][]api.Entry, looks []uint64, text []byte) {
	text = []byte(roomyText)
	first := append(make([]api.Entry, 0, 9),
		api.Entry{Key: text[2:4], Seq: 7, Kind: api.WritePut, Value: text[6:7]},
		// The same lists once more, one the other's; nobody sees it.
		api.Entry{Key: text[2:4], Seq: 6, Kind: api.WritePut, Value: text[2:4]},
		api.Entry{Key: text[2:4], Seq: 2, Kind: api.WritePut, Value: text[2:4]},
		api.Entry{Key: text[9:11], Seq: 1, Kind: api.WriteDelete, Value: text[11:11]},
		put("spare", 9, "room"), put("spare", 9, "room"),
	)
	second := append(make([]api.Entry, 0, 9),
		api.Entry{Key: text[2:3], Seq: 7, Kind: api.WritePut, Value: text[13:14]},
		// The same as the first row's, and the very same lists.
		api.Entry{Key: text[2:4], Seq: 2, Kind: api.WritePut, Value: text[2:4]},
		api.Entry{Key: text[14:15], Seq: 3, Kind: api.WritePut, Value: text[15:15]},
		put("a", 9, "room"),
	)
	wrong := row(put("b", 1, ""), put("a", 1, ""))
	rows = append(make([][]api.Entry, 0, 9), first[:4], nil, second[:3], wrong)[:3]
	looks = append(make([]uint64, 0, 9), 0, 3, 1, greatest, 6)[:2]
	return rows, looks, text
}

// image writes what was handed in, its spare room too.
func image(rows [][]api.Entry, looks []uint64, text []byte) string {
	s := fmt.Sprint(string(text[:cap(text)]), len(looks), looks[:cap(looks)])
	for _, r := range rows[:cap(rows)] {
		s += fmt.Sprint(len(r), cap(r), told(r[:cap(r)]...), "\n")
	}
	return s
}

// spoil overwrites lists, their spare room too.
func spoil(lists ...[]byte) {
	for _, l := range lists {
		room := l[:cap(l)]
		for i := range room {
			room[i] = 0x55
		}
	}
}

// spoilFiles overwrites files, or rows, their entries' lists and all spare room
// too.
func spoilFiles(files [][]api.Entry) {
	for _, l := range files {
		for _, e := range l {
			spoil(e.Key, e.Value)
		}
		room := l[:cap(l)]
		for i := range room {
			room[i] = put("spoilt", 9, "spoilt")
		}
	}
	clear(files[:cap(files)])
}

// calls answers what answers entries, of the roomy rows.
func calls(t *testing.T) map[string]func(rows [][]api.Entry, looks []uint64) [][]api.Entry {
	type call = func(rows [][]api.Entry, looks []uint64) [][]api.Entry
	return map[string]call{
		"Row":     func(rows [][]api.Entry, looks []uint64) [][]api.Entry { return rowsOf(left(t, rows[0], looks, false)) },
		"bottom":  func(rows [][]api.Entry, looks []uint64) [][]api.Entry { return rowsOf(left(t, rows[0], looks, true)) },
		"Cut":     func(rows [][]api.Entry, looks []uint64) [][]api.Entry { return files(t, rows[0], 60) },
		"one cut": func(rows [][]api.Entry, looks []uint64) [][]api.Entry { return files(t, rows[2], mostTarget) },
		"each":    func(rows [][]api.Entry, looks []uint64) [][]api.Entry { return files(t, rows[2], 1) },
		"Run":     func(rows [][]api.Entry, looks []uint64) [][]api.Entry { return run(t, rows, looks, false, 60) },
		"one run": func(rows [][]api.Entry, looks []uint64) [][]api.Entry { return run(t, rows[:1], looks, true, 1) },
		"whole":   func(rows [][]api.Entry, looks []uint64) [][]api.Entry { return run(t, rows, looks, true, mostTarget) },
	}
}

// roomyWant is what those calls answer.
var roomyWant = map[string]string{
	"Row":     "ab7 ab2 ac1D",
	"bottom":  "ab7 ab2",
	"Cut":     "ab7 ab6 ab2 | ac1D",
	"one cut": "a7 ab2 b3",
	"each":    "a7 | ab2 | b3",
	"Run":     "a7 ab7 ab2 | ac1D b3",
	"one run": "ab7 ab2",
	"whole":   "a7 ab7 ab2 b3",
}

// apart fails if two of the answer's lists share memory, their spare room too.
func apart(t *testing.T, what string, files [][]api.Entry) {
	t.Helper()
	var lists [][]byte
	for i, l := range files {
		for _, e := range l {
			lists = append(lists, e.Key, e.Value)
		}
		for j := range l[:cap(l)] {
			l[:cap(l)][j].Seq = uint64(i)
		}
	}
	for i, l := range lists {
		for j := range l[:cap(l)] {
			l[:cap(l)][j] = byte(i)
		}
	}
	for i, l := range lists {
		for _, c := range l[:cap(l)] {
			if c != byte(i) {
				t.Fatalf("%s: two lists share memory", what)
			}
		}
	}
	for i, l := range files {
		for _, e := range l[:cap(l)] {
			if e.Seq != uint64(i) {
				t.Fatalf("%s: two files share memory", what)
			}
		}
	}
}

// Rule 4

func TestAnswersAreNewMemory(t *testing.T) {
	for what, call := range calls(t) {
		rows, looks, text := roomy()
		before := image(rows, looks, text)
		f, again := call(rows, looks), call(rows, looks)
		want := toldRows(f)
		if toldFiles(f) != roomyWant[what] {
			t.Errorf("%s: %s, want %s", what, toldFiles(f), roomyWant[what])
		}
		if image(rows, looks, text) != before {
			t.Fatalf("%s changes what was handed in: %s", what, image(rows, looks, text))
		}
		if toldRows(again) != want {
			t.Fatalf("%s: %s, then %s", what, want, toldRows(again))
		}
		apart(t, what, call(rows, looks))
		spoilFiles(f)
		if image(rows, looks, text) != before {
			t.Fatalf("%s: who writes to the answer changes what was handed in: %s", what, image(rows, looks, text))
		}
		if toldRows(again) != want {
			t.Fatalf("%s: two answers share memory: %s", what, toldRows(again))
		}
		spoil(text)
		for _, r := range rows {
			clear(r[:cap(r)])
		}
		clear(rows[:cap(rows)])
		clear(looks[:cap(looks)])
		if toldRows(again) != want {
			t.Fatalf("%s: the answer follows what was handed in: %s", what, toldRows(again))
		}
	}
}

// Who adds to one file writes into no other.
func TestFilesHaveNoSpareRoomInCommon(t *testing.T) {
	l := append(puts("a", 2, 1), append(puts("b", 2, 1), puts("c", 2, 1)...)...)
	for what, f := range map[string][][]api.Entry{"Cut": files(t, l, 33), "Run": run(t, rowsOf(l), at(1), false, 33)} {
		for i := range f {
			f[i] = append(f[i], put("more", 9, ""))
		}
		if got := toldFiles(f); got != "a2 a1 more9 | b2 b1 more9 | c2 c1 more9" {
			t.Errorf("%s: %s", what, got)
		}
	}
}

// Nothing of what was handed in stands in the spare room of an answer.
func TestSpareRoomTellsNothing(t *testing.T) {
	for what, call := range calls(t) {
		rows, looks, _ := roomy()
		for _, l := range call(rows, looks) {
			for _, e := range l[len(l):cap(l)] {
				if told(e) != told(api.Entry{}) {
					t.Errorf("%s: %s stands in spare room", what, told(e))
				}
			}
			for _, e := range l {
				for _, list := range [][]byte{e.Key, e.Value} {
					if slices.Contains(list[len(list):cap(list)], '.') {
						t.Errorf("%s: %q stands in spare room", what, list[:cap(list)])
					}
				}
			}
		}
	}
}

func TestVisibleAnswersNewMemory(t *testing.T) {
	rows, looks, text := roomy()
	before := image(rows, looks, text)
	for i, want := range [][]bool{{true, false, true, true}, nil, {true, true, true}} {
		seen, again := visible(t, rows[i], looks), visible(t, rows[i], looks)
		if !slices.Equal(seen, want) {
			t.Errorf("row %d: %t, want %t", i, seen, want)
		}
		for j := range seen[:cap(seen)] {
			seen[:cap(seen)][j] = j%2 == 1
		}
		if !slices.Equal(again, want) {
			t.Errorf("row %d: two answers share memory: %t", i, again)
		}
	}
	if image(rows, looks, text) != before {
		t.Errorf("what was handed in is changed: %s", image(rows, looks, text))
	}
}

// What is refused is not changed either.
func TestWhatIsRefusedStays(t *testing.T) {
	rows, looks, text := roomy()
	before := image(rows, looks, text)
	noRow(t, "a row with its spare room", rows[0][:6], looks, 60)
	noRow(t, "the row that stands in spare room", rows[:4][3], looks, 60)
	noRun(t, "rows with their spare room", rows[:4], looks, true, 60)
	noLooks(t, "looks with their spare room", rows[0], looks[:3])
	noRun(t, "looks with their spare room", rows, looks[:4], true, 60)
	noTarget(t, "no target", rows[0], 0)
	noRun(t, "no target", rows, looks, true, mostTarget+1)
	if image(rows, looks, text) != before {
		t.Errorf("what was handed in is changed: %s", image(rows, looks, text))
	}
}

// Looks that end with the greatest number, and have spare room or none.
func TestLooksAreNotChanged(t *testing.T) {
	for _, room := range []int{0, 1, 5} {
		for _, looks := range [][]uint64{nil, at(0), at(1, api.MaxSeq)} {
			looks = slices.Grow(looks, room)
			all := looks[:cap(looks)]
			for i := len(looks); i < len(all); i++ {
				all[i] = 77
			}
			before := fmt.Sprint(all)
			visible(t, puts("a", 2, 1), looks)
			left(t, puts("a", 2, 1), looks, true)
			run(t, rowsOf(puts("a", 2, 1)), looks, true, 60)
			if fmt.Sprint(all) != before {
				t.Errorf("looks are changed: %s, then %d", before, all)
			}
		}
	}
}

// Rule 6: a nil list and an empty one are the same.
func TestNilAndEmptyAreTheSame(t *testing.T) {
	for _, empty := range [][]byte{nil, {}, []byte("room")[:0]} {
		l := row(api.Entry{Key: empty, Seq: 3, Kind: 1, Value: empty}, api.Entry{Seq: 2, Kind: 2}, api.Entry{Key: []byte{}, Seq: 1, Kind: 1},
			api.Entry{Key: []byte("a"), Seq: 1, Kind: 1, Value: empty})
		for _, looks := range [][]uint64{nil, {}, at(9)[:0]} {
			whoSees(t, "no Key", l, looks, "3 a1")
			leaves(t, "no Key", l, looks, true, "3 a1")
			cuts(t, "no Key", l, 1, "3 2D 1 | a1")
			goes(t, "no Key", rowsOf(l, nil, l[:0], l[1:]), looks, true, 1, "3 | a1")
		}
		for _, e := range left(t, l, nil, true) {
			if slices.Contains(e.Key[:cap(e.Key)], 'r') || slices.Contains(e.Value[:cap(e.Value)], 'r') {
				t.Errorf("the spare room is handed out: %q, %q", e.Key[:cap(e.Key)], e.Value[:cap(e.Value)])
			}
		}
		noRow(t, "no Key, twice", row(api.Entry{Key: empty, Seq: 1}, api.Entry{Seq: 1}), nil, 60)
	}
	for _, l := range [][]api.Entry{nil, {}, puts("a", 2, 1)[:0]} {
		whoSees(t, "no entry", l, at(1), "")
		leaves(t, "no entry", l, at(1), true, "")
		cuts(t, "no entry", l, 60, "")
		goes(t, "no entry", rowsOf(l), at(1), true, 60, "")
	}
}

func ExampleRun() {
	newer := []api.Entry{put("a", 3, "z"), del("b", 4)}
	older := []api.Entry{put("a", 1, "x"), put("b", 2, "y"), put("c", 1, "w")}
	for _, looks := range [][]uint64{nil, {2}} {
		f, e := compact.Run([][]api.Entry{newer, older}, looks, true, 60)
		fmt.Println(toldFiles(f), e)
	}
	// Output:
	// a3 c1 0
	// a3 a1 | b4D b2 | c1 0
}
