package merge_test

import (
	"fmt"
	"slices"
	"testing"

	"bootprint/api"
	"bootprint/merge"
)

const roomyText = "..ab..x..ac..yb........................................................................................."

// roomy answers rows all of whose lists have spare room, the bytes in one list,
// which is answered too. What stands in spare room would make them no rows, and
// would make keys other ones.
func roomy() (rows [][]api.Entry, bytes []byte) {
	bytes = []byte(roomyText)
	first := append(make([]api.Entry, 0, 9),
		api.Entry{Key: bytes[2:4], Seq: 2, Kind: api.WritePut, Value: bytes[6:7]},
		// The same lists once more, one the other's.
		api.Entry{Key: bytes[2:4], Seq: 1, Kind: api.WritePut, Value: bytes[2:4]},
		api.Entry{Key: bytes[9:11], Seq: 1, Kind: api.WriteDelete, Value: bytes[11:11]},
		put("spare", 9, "room"), put("spare", 9, "room"),
	)
	second := append(make([]api.Entry, 0, 9),
		api.Entry{Key: bytes[2:3], Seq: 7, Kind: api.WritePut, Value: bytes[13:14]},
		// The same as the first row's, and the very same lists.
		api.Entry{Key: bytes[2:4], Seq: 2, Kind: api.WritePut, Value: bytes[6:7]},
		api.Entry{Key: bytes[14:15], Seq: 3, Kind: api.WritePut, Value: bytes[15:15]},
		put("a", 9, "room"),
	)
	wrong := row(put("b", 1, ""), put("a", 1, ""))
	return append(make([][]api.Entry, 0, 9), first[:3], nil, second[:3], wrong)[:3], bytes
}

var roomyAll = []string{
	`"a" at 7: 1 "y"; `, `"ab" at 2: 1 "x"; `, `"ab" at 1: 1 "ab"; `, `"ac" at 1: 2 ""; `, `"b" at 3: 1 ""; `,
}

const roomySeen = `"a" at 7: 1 "y"; "ab" at 2: 1 "x"; "b" at 3: 1 ""; `

// image writes rows and bytes, their spare room too.
func image(rows [][]api.Entry, bytes []byte) string {
	s := string(bytes[:cap(bytes)])
	for _, r := range rows[:cap(rows)] {
		s += fmt.Sprint(len(r), cap(r), told(r[:cap(r)]...), "\n")
	}
	return s
}

// spoil overwrites lists, their spare room too.
func spoil(lists ...[]byte) {
	for _, l := range lists {
		room := l[:cap(l)]
		for i := range room {
			room[i] = 0x55
		}
	}
}

// spoilEntries overwrites entries, their lists and all spare room too.
func spoilEntries(l []api.Entry) {
	for _, e := range l {
		spoil(e.Key, e.Value)
	}
	room := l[:cap(l)]
	for i := range room {
		room[i] = put("spoilt", 9, "spoilt")
	}
}

// apart fails if two of the entries' lists share memory, their spare room too.
func apart(t *testing.T, what string, l ...api.Entry) {
	t.Helper()
	var lists [][]byte
	for _, e := range l {
		lists = append(lists, e.Key, e.Value)
	}
	for i, l := range lists {
		room := l[:cap(l)]
		for j := range room {
			room[j] = byte(i)
		}
	}
	for i, l := range lists {
		for _, c := range l[:cap(l)] {
			if c != byte(i) {
				t.Fatalf("%s: two lists share memory", what)
			}
		}
	}
}

// calls answers what answers a list of the roomy rows, and what it is.
func calls(t *testing.T) map[string]func([][]api.Entry) []api.Entry {
	return map[string]func([][]api.Entry) []api.Entry{
		"All":     func(rows [][]api.Entry) []api.Entry { return all(t, rows) },
		"Seen":    func(rows [][]api.Entry) []api.Entry { return seen(t, rows, 9) },
		"Between": func(rows [][]api.Entry) []api.Entry { return between(t, rows, "a", "c", 9, 3) },
		"Next":    func(rows [][]api.Entry) []api.Entry { return taken(merger(t, rows)) },
		"Peek": func(rows [][]api.Entry) []api.Entry {
			m := merger(t, rows)
			x, _ := m.Peek()
			y, _ := m.Peek()
			m.Next()
			z, _ := m.Peek()
			return []api.Entry{x, y, z}
		},
	}
}

// Rule 4

func TestAnswersAreNewMemory(t *testing.T) {
	for what, call := range calls(t) {
		rows, text := roomy()
		before := image(rows, text)
		l, again := call(rows), call(rows)
		want := told(l...)
		if image(rows, text) != before {
			t.Fatalf("%s changes what was handed in: %s", what, image(rows, text))
		}
		if told(again...) != want {
			t.Fatalf("%s: %s, then %s", what, want, told(again...))
		}
		apart(t, what, l...)
		spoilEntries(l)
		if image(rows, text) != before {
			t.Fatalf("%s: who writes to the answer changes what was handed in: %s", what, image(rows, text))
		}
		if told(again...) != want {
			t.Fatalf("%s: two answers share memory: %s", what, told(again...))
		}
		spoil(text)
		for _, r := range rows {
			spoilEntries(r)
		}
		clear(rows)
		if told(again...) != want {
			t.Fatalf("%s: the answer follows what was handed in: %s", what, told(again...))
		}
	}
}

func TestSpareRoomIsNotLookedAt(t *testing.T) {
	want := ""
	for _, s := range roomyAll {
		want += s
	}
	for what, want := range map[string]string{"All": want, "Next": want, "Seen": roomySeen, "Between": roomySeen} {
		rows, _ := roomy()
		if got := told(calls(t)[what](rows)...); got != want {
			t.Errorf("%s: %s, want %s", what, got, want)
		}
	}
	rows, _ := roomy()
	for _, r := range rows {
		refused(t, "Check", merge.Check(r), api.OK)
	}
	none(t, "the wrong row that stands in spare room", rows[:4])
}

func TestCheckAndBetweenChangeNothing(t *testing.T) {
	rows, text := roomy()
	before := image(rows, text)
	for _, r := range rows {
		merge.Check(r)
		merge.Check(r[:cap(r)])
	}
	none(t, "a wrong row", rows[:4])
	bounds := []byte("ab..b......")
	l, e := merge.Between(rows, bounds[:2], bounds[4:5], 9, 9)
	fine(t, "Between", e)
	if told(l...) != `"ab" at 2: 1 "x"; ` || string(bounds) != "ab..b......" {
		t.Errorf("Between: %s; the bounds are %q", told(l...), bounds)
	}
	spoil(bounds)
	if told(l...) != `"ab" at 2: 1 "x"; ` {
		t.Errorf("Between's answer follows the bounds: %s", told(l...))
	}
	// A bound that is a Key's own list.
	l, e = merge.Between(rows, rows[0][0].Key, rows[0][2].Key, 9, 9)
	fine(t, "Between", e)
	if told(l...) != `"ab" at 2: 1 "x"; ` {
		t.Errorf("Between two Keys: %s", told(l...))
	}
	spoilEntries(l)
	if image(rows, text) != before {
		t.Errorf("what was handed in is changed: %s, want %s", image(rows, text), before)
	}
}

// What a merger tells is what the rows were when New was called, whenever they
// are changed behind it.
func TestMergersKeepRowsOfTheirOwn(t *testing.T) {
	for steps := range len(roomyAll) + 1 {
		rows, text := roomy()
		m := merger(t, rows)
		for i := range steps {
			x, ok := m.Next()
			if told(x) != roomyAll[i] || !ok {
				t.Fatalf("Next %d: %s%t", i, told(x), ok)
			}
		}
		spoil(text)
		for _, r := range rows {
			spoilEntries(r)
		}
		clear(rows[:cap(rows)])
		for i := steps; i < len(roomyAll); i++ {
			if m.Left() != len(roomyAll)-i {
				t.Errorf("Left: %d", m.Left())
			}
			for range 2 {
				if x, ok := m.Peek(); told(x) != roomyAll[i] || !ok {
					t.Fatalf("changed behind %d steps, Peek %d: %s%t", steps, i, told(x), ok)
				}
			}
			if x, ok := m.Next(); told(x) != roomyAll[i] || !ok {
				t.Fatalf("changed behind %d steps, Next %d: %s%t", steps, i, told(x), ok)
			}
		}
		atEnd(t, m)
	}
}

// Who writes to what a merger told changes nothing that it tells later.
func TestWhatAMergerToldIsNotLookedAt(t *testing.T) {
	rows, text := roomy()
	before := image(rows, text)
	m := merger(t, rows)
	for i, want := range roomyAll {
		for range 2 {
			x, ok := m.Peek()
			if told(x) != want || !ok {
				t.Fatalf("Peek %d: %s%t, want %s", i, told(x), ok, want)
			}
			spoil(x.Key, x.Value)
		}
		x, ok := m.Next()
		if told(x) != want || !ok {
			t.Fatalf("Next %d: %s%t, want %s", i, told(x), ok, want)
		}
		spoil(x.Key, x.Value)
	}
	atEnd(t, m)
	if image(rows, text) != before {
		t.Errorf("what was handed in is changed: %s", image(rows, text))
	}
}

// Rule 5

func TestNoMerger(t *testing.T) {
	unmade := merge.Merger{}
	for _, m := range []*merge.Merger{nil, {}, new(merge.Merger), &unmade} {
		atEnd(t, m)
	}
}

// A copy is not what New answered: it tells nothing, and takes nothing away.
func TestCopiesAreNoMergers(t *testing.T) {
	rows, l := letters()
	m := merger(t, rows)
	for i := range l {
		duplicate := *m
		atEnd(t, &duplicate)
		if x, ok := m.Next(); told(x) != told(l[i]) || !ok {
			t.Fatalf("Next %d: %s%t", i, told(x), ok)
		}
		atEnd(t, &duplicate)
	}
	atEnd(t, m)
}

// Rule 6: a nil list and an empty one are the same.
func TestNilAndEmptyAreTheSame(t *testing.T) {
	for _, empty := range [][]byte{nil, {}, []byte("room")[:0]} {
		l := row(api.Entry{Key: empty, Seq: 2, Kind: 1, Value: empty}, api.Entry{Key: []byte("a"), Seq: 1, Kind: 1, Value: empty})
		rows := rowsOf(l, nil, []api.Entry{}, row(api.Entry{Seq: 2, Kind: 2}, api.Entry{Key: []byte{}, Seq: 1, Kind: 1}))
		want := row(put("", 2, ""), put("", 1, ""), put("a", 1, ""))
		tells(t, "All", all(t, rows), want...)
		tells(t, "a merger", rest(t, merger(t, rows)), want...)
		tells(t, "Seen", seen(t, rows, 9), want[0], want[2])
		for _, e := range all(t, rows) {
			if slices.Contains(e.Key[:cap(e.Key)], 'r') || slices.Contains(e.Value[:cap(e.Value)], 'r') {
				t.Errorf("the spare room is handed out: %q, %q", e.Key[:cap(e.Key)], e.Value[:cap(e.Value)])
			}
		}
		for _, other := range [][]byte{nil, {}} {
			l, e := merge.Between(rows, empty, other, 9, 9)
			fine(t, "Between", e)
			tells(t, "Between", l, want[0], want[2])
			l, e = merge.Between(rows, other, empty, 9, 9)
			fine(t, "Between", e)
			tells(t, "Between", l, want[0], want[2])
		}
		none(t, "no Key, twice", rowsOf(row(api.Entry{Key: empty, Seq: 1}, api.Entry{Seq: 1})))
	}
	for _, rows := range [][][]api.Entry{nil, {}, make([][]api.Entry, 0, 5)} {
		tells(t, "All of no rows", all(t, rows))
		tells(t, "Seen of no rows", seen(t, rows, 1))
		tells(t, "Between of no rows", between(t, rows, "", "", 1, 1))
	}
	refused(t, "Check of none", merge.Check(nil), api.OK)
	refused(t, "Check of none", merge.Check([]api.Entry{}), api.OK)
}

func ExampleAll() {
	l, e := merge.All([][]api.Entry{{put("a", 1, "x")}, {put("a", 2, "y"), put("b", 1, "z")}})
	fmt.Println(told(l...), e)
	// Output:
	// "a" at 2: 1 "y"; "a" at 1: 1 "x"; "b" at 1: 1 "z";  0
}

func ExampleSeen() {
	rows := [][]api.Entry{{put("a", 1, "x")}, {del("a", 2)}}
	for _, seq := range []uint64{2, 1} {
		l, e := merge.Seen(rows, seq)
		fmt.Printf("%q %d\n", told(l...), e)
	}
	// Output:
	// "" 0
	// "\"a\" at 1: 1 \"x\"; " 0
}
