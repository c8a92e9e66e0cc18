package version_test

import (
	"fmt"
	"testing"

	"bootprint/api"
	"bootprint/version"
)

// roomyText holds the Keys of the roomy version and edit; what stands behind
// each of them would make it another Key.
const roomyText = "..b~~d~~a~~c~~x~~z~~m~~p~~q~~................................................................................"

// roomy answers a version and an edit all of whose lists have spare room, and
// the bytes in which all Keys are. What stands in the lists' spare room would
// make them such as may not be.
func roomy() (api.Version, api.Edit, []byte) {
	text := []byte(roomyText)
	k := func(i int) []byte { return text[i : i+1] }
	f := func(number uint64, least, most []byte) api.File {
		return api.File{Number: number, Size: 10, Least: least, Most: most, Entries: 1, MostSeq: 1}
	}
	list := func(l ...api.File) []api.File {
		return append(append(make([]api.File, 0, 9), l...), file(0, "spare", "room"), file(0, "room", "spare"))[:len(l)]
	}
	v := api.Version{Next: 9, Seq: 5, Log: 2, Levels: append(make([][]api.File, 0, 9),
		list(f(5, k(2), k(5)), f(7, k(8), k(11))),   // b to d, a to c
		list(f(3, k(8), k(11)), f(6, k(20), k(20))), // a to c; m to m, one list
		nil,
		list(f(1, k(8), k(8)), f(4, k(11), k(17))), // a; c to z
		list(),
		files(file(0, "spare", "room")),
	)[:5]}
	e := api.Edit{Next: 12, Seq: 6, Log: 3,
		Drops: append(make([]api.Drop, 0, 9), drop(0, 5), drop(3, 4), drop(9, 9))[:2],
		Adds: append(make([]api.Add, 0, 9),
			add(1, f(10, k(14), k(17))), add(1, f(9, k(5), k(5))), add(2, f(11, k(5), k(5))), add(9, file(3, "spare", "room")),
		)[:3],
	}
	return v, e, text
}

const (
	roomyApplied = `Next 12, Seq 6, Log 3:` +
		` [7 of 10 ("a" to "c", 1 up to 1)]` +
		` [3 of 10 ("a" to "c", 1 up to 1), 9 of 10 ("d" to "d", 1 up to 1), 6 of 10 ("m" to "m", 1 up to 1), 10 of 10 ("x" to "z", 1 up to 1)]` +
		` [11 of 10 ("d" to "d", 1 up to 1)] [1 of 10 ("a" to "a", 1 up to 1)] []`
	roomyWhole = `Next 9, Seq 5, Log 2:` +
		` add 5 of 10 ("b" to "d", 1 up to 1) at 0; add 7 of 10 ("a" to "c", 1 up to 1) at 0;` +
		` add 3 of 10 ("a" to "c", 1 up to 1) at 1; add 6 of 10 ("m" to "m", 1 up to 1) at 1;` +
		` add 1 of 10 ("a" to "a", 1 up to 1) at 3; add 4 of 10 ("c" to "z", 1 up to 1) at 3;`
	roomyOverlap = `[3 of 10 ("a" to "c", 1 up to 1), 6 of 10 ("m" to "m", 1 up to 1)]`
	roomyBytes   = "\x0c\x06\x03\x02\x00\x05\x03\x04\x03\x01\x0a\x0a\x01\x01\x01x\x01z\x01\x09\x0a\x01\x01\x01d\x01d\x02\x0b\x0a\x01\x01\x01d\x01d"
)

// image writes a version, an edit and bytes, their spare room too.
func image(v api.Version, e api.Edit, text []byte) string {
	s := string(text[:cap(text)]) + fmt.Sprint(len(v.Levels), cap(v.Levels), v.Next, v.Seq, v.Log)
	for _, l := range v.Levels[:cap(v.Levels)] {
		s += fmt.Sprint(len(l), cap(l), toldFiles(l[:cap(l)]), "\n")
	}
	whole := e
	whole.Drops, whole.Adds = e.Drops[:cap(e.Drops)], e.Adds[:cap(e.Adds)]
	return s + fmt.Sprint(len(e.Drops), len(e.Adds)) + toldEdit(whole)
}

// lists are those of an answer, each of which must have memory of its own.
type lists struct {
	levels [][]api.File
	files  [][]api.File
	adds   []api.Add
	drops  []api.Drop
	keys   [][]byte
}

func (l *lists) addKeys(f api.File) { l.keys = append(l.keys, f.Least, f.Most) }

func listsOfFiles(f []api.File) lists {
	l := lists{files: [][]api.File{f}}
	for _, f := range f {
		l.addKeys(f)
	}
	return l
}

func listsOfVersion(v api.Version) lists {
	l := lists{levels: v.Levels, files: append([][]api.File(nil), v.Levels...)}
	for _, files := range v.Levels {
		for _, f := range files {
			l.addKeys(f)
		}
	}
	return l
}

func listsOfEdit(e api.Edit) lists {
	l := lists{adds: e.Adds, drops: e.Drops}
	for _, a := range e.Adds {
		l.addKeys(a.File)
	}
	return l
}

// spoil overwrites all lists, their spare room too, each with a mark of its
// own, and fails if two of them share memory.
func (l lists) spoil(t *testing.T, what string) {
	t.Helper()
	for i, k := range l.keys {
		room := k[:cap(k)]
		for j := range room {
			room[j] = byte(i)
		}
	}
	for i, f := range l.files {
		room := f[:cap(f)]
		for j := range room {
			room[j] = api.File{Number: uint64(1000 + i), Least: []byte("spoilt")}
		}
	}
	for i, k := range l.keys {
		for _, c := range k[:cap(k)] {
			if c != byte(i) {
				t.Fatalf("%s: two Keys share memory", what)
			}
		}
	}
	for i, f := range l.files {
		for _, f := range f[:cap(f)] {
			if f.Number != uint64(1000+i) {
				t.Fatalf("%s: two lists of files share memory", what)
			}
		}
	}
	clear(l.levels[:cap(l.levels)])
	clear(l.adds[:cap(l.adds)])
	clear(l.drops[:cap(l.drops)])
}

// answer is what a call answered: as a text, whenever it is asked, and its
// lists.
type answer struct {
	told  func() string
	lists lists
}

// calls answers the calls that answer lists.
func calls(t *testing.T) map[string]func(v api.Version, e api.Edit) answer {
	ofVersion := func(v api.Version) answer { return answer{func() string { return told(v) }, listsOfVersion(v)} }
	ofEdit := func(e api.Edit) answer { return answer{func() string { return toldEdit(e) }, listsOfEdit(e)} }
	return map[string]func(v api.Version, e api.Edit) answer{
		"First":            func(v api.Version, e api.Edit) answer { return ofVersion(version.First()) },
		"Apply":            func(v api.Version, e api.Edit) answer { return ofVersion(applied(t, v, e)) },
		"Apply of nothing": func(v api.Version, e api.Edit) answer { return ofVersion(applied(t, v, api.Edit{Next: 9})) },
		"Apply of drops":   func(v api.Version, e api.Edit) answer { return ofVersion(applied(t, v, drops(9, e.Drops...))) },
		"Apply of adds": func(v api.Version, e api.Edit) answer {
			return ofVersion(applied(t, v, adds(12, e.Adds...)))
		},
		"Whole": func(v api.Version, e api.Edit) answer { return ofEdit(whole(t, v)) },
		"Overlap": func(v api.Version, e api.Edit) answer {
			l := version.Overlap(v, 1, e.Adds[1].File.Least[:0], nil)
			return answer{func() string { return toldFiles(l) }, listsOfFiles(l)}
		},
		"Parse": func(v api.Version, e api.Edit) answer { return ofEdit(parsed(t, []byte(roomyBytes))) },
		"Append": func(v api.Version, e api.Edit) answer {
			p, err := version.Append(e.Adds[0].File.Least, e)
			fine(t, "Append", err)
			return answer{func() string { return fmt.Sprintf("%q", p) }, lists{keys: [][]byte{p}}}
		},
	}
}

// Rule 4

func TestAnswersAreNewMemory(t *testing.T) {
	for what, call := range calls(t) {
		v, e, text := roomy()
		before := image(v, e, text)
		first, second := call(v, e), call(v, e)
		want := first.told()
		if image(v, e, text) != before {
			t.Fatalf("%s changes what was handed in", what)
		}
		if second.told() != want {
			t.Fatalf("%s: %s, then %s", what, want, second.told())
		}
		first.lists.spoil(t, what)
		if image(v, e, text) != before {
			t.Fatalf("%s: who writes to the answer changes what was handed in", what)
		}
		if second.told() != want {
			t.Fatalf("%s: two answers share memory: %s", what, second.told())
		}
		spoilAll(v, e, text)
		if second.told() != want {
			t.Fatalf("%s: the answer follows what was handed in: %s", what, second.told())
		}
	}
}

// spoilAll overwrites what was handed in.
func spoilAll(v api.Version, e api.Edit, text []byte) {
	for _, l := range v.Levels[:cap(v.Levels)] {
		clear(l[:cap(l)])
	}
	clear(v.Levels[:cap(v.Levels)])
	clear(e.Drops[:cap(e.Drops)])
	clear(e.Adds[:cap(e.Adds)])
	for i := range text {
		text[i] = 0x55
	}
}

func TestSpareRoomIsNotLookedAt(t *testing.T) {
	v, e, _ := roomy()
	fine(t, "Check", version.Check(v))
	for what, want := range map[string]string{
		"Apply": roomyApplied, "Whole": roomyWhole, "Overlap": roomyOverlap, "Append": fmt.Sprintf("%q", "x"+roomyBytes),
		"First": "Next 1, Seq 0, Log 0: [] [] [] [] []",
	} {
		if got := calls(t)[what](v, e).told(); got != want {
			t.Errorf("%s: %s, want %s", what, got, want)
		}
	}
	if version.Bytes(v, 1) != 20 || version.Deepest(v, 0, []byte("y"), nil) || !version.Deepest(v, 3, []byte("a"), nil) {
		t.Error("Bytes or Deepest look at spare room")
	}
}

func TestOtherCallsLeaveWhatIsHandedIn(t *testing.T) {
	v, e, text := roomy()
	before := image(v, e, text)
	version.Check(v)
	for level := -1; level <= 5; level++ {
		version.Bytes(v, level)
		version.Deepest(v, level, text[2:3], text[5:6])
		version.Overlap(v, level, text[2:3], text[5:6])
	}
	if image(v, e, text) != before {
		t.Error("what was handed in is changed")
	}
	// Behind an error neither.
	for _, change := range []func(e *api.Edit){
		func(e *api.Edit) { e.Next = 0 },
		func(e *api.Edit) { e.Drops = e.Drops[:3] },
		func(e *api.Edit) { e.Adds = e.Adds[:4] },
		func(e *api.Edit) { e.Adds[2].Level = -1 },
	} {
		v, e, text := roomy()
		change(&e)
		before := image(v, e, text)
		if _, err := version.Apply(v, e); err == api.OK {
			t.Error("Apply: OK")
		}
		version.Append(text[:2], e)
		if image(v, e, text) != before {
			t.Error("what was handed in is changed behind an error")
		}
	}
	wrong := v
	wrong.Levels = v.Levels[:6]
	version.Apply(wrong, e)
	version.Whole(wrong)
	version.Overlap(wrong, 0, nil, nil)
	if image(v, e, text) != before {
		t.Error("what was handed in is changed behind an error of the version")
	}
}

// What Parse is handed is not kept.
func TestParseKeepsNothing(t *testing.T) {
	p := append(make([]byte, 0, 200), roomyBytes...)
	e := parsed(t, p)
	want := toldEdit(e)
	for i := range p[:200] {
		p[:200][i] = 0x55
	}
	if toldEdit(e) != want {
		t.Errorf("Parse's answer follows the bytes: %s", toldEdit(e))
	}
	p = append(p[:0], roomyBytes...)
	listsOfEdit(e).spoil(t, "Parse")
	if string(p) != roomyBytes {
		t.Errorf("who writes to Parse's answer changes the bytes: %q", p)
	}
}

func TestAppendTwiceOntoTheSameBytes(t *testing.T) {
	ahead := make([]byte, 2, 100)
	p, _ := version.Append(ahead, api.Edit{Next: 1})
	q, _ := version.Append(ahead, api.Edit{Next: 2, Seq: 3})
	if string(p) != "\x00\x00\x01\x00\x00\x00\x00" || string(q) != "\x00\x00\x02\x03\x00\x00\x00" {
		t.Errorf("Append twice: %q, %q", p, q)
	}
	for _, c := range ahead[:100] {
		if c != 0 {
			t.Fatal("the spare room is written to")
		}
	}
}

// Rule 6: a nil list and an empty one are the same.
func TestNilAndEmptyAreTheSame(t *testing.T) {
	for _, none := range [][]api.File{nil, {}, files(file(1, "a", "b"))[:0]} {
		v := api.Version{Levels: [][]api.File{none, none, none, none, none}, Next: 1}
		fine(t, "Check", version.Check(v))
		for _, e := range []api.Edit{{Next: 1}, {Next: 1, Drops: []api.Drop{}, Adds: []api.Add{}}} {
			if w := applied(t, v, e); told(w) != told(version.First()) {
				t.Errorf("Apply: %s", told(w))
			}
			if p := appended(t, "", e); string(p) != "\x01\x00\x00\x00\x00" {
				t.Errorf("Append: %q", p)
			}
		}
		for _, key := range [][]byte{nil, {}, []byte("x")[:0]} {
			v := at(1, file(1, "a", "b"), file(2, "x", "y"))
			if l := version.Overlap(v, 1, key, key); numbers(l) != "1 2" {
				t.Errorf("Overlap: %s", numbers(l))
			}
			if version.Deepest(v, 0, key, key) {
				t.Error("Deepest: yes")
			}
			refused(t, "no Least", version.Check(at(1, api.File{Number: 1, Least: key, Most: []byte("a"), Entries: 1})), api.ErrArg)
		}
	}
	for _, none := range [][]byte{nil, {}} {
		if p, e := version.Append(none, api.Edit{}); string(p) != "\x00\x00\x00\x00\x00" || e != api.OK {
			t.Errorf("Append: %q, %d", p, e)
		}
	}
}
