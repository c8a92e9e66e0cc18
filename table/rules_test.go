package table_test

import (
	"bytes"
	"fmt"
	"slices"
	"strings"
	"testing"

	"bootprint/api"
	"bootprint/table"
	"bootprint/vfs"
)

// Rule 4

const roomyText = "..ab..x..ac..y........................................................................................."

// roomy answers entries all of whose lists have spare room, the bytes in one
// list, which is answered too.
func roomy() (l []api.Entry, bytes []byte) {
	bytes = []byte(roomyText)
	l = make([]api.Entry, 0, 9)
	l = append(l,
		api.Entry{Key: bytes[2:4], Seq: 2, Kind: api.WritePut, Value: bytes[6:7]},
		// The same lists once more, one the other's.
		api.Entry{Key: bytes[2:4], Seq: 1, Kind: api.WritePut, Value: bytes[2:4]},
		api.Entry{Key: bytes[9:11], Seq: 1, Kind: api.WriteDelete, Value: bytes[11:11]},
	)
	return append(l, put("spare", 1, "room"))[:3], bytes
}

const roomyTold = `"ab" at 2: 1 "x"; "ab" at 1: 1 "ab"; "ac" at 1: 2 ""; `

// unchanged fails unless the roomy entries are as they were, their spare room
// too.
func unchanged(t *testing.T, when string, l []api.Entry, bytes []byte) {
	t.Helper()
	if string(bytes) != roomyText {
		t.Fatalf("%s: the bytes that were handed in are %q", when, bytes)
	}
	all := l[:cap(l)]
	if told(l...) != roomyTold || told(all[3]) != `"spare" at 1: 1 "room"; ` {
		t.Fatalf("%s: the entries that were handed in are %s", when, told(all...))
	}
	for _, e := range all[4:] {
		if e.Key != nil || e.Seq != 0 || e.Kind != 0 || e.Value != nil {
			t.Fatalf("%s: the spare room that was handed in is written to", when)
		}
	}
}

// spoil overwrites lists, their spare room too.
func spoil(lists ...[]byte) {
	for _, l := range lists {
		room := l[:cap(l)]
		for i := range room {
			room[i] = 0x55
		}
	}
}

// spoilEntries overwrites entries, their lists and all spare room too.
func spoilEntries(l []api.Entry) {
	for _, e := range l {
		spoil(e.Key, e.Value)
	}
	room := l[:cap(l)]
	for i := range room {
		room[i] = put("spoilt", 9, "spoilt")
	}
}

// apart fails if two of the lists share memory, their spare room too.
func apart(t *testing.T, what string, lists ...[]byte) {
	t.Helper()
	for i, l := range lists {
		room := l[:cap(l)]
		for j := range room {
			room[j] = byte(i)
		}
	}
	for i, l := range lists {
		for _, c := range l[:cap(l)] {
			if c != byte(i) {
				t.Fatalf("%s: two lists share memory", what)
			}
		}
	}
}

func TestMakeAnswersNewMemory(t *testing.T) {
	l, text := roomy()
	want := sheetOf(l, setup(64, 10)).file()
	p, e := table.Make(l, setup(64, 10))
	if string(p) != want || e != api.OK {
		t.Fatalf("Make: %q, %d", p, e)
	}
	unchanged(t, "behind Make", l, text)
	q, _ := table.Make(l, setup(64, 10))
	spoil(p)
	unchanged(t, "when Make's answer is written to", l, text)
	spoil(text)
	if string(q) != want {
		t.Errorf("Make's answer follows another one, or what was handed in: %q", q)
	}
}

func TestInfoAnswersNewMemory(t *testing.T) {
	// The first Key is the last one, too.
	for n := 1; n <= 3; n++ {
		l, text := roomy()
		i, e := table.Info(l[:n], setup(64, 10))
		again, _ := table.Info(l[:n], setup(64, 10))
		fine(t, e)
		want := toldInfo(i)
		apart(t, "Info", i.Least, i.Most)
		unchanged(t, "behind Info", l, text)
		spoil(text)
		if toldInfo(again) != want {
			t.Errorf("Info's answer follows another one, or what was handed in: %s", toldInfo(again))
		}
		l, _ = roomy()
		x, _ := opened(t, made(t, l[:n], setup(64, 10)))
		for range 2 {
			i := x.Info()
			if toldInfo(i) != want {
				t.Errorf("Info of a table: %s, want %s", toldInfo(i), want)
			}
			apart(t, "Info of a table", i.Least, i.Most)
		}
		// Its own keys are as they were.
		tellsAll(t, x, l[:n])
		gets(t, x, "ab", 2, l[0])
	}
}

func TestReadingAnswersNewMemory(t *testing.T) {
	l := append(rising(30), ofOneKey("kez", 30)...)
	b := made(t, l, setup(64, 10))
	x, f := opened(t, b)
	one, e := x.Get([]byte("kez"), 9)
	fine(t, e)
	again, _ := x.Get([]byte("kez"), 9)
	apart(t, "Get", one.Key, one.Value)
	if told(again) != told(l[30+30-9]) {
		t.Errorf("two answers share memory: %s", told(again))
	}
	for _, call := range []func() ([]api.Entry, api.Errno){
		x.All,
		func() ([]api.Entry, api.Errno) { return x.From(nil, 1000) },
	} {
		got, e := call()
		fine(t, e)
		other, _ := call()
		var lists [][]byte
		for _, x := range got {
			lists = append(lists, x.Key, x.Value)
		}
		apart(t, "a list", lists...)
		spoilEntries(got)
		if !same(other, l) {
			t.Errorf("two answers share memory: %s", shortly(told(other...)))
		}
		spoilEntries(other)
	}
	some, _ := x.From([]byte("key0003"), 2)
	spoilEntries(some)
	// Neither the table nor the file has changed.
	tellsAll(t, x, l)
	whole(t, x, l)
	if got, _ := f.Read("t", 0, len(b)); string(got) != b {
		t.Error("the file is written to")
	}
}

func TestKeysThatAreHandedInAreNotChanged(t *testing.T) {
	l := rising(30)
	x, _ := opened(t, made(t, l, setup(64, 10)))
	room := []byte("key0007 and room")
	key := room[:7]
	one, e := x.Get(key, 9)
	fine(t, e)
	list, e := x.From(key, 3)
	fine(t, e)
	if string(room) != "key0007 and room" {
		t.Errorf("the key that was handed in is %q", room)
	}
	spoil(room)
	if told(one) != told(l[7]) || !same(list, l[7:10]) {
		t.Errorf("an answer follows the key that was handed in: %s, %s", told(one), told(list...))
	}
	gets(t, x, "key0007", 9, l[7])
}

func TestNothingThatIsHandedInIsChanged(t *testing.T) {
	l, text := roomy()
	for what, change := range map[string]func() api.TableSetup{
		"a setup":      func() api.TableSetup { return setup(63, 10) },
		"a Kind":       func() api.TableSetup { l[2].Kind = 3; return setup(64, 10) },
		"not in order": func() api.TableSetup { slices.Reverse(l); return setup(64, 10) },
	} {
		notMade(t, what, l, change(), api.ErrArg)
		l[0].Kind, l[2].Kind = 1, 2
		if string(l[0].Key) != "ab" {
			l[0].Kind, l[2].Kind = 2, 1
			slices.Reverse(l)
		}
		unchanged(t, what, l, text)
	}
	// What stands in the spare room is not looked at.
	long := append(rising(3), put("", 0, ""))
	if _, e := table.Make(long[:3], setup(64, 10)); e != api.OK {
		t.Errorf("Make looks at spare room: %d", e)
	}
}

// The file system is kept: what is done to the file is what the table finds.
// Two tables of one file know nothing of each other.
func TestTablesStandApart(t *testing.T) {
	l := rising(30)
	x, f := opened(t, made(t, l, setup(64, 10)))
	y, e := table.Open(f, "t")
	fine(t, e)
	tellsAll(t, x, l)
	reads(t, "of the other table", y, 0)
	other := rising(50)[40:]
	fine(t, f.Create("u"), f.Append("u", []byte(made(t, other, setup(64, 10)))))
	z, e := table.Open(f, "u")
	fine(t, e)
	tellsAll(t, z, other)
	tellsAll(t, y, l)
	fine(t, f.Remove("t"), f.Rename("u", "t"))
	tellsNoneOf(t, x)
	got, e := z.All()
	tellsNone(t, "All of a file that went", got, e, api.ErrNone)
}

// tellsNoneOf fails unless All is bad.
func tellsNoneOf(t *testing.T, x *table.Table) {
	t.Helper()
	got, e := x.All()
	tellsNone(t, "All", got, e, api.ErrBad)
}

// Rule 5

func TestNoTable(t *testing.T) {
	unmade := table.Table{}
	for _, x := range []*table.Table{nil, {}, new(table.Table), &unmade} {
		for _, key := range []string{"", "a", strings.Repeat("k", 5000)} {
			for _, n := range []uint64{0, 1, greatest} {
				getsNone(t, x, key, n, api.ErrNil)
			}
			for _, n := range []int{-1, 0, 1, greatestInt} {
				l, e := x.From([]byte(key), n)
				tellsNone(t, "From", l, e, api.ErrNil)
			}
		}
		l, e := x.All()
		tellsNone(t, "All", l, e, api.ErrNil)
		if toldInfo(x.Info()) != toldInfo(api.TableInfo{}) {
			t.Errorf("Info: %s", toldInfo(x.Info()))
		}
		reads(t, "no table", x, 0)
	}
}

// Rule 6: a nil list and an empty one are the same.
func TestNilAndEmptyAreTheSame(t *testing.T) {
	for _, l := range [][]api.Entry{nil, {}} {
		notMade(t, "none", l, setup(64, 10), api.ErrArg)
	}
	var files []string
	for _, none := range [][]byte{nil, {}} {
		l := []api.Entry{{Key: []byte("a"), Seq: 1, Kind: 1, Value: none}, {Key: []byte("b"), Seq: 2, Kind: 2, Value: none}}
		b := made(t, l, setup(64, 10))
		files = append(files, b)
		x, _ := opened(t, b)
		if got, e := x.From(none, 5); !same(got, l) || e != api.OK {
			t.Errorf("From of no key: %s, %d", told(got...), e)
		}
		if got, e := x.Get(none, 5); got.Key != nil || e != api.ErrNone {
			t.Errorf("Get of no key: %s, %d", told(got), e)
		}
		notMade(t, "no Key", []api.Entry{{Key: none, Seq: 1, Kind: 1}}, setup(64, 10), api.ErrArg)
	}
	if files[0] != files[1] {
		t.Errorf("Make: %q, %q", files[0], files[1])
	}
}

// The chapter's examples

// The chapter tells of a frame of 15 for the block; by the words of chapter 8
// the block has 14 bytes, and its frame 26.
func TestExamplesOfTheChapter(t *testing.T) {
	l := []api.Entry{put("a", 1, "x")}
	b := made(t, l, setup(64, 10))
	blockBytes := "\x00\x01\x05\x01ax" + "\x00\x00\x00\x00" + "\x01\x00\x00\x00"
	index := "\x01" + "\x00\x1a\x01a\x01" + "\x01\x01\x01" + "\x01a" + "\x01a"
	want := framed(2, blockBytes) + framed(3, filterOf([]string{"a"}, 10)) + framed(4, index) + "\x00\x00\x00\x00\x00\x00\x00\x2fbootmark"
	if b != want || len(b) != 26+(12+9)+(12+13)+16 {
		t.Errorf("Make: %q, want %q", b, want)
	}
	x, _ := opened(t, b)
	if i := x.Info(); i.Entries != 1 || i.Blocks != 1 || i.Size != 88 || string(i.Least) != "a" || string(i.Most) != "a" || i.LeastSeq != 1 || i.MostSeq != 1 {
		t.Errorf("Info: %s", toldInfo(i))
	}
	gets(t, x, "a", 9, l[0])
	getsNone(t, x, "b", 9, api.ErrNone)
	reads(t, "the example", x, 1)
	notOpened(t, "an empty file", "", api.ErrBad)
	f, _ := vfs.New(1000)
	if x, e := table.Open(f, "t"); x != nil || e != api.ErrNone {
		t.Errorf("Open of no file: %v, %d", x, e)
	}
}

func ExampleOpen() {
	b, _ := table.Make([]api.Entry{
		{Key: []byte("a"), Seq: 2, Kind: api.WritePut, Value: []byte("y")},
		{Key: []byte("a"), Seq: 1, Kind: api.WritePut, Value: []byte("x")},
		{Key: []byte("b"), Seq: 3, Kind: api.WriteDelete},
	}, api.TableSetup{Block: 4096, Bits: 10})
	f, _ := vfs.New(1 << 20)
	f.Create("t")
	f.Append("t", b)
	t, _ := table.Open(f, "t")
	entry, e := t.Get([]byte("a"), 1)
	fmt.Printf("%s at %d: %q, %d\n", entry.Key, entry.Seq, entry.Value, e)
	l, e := t.From([]byte("a"), 10)
	fmt.Println(len(l), e, t.Reads(), bytes.Equal(t.Info().Most, []byte("b")))
	_, e = t.Get([]byte("a"), 0)
	fmt.Println(e == api.ErrNone)
	// Output:
	// a at 1: "x", 0
	// 3 0 2 true
	// true
}
