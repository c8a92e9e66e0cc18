package block_test

import (
	"bytes"
	"fmt"
	"slices"
	"testing"

	"bootprint/api"
	"bootprint/block"
)

const roomyText = "p..ab..x..ac..y........................................................................................................................................................................................................................................................................"

// roomy answers entries all of whose lists have spare room, the bytes in one
// list, which is answered too.
func roomy() (l []api.Entry, whole []byte) {
	whole = []byte(roomyText)
	l = make([]api.Entry, 0, 9)
	l = append(l,
		api.Entry{Key: whole[3:5], Seq: 2, Kind: api.WritePut, Value: whole[7:8]},
		// The same lists once more, one the other's.
		api.Entry{Key: whole[3:5], Seq: 1, Kind: api.WritePut, Value: whole[3:5]},
		api.Entry{Key: whole[10:12], Seq: 1, Kind: api.WriteDelete, Value: whole[12:12]},
	)
	return append(l, put("spare", 1, "room"))[:3], whole
}

const (
	roomyTold  = `"ab" at 2: 1 "x"; "ab" at 1: 1 "ab"; "ac" at 1: 2 ""; `
	roomyBytes = "\x00\x02\x09\x01abx\x02\x00\x05\x02ab\x01\x01\x06\x00c\x00\x00\x00\x00\x01\x00\x00\x00"
)

// unchanged fails unless the roomy entries are as they were, their spare room
// too.
func unchanged(t *testing.T, when string, l []api.Entry, whole []byte) {
	t.Helper()
	if string(whole) != roomyText {
		t.Fatalf("%s: the bytes that were handed in are %q", when, whole)
	}
	all := l[:cap(l)]
	if told(l...) != roomyTold || told(all[3]) != `"spare" at 1: 1 "room"; ` {
		t.Fatalf("%s: the entries that were handed in are %s", when, told(all...))
	}
	for _, e := range all[4:] {
		if e.Key != nil || e.Seq != 0 || e.Kind != 0 || e.Value != nil {
			t.Fatalf("%s: the spare room that was handed in is written to", when)
		}
	}
}

// spoil overwrites lists, their spare room too.
func spoil(lists ...[]byte) {
	for _, l := range lists {
		room := l[:cap(l)]
		for i := range room {
			room[i] = 0x55
		}
	}
}

// apart fails if two of the lists share memory, their spare room too.
func apart(t *testing.T, what string, lists ...[]byte) {
	t.Helper()
	for i, l := range lists {
		room := l[:cap(l)]
		for j := range room {
			room[j] = byte(i)
		}
	}
	for i, l := range lists {
		for _, c := range l[:cap(l)] {
			if c != byte(i) {
				t.Fatalf("%s: two lists share memory", what)
			}
		}
	}
}

// Rule 4

func TestAppendAnswersNewMemory(t *testing.T) {
	l, whole := roomy()
	p, e := block.Append(whole[:1], l)
	if string(p) != "p"+roomyBytes || e != api.OK {
		t.Fatalf("Append: %q, %d", p, e)
	}
	unchanged(t, "behind Append", l, whole)
	q, _ := block.Append(whole[:1], l)
	spoil(p)
	unchanged(t, "when Append's answer is written to", l, whole)
	if string(q) != "p"+roomyBytes {
		t.Errorf("two answers share memory: %q", q)
	}
	spoil(whole)
	if string(q) != "p"+roomyBytes {
		t.Errorf("Append's answer follows what was handed in: %q", q)
	}
}

func TestAppendTwiceOntoTheSameBytes(t *testing.T) {
	ahead := make([]byte, 2, 100)
	p, _ := block.Append(ahead, []api.Entry{put("a", 1, "x")})
	q, _ := block.Append(ahead, []api.Entry{del("b", 2)})
	if string(p) != "\x00\x00\x00\x01\x05\x01ax"+tail(0) || string(q) != "\x00\x00\x00\x01\x0a\x00b"+tail(0) {
		t.Errorf("Append twice: %q, %q", p, q)
	}
	if room := ahead[:100]; !bytes.Equal(room, make([]byte, 100)) {
		t.Errorf("the spare room is written to: %q", room)
	}
	// The bytes ahead may be an entry's own.
	key := []byte("key")
	p, e := block.Append(key, []api.Entry{{Key: key, Seq: 1, Kind: 1, Value: key}})
	if string(p) != "key\x00\x03\x05\x03keykey"+tail(0) || e != api.OK {
		t.Errorf("Append of a key behind itself: %q, %d", p, e)
	}
	if string(key) != "key" {
		t.Errorf("the key is %q", key)
	}
}

func TestParseAnswersNewMemory(t *testing.T) {
	long := byWords(rising(40))
	for s, want := range map[string]string{roomyBytes: roomyTold, long: told(rising(40)...)} {
		p := append(make([]byte, 0, 2000), s...)
		l, e := block.Parse(p)
		fine(t, "Parse", e)
		again, _ := block.Parse(p)
		var lists [][]byte
		for _, x := range l {
			lists = append(lists, x.Key, x.Value)
		}
		apart(t, "Parse", lists...)
		for i, room := 0, l[:cap(l)]; i < len(room); i++ {
			room[i] = api.Entry{}
		}
		if string(p) != s || !bytes.Equal(p[len(p):2000], make([]byte, 2000-len(p))) {
			t.Fatalf("Parse's answer shares memory with what was handed in: %q", p[:2000])
		}
		spoil(p)
		if told(again...) != want {
			t.Errorf("Parse's answer follows what was handed in, or another answer: %s", told(again...))
		}
	}
}

func TestRestartsAnswersNewMemory(t *testing.T) {
	s := byWords(rising(40))
	p := append(make([]byte, 0, 2000), s...)
	places, e := block.Restarts(p)
	fine(t, "Restarts", e)
	again, _ := block.Restarts(p)
	want := slices.Clone(again)
	for i, room := 0, places[:cap(places)]; i < len(room); i++ {
		room[i] = -1
	}
	if string(p) != s || !bytes.Equal(p[len(p):2000], make([]byte, 2000-len(p))) {
		t.Fatalf("Restarts changes what was handed in: %q", p[:2000])
	}
	spoil(p)
	if !slices.Equal(again, want) || len(again) != 3 {
		t.Errorf("two answers share memory: %d", again)
	}
}

func TestSeekAnswersNewMemory(t *testing.T) {
	p := append(make([]byte, 0, 100), roomyBytes...)
	key := append(make([]byte, 0, 10), "ab"...)
	e, _, err := block.Seek(p, key, 1)
	if told(e) != `"ab" at 1: 1 "ab"; ` || err != api.OK {
		t.Fatalf("Seek: %s, %d", told(e), err)
	}
	again, _, _ := block.Seek(p, key, 1)
	apart(t, "Seek", e.Key, e.Value, key)
	if string(p) != roomyBytes || !bytes.Equal(p[len(p):100], make([]byte, 100-len(p))) {
		t.Fatalf("Seek's answer shares memory with what was handed in: %q", p[:100])
	}
	spoil(p, key)
	if told(again) != `"ab" at 1: 1 "ab"; ` {
		t.Errorf("Seek's answer follows what was handed in, or another answer: %s", told(again))
	}
}

func TestNothingThatIsHandedInIsChanged(t *testing.T) {
	l, whole := roomy()
	block.Size(l)
	unchanged(t, "behind Size", l, whole)
	// With an error neither.
	l[2].Kind = 3
	if _, e := block.Append(whole[:1], l); e != api.ErrArg {
		t.Errorf("Append of Kind 3: %d", e)
	}
	l[2].Kind = 2
	slices.Reverse(l)
	if _, e := block.Append(whole[:1], l); e != api.ErrArg {
		t.Errorf("Append of entries not in order: %d", e)
	}
	slices.Reverse(l)
	unchanged(t, "behind an error", l, whole)
	bad := append([]byte(roomyBytes), 0)[:len(roomyBytes)-1]
	block.Parse(bad)
	block.Restarts(bad)
	key := []byte("abc")
	block.Seek(bad, key[:2], 1)
	if string(bad[:len(bad)+2]) != roomyBytes+"\x00" || string(key) != "abc" {
		t.Errorf("bytes that are no block's are changed: %q, %q", bad[:len(bad)+2], key)
	}
	// What stands in the spare room is not read.
	if _, e := block.Parse([]byte(roomyBytes)[:len(roomyBytes)-4]); e != api.ErrBad {
		t.Errorf("Parse reads spare room: %d", e)
	}
}

// Rule 6: a nil list and an empty one are the same.
func TestNilAndEmptyAreTheSame(t *testing.T) {
	for _, none := range [][]byte{nil, {}} {
		l := []api.Entry{{Key: []byte("a"), Seq: 1, Kind: 1, Value: none}, {Key: []byte("b"), Seq: 2, Kind: 2, Value: none}}
		want := "\x00\x01\x05\x00a\x00\x01\x0a\x00b" + tail(0)
		p, e := block.Append(none, l)
		if string(p) != want || e != api.OK {
			t.Errorf("Append: %q, %d", p, e)
		}
		if x, read, e := block.Seek(p, none, 0); told(x) != `"a" at 1: 1 ""; ` || read != 1 || e != api.OK {
			t.Errorf("Seek of no key: %s, %d, %d", told(x), read, e)
		}
		refuses(t, "no bytes", string(none), api.ErrBad)
		if _, e := block.Append(none, []api.Entry{{Key: none, Seq: 1, Kind: 1}}); e != api.ErrArg {
			t.Errorf("Append of an entry without a Key: %d", e)
		}
	}
	for _, l := range [][]api.Entry{nil, {}} {
		if p, e := block.Append([]byte("p"), l); len(p) != 0 || e != api.ErrArg {
			t.Errorf("Append of none: %q, %d", p, e)
		}
		if n := block.Size(l); n != 4 {
			t.Errorf("Size of none: %d", n)
		}
	}
}

// The chapter's examples

func TestExamplesOfTheChapter(t *testing.T) {
	ab, ac := put("ab", 1, "x"), put("ac", 1, "y")
	p, e := block.Append(nil, []api.Entry{ab, ac})
	if !bytes.Equal(p, []byte{0, 2, 5, 1, 'a', 'b', 'x', 1, 1, 5, 1, 'c', 'y', 0, 0, 0, 0, 1, 0, 0, 0}) || e != api.OK {
		t.Errorf("Append: %v, %d", p, e)
	}
	if x, read, e := block.Seek(p, []byte("ac"), 9); told(x) != told(ac) || read != 2 || e != api.OK {
		t.Errorf("Seek ac 9: %s%d, %d", told(x), read, e)
	}
	if x, _, e := block.Seek(p, []byte("ad"), 1); told(x) != told(api.Entry{}) || e != api.ErrNone {
		t.Errorf("Seek ad 1: %s%d", told(x), e)
	}
	for _, l := range [][]api.Entry{nil, {ac, ab}} {
		if p, e := block.Append(nil, l); len(p) != 0 || e != api.ErrArg {
			t.Errorf("Append of %s: %v, %d", told(l...), p, e)
		}
	}
}

func ExampleSeek() {
	p, _ := block.Append(nil, []api.Entry{
		{Key: []byte("ab"), Seq: 1, Kind: api.WritePut, Value: []byte("x")},
		{Key: []byte("ac"), Seq: 1, Kind: api.WritePut, Value: []byte("y")},
	})
	entry, read, e := block.Seek(p, []byte("ac"), 9)
	fmt.Printf("%s at %d: %q, %d looked at, %d\n", entry.Key, entry.Seq, entry.Value, read, e)
	_, _, e = block.Seek(p, []byte("ad"), 1)
	fmt.Println(e == api.ErrNone)
	// Output:
	// ac at 1: "y", 2 looked at, 0
	// true
}
