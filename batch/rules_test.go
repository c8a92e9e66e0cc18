package batch_test

import (
	"bytes"
	"fmt"
	"testing"

	"bootprint/api"
	"bootprint/batch"
)

// roomy answers a batch all of whose lists have spare room, the bytes in one
// list, which is answered too.
func roomy() (b api.Batch, whole []byte) {
	whole = []byte("p..b..2..a..b..1.......................")
	writes := make([]api.Write, 0, 9)
	writes = append(writes,
		api.Write{Kind: api.WritePut, Key: whole[3:4], Value: whole[6:7]},
		api.Write{Kind: api.WriteDelete, Key: whole[9:10], Value: whole[10:10]},
		// The same lists once more, one the other's.
		api.Write{Kind: api.WritePut, Key: whole[3:4], Value: whole[3:4]},
	)
	writes = append(writes, put("spare", "room"))[:3]
	return api.Batch{Seq: 7, Writes: writes}, whole
}

const (
	roomyTold    = `7: 1 "b" "2" 2 "a" "" 1 "b" "b"`
	roomyBytes   = "\x07\x03\x01\x01b\x012\x02\x01a\x01\x01b\x01b"
	roomyEntries = `"a" at 8: 2 ""; "b" at 9: 1 "b"; "b" at 7: 1 "2"; `
)

// unchanged fails unless the roomy batch is as it was, its spare room too.
func unchanged(t *testing.T, when string, b api.Batch, whole []byte) {
	t.Helper()
	if string(whole) != "p..b..2..a..b..1......................." {
		t.Fatalf("%s: the bytes that were handed in are %q", when, whole)
	}
	all := b.Writes[:cap(b.Writes)]
	if told(b) != roomyTold || told(of(0, all[3])) != `0: 1 "spare" "room"` {
		t.Fatalf("%s: the batch that was handed in is %s, behind it %s", when, told(b), told(of(0, all[3:]...)))
	}
	for _, w := range all[4:] {
		if w.Kind != 0 || w.Key != nil || w.Value != nil {
			t.Fatalf("%s: the spare room that was handed in is written to", when)
		}
	}
}

// spoil overwrites lists, their spare room too.
func spoil(lists ...[]byte) {
	for _, l := range lists {
		room := l[:cap(l)]
		for i := range room {
			room[i] = 0x55
		}
	}
}

// apart fails if two of the lists share memory, their spare room too.
func apart(t *testing.T, what string, lists ...[]byte) {
	t.Helper()
	for i, l := range lists {
		room := l[:cap(l)]
		for j := range room {
			room[j] = byte(i)
		}
	}
	for i, l := range lists {
		for _, c := range l[:cap(l)] {
			if c != byte(i) {
				t.Fatalf("%s: two lists share memory", what)
			}
		}
	}
}

// Rule 4

func TestAppendAnswersNewMemory(t *testing.T) {
	b, whole := roomy()
	p, e := batch.Append(whole[:1], b)
	if string(p) != "p"+roomyBytes || e != api.OK {
		t.Fatalf("Append: %q, %d", p, e)
	}
	unchanged(t, "behind Append", b, whole)
	q, _ := batch.Append(whole[:1], b)
	spoil(p)
	unchanged(t, "when Append's answer is written to", b, whole)
	if string(q) != "p"+roomyBytes {
		t.Errorf("two answers share memory: %q", q)
	}
	spoil(whole)
	if string(q) != "p"+roomyBytes {
		t.Errorf("Append's answer follows what was handed in: %q", q)
	}
}

func TestAppendTwiceOntoTheSameBytes(t *testing.T) {
	ahead := make([]byte, 2, 100)
	p, _ := batch.Append(ahead, of(1, put("a", "x")))
	q, _ := batch.Append(ahead, of(2, del("b")))
	if string(p) != "\x00\x00\x01\x01\x01\x01a\x01x" || string(q) != "\x00\x00\x02\x01\x02\x01b" {
		t.Errorf("Append twice: %q, %q", p, q)
	}
	if room := ahead[:100]; !bytes.Equal(room, make([]byte, 100)) {
		t.Errorf("the spare room is written to: %q", room)
	}
	// The bytes ahead may be a write's own.
	key := []byte("key")
	p, e := batch.Append(key, of(1, api.Write{Kind: 1, Key: key, Value: key}))
	if string(p) != "key\x01\x01\x01\x03key\x03key" || e != api.OK {
		t.Errorf("Append of a key behind itself: %q, %d", p, e)
	}
}

func TestParseAnswersNewMemory(t *testing.T) {
	p := append(make([]byte, 0, 100), roomyBytes...)
	b, e := batch.Parse(p)
	fine(t, "Parse", e)
	c, _ := batch.Parse(p)
	var lists [][]byte
	for _, w := range b.Writes {
		lists = append(lists, w.Key, w.Value)
	}
	apart(t, "Parse", lists...)
	for i, room := 0, b.Writes[:cap(b.Writes)]; i < len(room); i++ {
		room[i] = api.Write{}
	}
	if string(p) != roomyBytes || !bytes.Equal(p[len(p):100], make([]byte, 100-len(p))) {
		t.Fatalf("Parse's answer shares memory with what was handed in: %q", p[:100])
	}
	spoil(p)
	if told(c) != roomyTold {
		t.Errorf("Parse's answer follows what was handed in, or another answer: %s", told(c))
	}
}

func TestEntriesAnswersNewMemory(t *testing.T) {
	b, whole := roomy()
	l, e := batch.Entries(b)
	if toldEntries(l) != roomyEntries || e != api.OK {
		t.Fatalf("Entries: %s, %d", toldEntries(l), e)
	}
	unchanged(t, "behind Entries", b, whole)
	again, _ := batch.Entries(b)
	var lists [][]byte
	for _, entry := range l {
		lists = append(lists, entry.Key, entry.Value)
	}
	apart(t, "Entries", lists...)
	for i, room := 0, l[:cap(l)]; i < len(room); i++ {
		room[i] = api.Entry{}
	}
	unchanged(t, "when Entries' answer is written to", b, whole)
	spoil(whole)
	clear(b.Writes)
	if toldEntries(again) != roomyEntries {
		t.Errorf("Entries' answer follows what was handed in, or another answer: %s", toldEntries(again))
	}
}

func TestOtherCallsLeaveWhatIsHandedIn(t *testing.T) {
	b, whole := roomy()
	fine(t, "Check", batch.Check(b))
	batch.Last(b)
	a, c := api.Entry{Key: b.Writes[0].Key, Seq: 1, Kind: 1, Value: b.Writes[0].Value}, api.Entry{Key: b.Writes[1].Key, Seq: 2, Kind: 2}
	fine(t, "CheckEntry", batch.CheckEntry(a))
	batch.Compare(a, c)
	unchanged(t, "behind them", b, whole)
	// With an error neither.
	b.Writes[2].Kind = 3
	_, e := batch.Append(whole[:1], b)
	refused(t, "Append", e, api.ErrArg)
	_, e = batch.Entries(b)
	refused(t, "Entries", e, api.ErrArg)
	b.Writes[2].Kind = 1
	unchanged(t, "behind an error", b, whole)
}

// Rule 6: a nil list and an empty one are the same.
func TestNilAndEmptyAreTheSame(t *testing.T) {
	for _, value := range [][]byte{nil, {}} {
		b := of(1, api.Write{Kind: 1, Key: []byte("a"), Value: value}, api.Write{Kind: 2, Key: []byte("b"), Value: value})
		for _, ahead := range [][]byte{nil, {}} {
			if p, e := batch.Append(ahead, b); string(p) != "\x01\x02\x01\x01a\x00\x02\x01b" || e != api.OK {
				t.Errorf("Append: %q, %d", p, e)
			}
		}
		if l, e := batch.Entries(b); toldEntries(l) != `"a" at 1: 1 ""; "b" at 2: 2 ""; ` || e != api.OK {
			t.Errorf("Entries: %s, %d", toldEntries(l), e)
		}
		if _, e := batch.Parse(value); e != api.ErrMore {
			t.Errorf("Parse of nothing: %d", e)
		}
		refused(t, "no Key", batch.Check(of(1, api.Write{Kind: 1, Key: value})), api.ErrArg)
		refused(t, "an entry without a Key", batch.CheckEntry(api.Entry{Key: value, Seq: 1, Kind: 1}), api.ErrArg)
	}
}

// The chapter's examples

func TestExamplesOfTheChapter(t *testing.T) {
	p, e := batch.Append(nil, of(7, put("a", "x"), del("b")))
	if !bytes.Equal(p, []byte{7, 2, 1, 1, 'a', 1, 'x', 2, 1, 'b'}) || e != api.OK {
		t.Errorf("Append: %v, %d", p, e)
	}
	l, e := batch.Entries(of(1, put("a", ""), put("a", "")))
	if len(l) != 2 || string(l[0].Key) != "a" || l[0].Seq != 2 || string(l[1].Key) != "a" || l[1].Seq != 1 || e != api.OK {
		t.Errorf("Entries: %s, %d", toldEntries(l), e)
	}
	refused(t, "no writes", batch.Check(of(1)), api.ErrArg)
	refused(t, "a key of 4,097 bytes", batch.Check(of(1, sized(1, 4097, 1))), api.ErrLong)
}

func ExampleEntries() {
	l, e := batch.Entries(api.Batch{Seq: 1, Writes: []api.Write{
		{Kind: api.WritePut, Key: []byte("b"), Value: []byte("x")},
		{Kind: api.WritePut, Key: []byte("a"), Value: []byte("y")},
		{Kind: api.WriteDelete, Key: []byte("b")},
	}})
	for _, entry := range l {
		fmt.Printf("%s at %d: %d %q\n", entry.Key, entry.Seq, entry.Kind, entry.Value)
	}
	fmt.Println(e)
	// Output:
	// a at 2: 1 "y"
	// b at 3: 2 ""
	// b at 1: 1 "x"
	// 0
}
