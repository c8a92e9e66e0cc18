package span_test

import (
	"bytes"
	"fmt"
	"slices"
	"testing"

	"bootprint/api"
	"bootprint/span"
)

// Rule 2: every other result with an error, or with false.
func TestOtherResultsAreZero(t *testing.T) {
	for _, s := range []api.Span{{}, with(func(s *api.Span) { s.Name = long(129) }), with(func(s *api.Span) { s.Kind = 6 })} {
		if b, e := span.Append([]byte("ahead"), s); e == api.OK || b != nil {
			t.Errorf("Append: %v, %d", b, e)
		}
	}
	whole := fieldsOf().bytes()
	for i := range whole {
		for _, b := range [][]byte{whole[:i], joined(whole[:i], []byte{whole[i] ^ 128}, whole[i+1:])} {
			if s, e := span.Parse(b); e != api.OK && (told(s) != told(api.Span{}) || s.Tags != nil) {
				t.Errorf("Parse of %v: %s, %d", b, told(s), e)
			}
		}
	}
	for _, s := range []string{"", "0000000000000000000000000000000g", "A0000000000000010000000000000001"} {
		if x, e := span.ParseTrace(s); e == api.OK || x != (api.Trace{}) {
			t.Errorf("ParseTrace of %q: %v, %d", s, x, e)
		}
	}
	if v, ok := span.Tag(some(), "nowhere"); v != "" || ok {
		t.Errorf("Tag: %q, %v", v, ok)
	}
}

// roomy answers b with spare room that is full of 0xee, and the whole of it.
func roomy(b []byte) (head, whole []byte) {
	whole = append(bytes.Clone(b), bytes.Repeat([]byte{0xee}, 1000)...)
	return whole[:len(b)], whole
}

// roomyTags answers tags with spare room that has others, and the whole of it.
func roomyTags(l []api.Tag) (head, whole []api.Tag) {
	whole = append(slices.Clone(l), rising(8)...)
	return whole[:len(l)], whole
}

// spoil writes over all of l, its spare room too.
func spoil[T any](l []T, x T) {
	for i := range l[:cap(l)] {
		l[:cap(l)][i] = x
	}
}

// Rule 4: what was handed in is neither changed nor kept, nor its spare room
// handed out.
func TestAppendIsNewMemory(t *testing.T) {
	for _, ahead := range []string{"", "ahead"} {
		head, whole := roomy([]byte(ahead))
		was := bytes.Clone(whole)
		s := some()
		list, wholeList := roomyTags(s.Tags)
		s.Tags = list
		wasList := slices.Clone(wholeList)
		b, e := span.Append(head, s)
		fine(t, "Append", e)
		spoil(b, 0x55)
		if !bytes.Equal(whole, was) || !slices.Equal(wholeList, wasList) {
			t.Errorf("Append behind %q shares memory with what was handed in, or changed it", ahead)
		}
		if _, e := span.Append(head, api.Span{}); e != api.ErrArg || !bytes.Equal(whole, was) {
			t.Errorf("Append that is refused changed what was handed in: %d", e)
		}
	}
	ahead := []byte("ahead")
	first, e := span.Append(ahead, some())
	second, f := span.Append(ahead, some())
	fine(t, "Append", e, f)
	spoil(first, 0x55)
	if !bytes.Equal(second, joined([]byte("ahead"), fieldsOf().bytes())) {
		t.Error("two answers share memory")
	}
	spoil(ahead, 0)
	if !bytes.HasPrefix(second, []byte("ahead")) {
		t.Error("an answer shares memory with what was handed in")
	}
}

func TestParseKeepsNothing(t *testing.T) {
	head, whole := roomy(fieldsOf().bytes())
	was := bytes.Clone(whole)
	s, e := span.Parse(head)
	fine(t, "Parse", e)
	other, e := span.Parse(head)
	fine(t, "Parse", e)
	if !bytes.Equal(whole, was) {
		t.Error("Parse changed what was handed in")
	}
	spoil(whole, 0)
	if told(s) != told(some()) {
		t.Errorf("Parse keeps what was handed in: %s", told(s))
	}
	spoil(s.Tags, api.Tag{Key: "spoilt"})
	if told(other) != told(some()) {
		t.Errorf("two answers share memory: %s", told(other))
	}
}

func TestCopyIsNewMemory(t *testing.T) {
	for _, l := range [][]api.Tag{nil, {}, tags("a", "x"), rising(16)} {
		s := some()
		list, whole := roomyTags(l)
		s.Tags = list
		was := slices.Clone(whole)
		c := span.Copy(s)
		want := told(s)
		spoil(c.Tags, api.Tag{Key: "spoilt"})
		_ = append(c.Tags, api.Tag{Key: "behind"})
		if !slices.Equal(whole, was) {
			t.Errorf("Copy of %s shares memory with it", want)
		}
		c = span.Copy(s)
		spoil(whole, api.Tag{Key: "spoilt"})
		if told(c) != want {
			t.Errorf("Copy keeps what was handed in: %s, want %s", told(c), want)
		}
	}
}

func TestOrderIsNewMemory(t *testing.T) {
	whole := append(row(), row()...)
	slices.Reverse(whole)
	shared, _ := roomyTags(tags("a", "x"))
	for i := range whole {
		if i%2 == 0 {
			whole[i].Tags = shared
		}
	}
	l := whole[:9]
	was := toldAll(whole)
	want := toldAll(span.Order(l))
	got := span.Order(l)
	if toldAll(whole) != was {
		t.Error("Order changed what was handed in")
	}
	for i := range got {
		spoil(got[i].Tags, api.Tag{Key: fmt.Sprint(i)})
	}
	for i := range got {
		for _, g := range got[i].Tags {
			if g.Key != fmt.Sprint(i) {
				t.Error("two lists of one answer share memory")
			}
		}
	}
	spoil(got, api.Span{Service: "spoilt"})
	if toldAll(whole) != was {
		t.Error("Order shares memory with what was handed in")
	}
	got = span.Order(l)
	for i := range whole {
		spoil(whole[i].Tags, api.Tag{Key: "spoilt"})
	}
	spoil(whole, api.Span{Service: "spoilt"})
	if toldAll(got) != want {
		t.Error("Order keeps what was handed in")
	}
}

// What is only looked at stays as it was.
func TestNothingIsChanged(t *testing.T) {
	s := with(func(s *api.Span) { s.Tags = tags("b", "1", "a", "2", "b", "3") })
	other := with(func(s *api.Span) { s.Tags = tags("b", "1", "a", "1") })
	was, wasOther := told(s), told(other)
	span.Check(s)
	span.Compare(s, other)
	span.Same(s, other)
	span.Tag(s, "a")
	span.Copy(s)
	span.Append(nil, s)
	if told(s) != was || told(other) != wasOther {
		t.Errorf("changed: %s and %s", told(s), told(other))
	}
}

// The chapter's examples

func TestExamples(t *testing.T) {
	text := "0000000000000001" + "00000000000000ff"
	if got := span.TraceText(trace(1, 255)); got != text {
		t.Errorf("TraceText: %q", got)
	}
	for _, c := range []struct {
		s    string
		want api.Trace
		e    api.Errno
	}{
		{"00000000000000000000000000000000", api.Trace{}, api.ErrArg},
		{text[1:], api.Trace{}, api.ErrArg},
		{text, trace(1, 255), api.OK},
	} {
		if got, e := span.ParseTrace(c.s); got != c.want || e != c.e {
			t.Errorf("ParseTrace of %q: %v, %d", c.s, got, e)
		}
	}
	refused(t, "without a Service", span.Check(with(func(s *api.Span) { s.Service = "" })), api.ErrArg)
	refused(t, "with tags b, a", span.Check(with(func(s *api.Span) { s.Tags = tags("b", "", "a", "") })), api.ErrArg)
	refused(t, "with a Name of 129 bytes", span.Check(with(func(s *api.Span) { s.Name = long(129) })), api.ErrLong)
}

func ExampleAppend() {
	s := api.Span{Trace: api.Trace{Hi: 1, Lo: 255}, ID: 7, Service: "shop", Name: "buy", Start: 1000, Length: 20}
	b, err := span.Append(nil, s)
	back, err2 := span.Parse(b)
	fmt.Println(len(b), err, span.Same(s, back), err2)
	fmt.Println(span.TraceText(back.Trace), span.IDText(back.ID))
	// Output:
	// 47 0 true 0
	// 000000000000000100000000000000ff 0000000000000007
}
