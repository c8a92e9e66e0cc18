package span_test

import (
	"bytes"
	"slices"
	"strings"
	"testing"

	"bootprint/api"
	"bootprint/span"
)

// P17.4

func TestParseOfAppendIsTheSpan(t *testing.T) {
	r := rng(4, 1)
	for range 20000 {
		s := drawnSpan(r)
		b, e := span.Append([]byte("ahead"), s)
		fine(t, "Append", e)
		parses(t, "Parse of Append", b[5:], s)
		back, e := span.Parse(b[5:])
		if e != api.OK || !span.Same(back, s) || span.Compare(back, s) != 0 {
			t.Fatalf("%s comes back as %s", told(s), told(back))
		}
	}
}

// Nothing but what Append answers is read: what is read has those bytes.
func TestAppendOfParseIsTheBytes(t *testing.T) {
	r := rng(4, 2)
	read := 0
	for range 30000 {
		b := drawnBytes(r)
		s, e := span.Parse(b)
		if e != api.OK {
			continue
		}
		read++
		again, e := span.Append(nil, s)
		if e != api.OK || !bytes.Equal(again, b) {
			t.Fatalf("%v is read as %s, whose bytes are %v", b, told(s), again)
		}
	}
	if read < 2000 {
		t.Errorf("only %d are read", read)
	}
}

func TestNoByteMayBeMissing(t *testing.T) {
	r := rng(4, 3)
	for range 50 {
		b, e := span.Append(nil, drawnSpan(r))
		fine(t, "Append", e)
		for n := range b {
			parsesNot(t, "cut bytes", b[:n], api.ErrMore)
		}
	}
}

// few answers spans of few kinds, so that all threes of them can be gone over.
func few() []api.Span {
	var l []api.Span
	for _, s := range []api.Span{{}, {Trace: trace(0, 1)}, {Trace: trace(1, 0)}, {ID: 1, Parent: 1}, {Parent: 2}, some()} {
		for _, list := range [][]api.Tag{nil, {}, tags("", ""), tags("a", ""), tags("a", "", "b", ""), tags("a", "b"), tags("b", "")} {
			for _, fails := range []bool{false, true} {
				s.Tags, s.Fails = list, fails
				l = append(l, s)
			}
		}
	}
	return l
}

func TestCompareIsAnOrder(t *testing.T) {
	l := few()
	for _, a := range l {
		if span.Compare(a, a) != 0 {
			t.Fatalf("%s is not as itself", told(a))
		}
		for _, b := range l {
			ab := span.Compare(a, b)
			if span.Compare(b, a) != -ab {
				t.Fatalf("%s and %s: %d and %d", told(a), told(b), ab, span.Compare(b, a))
			}
			if span.Same(a, b) != (ab == 0) || (ab == 0) != (told(a) == told(b)) {
				t.Fatalf("%s and %s: %d, Same %v", told(a), told(b), ab, span.Same(a, b))
			}
			for _, c := range l {
				if ab <= 0 && span.Compare(b, c) <= 0 && span.Compare(a, c) > 0 {
					t.Fatalf("%s is not behind %s, nor that behind %s, but it is behind that", told(a), told(b), told(c))
				}
			}
		}
	}
}

func TestOrderKeepsAll(t *testing.T) {
	r := rng(4, 4)
	lines := func(l []api.Span) []string {
		s := strings.Split(toldAll(l), "\n")
		slices.Sort(s)
		return s
	}
	for range 500 {
		l := make([]api.Span, r.IntN(40))
		for i := range l {
			l[i] = drawnWrong(r)
		}
		got := span.Order(l)
		if !slices.Equal(lines(got), lines(l)) {
			t.Fatalf("Order of\n%s\nhas others:\n%s", toldAll(l), toldAll(got))
		}
		if !slices.IsSortedFunc(got, span.Compare) {
			t.Fatalf("not in order:\n%s", toldAll(got))
		}
	}
}

// Of two lists that have the same spans the same is told, also whether Tags are
// nil, in whatever order spans with none and with an empty list come.
func TestOrderTellsTheSame(t *testing.T) {
	r := rng(4, 5)
	for range 500 {
		l := make([]api.Span, 1+r.IntN(40))
		for i := range l {
			l[i] = drawnSpan(r)
			if r.IntN(2) == 0 {
				l[i] = l[r.IntN(i+1)]
			}
			if len(l[i].Tags) == 0 && r.IntN(2) == 0 {
				l[i].Tags = []api.Tag{}
			}
		}
		first := span.Order(l)
		r.Shuffle(len(l), func(i, j int) { l[i], l[j] = l[j], l[i] })
		second := span.Order(l)
		if toldAll(first) != toldAll(second) || toldAll(span.Order(first)) != toldAll(first) {
			t.Fatalf("two orders:\n%s\nand\n%s", toldAll(first), toldAll(second))
		}
		for i := range first {
			if (first[i].Tags == nil) != (second[i].Tags == nil) {
				t.Fatalf("%s: Tags nil %v and %v", told(first[i]), first[i].Tags == nil, second[i].Tags == nil)
			}
		}
	}
}

func TestTextsOfTracesAreReadAgain(t *testing.T) {
	r := rng(4, 6)
	for range 20000 {
		x := trace(r.Uint64()>>r.IntN(65), r.Uint64()>>r.IntN(64)|1)
		s := span.TraceText(x)
		if got, e := span.ParseTrace(s); got != x || e != api.OK {
			t.Fatalf("%v is %q, which is %v, %d", x, s, got, e)
		}
		if s != span.IDText(x.Hi)+span.IDText(x.Lo) {
			t.Fatalf("%v is %q", x, s)
		}
	}
}
