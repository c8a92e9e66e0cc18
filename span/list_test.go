package span_test

import (
	"testing"

	"bootprint/api"
	"bootprint/span"
)

// P17.3: Order, Tag, Copy

// row is a row of spans in order, each of them behind the one ahead by another
// field.
func row() []api.Span {
	return []api.Span{
		with(func(s *api.Span) { s.Trace.Hi = 0 }),
		with(func(s *api.Span) { s.Trace.Lo = 0 }),
		with(func(s *api.Span) { s.ID = 1 }),
		with(func(s *api.Span) { s.Fails = false }),
		some(),
		with(func(s *api.Span) { s.Tags = tags("city", "Ulm", "zip", "1") }),
		with(func(s *api.Span) { s.Start = maxTime }),
	}
}

// permuted calls with every order of l's spans.
func permuted(l []api.Span, n int, call func()) {
	if n == len(l) {
		call()
		return
	}
	for i := n; i < len(l); i++ {
		l[n], l[i] = l[i], l[n]
		permuted(l, n+1, call)
		l[n], l[i] = l[i], l[n]
	}
}

func TestOrder(t *testing.T) {
	want := toldAll(row())
	l := row()
	permuted(l, 0, func() {
		if got := toldAll(span.Order(l)); got != want {
			t.Fatalf("Order of\n%s\n:\n%s", toldAll(l), got)
		}
	})
}

func TestOrderOfFewAndOfEqualOnes(t *testing.T) {
	if l := span.Order(nil); len(l) != 0 {
		t.Errorf("Order of none: %v", l)
	}
	if l := span.Order([]api.Span{}); len(l) != 0 {
		t.Errorf("Order of an empty list: %v", l)
	}
	if l := span.Order([]api.Span{some()}); toldAll(l) != told(some()) {
		t.Errorf("Order of one: %s", toldAll(l))
	}
	none := with(func(s *api.Span) { s.Tags = nil })
	l := []api.Span{some(), none, some(), none, some()}
	want := toldAll([]api.Span{none, none, some(), some(), some()})
	if got := toldAll(span.Order(l)); got != want {
		t.Errorf("Order of equal ones:\n%s, want\n%s", got, want)
	}
}

// What may not be has its place as well.
func TestOrderOfWhatMayNotBe(t *testing.T) {
	l := []api.Span{some(), {}, {Start: -1}, {Start: leastInt}, {Tags: rising(20)}, {Tags: rising(19)}, {Kind: -1}}
	want := []api.Span{{Start: leastInt}, {Start: -1}, {Kind: -1}, {}, {Tags: rising(19)}, {Tags: rising(20)}, some()}
	if got := toldAll(span.Order(l)); got != toldAll(want) {
		t.Errorf("Order:\n%s, want\n%s", got, toldAll(want))
	}
}

func TestOrderOfMany(t *testing.T) {
	r := rng(3, 4)
	l := make([]api.Span, 5000)
	for i := range l {
		l[i] = drawnSpan(r)
	}
	got := span.Order(l)
	if len(got) != len(l) {
		t.Fatalf("of %d spans %d are left", len(l), len(got))
	}
	for i := 1; i < len(got); i++ {
		if plainCompare(got[i-1], got[i]) > 0 {
			t.Fatalf("%s stands ahead of %s", told(got[i-1]), told(got[i]))
		}
	}
}

func TestTag(t *testing.T) {
	for _, c := range []struct {
		what string
		l    []api.Tag
		key  string
		want string
		ok   bool
	}{
		{"the first", tags("a", "x", "b", "y"), "a", "x", true},
		{"the last", tags("a", "x", "b", "y"), "b", "y", true},
		{"without a Value", tags("a", "x", "b", ""), "b", "", true},
		{"not there", tags("a", "x", "b", "y"), "c", "", false},
		{"a first part of a Key", tags("ab", "x"), "a", "", false},
		{"a Key's first part", tags("a", "x"), "ab", "", false},
		{"a Value", tags("a", "x"), "x", "", false},
		{"in capital letters", tags("a", "x"), "A", "", false},
		{"twice", tags("a", "x", "a", "y"), "a", "x", true},
		{"twice, not side by side", tags("b", "1", "a", "x", "c", "2", "a", ""), "a", "x", true},
		{"twice, the first without a Value", tags("a", "", "a", "y"), "a", "", true},
		{"among Keys that fall", tags("c", "1", "b", "2", "a", "3"), "a", "3", true},
		{"no bytes, not there", tags("a", "x"), "", "", false},
		{"no bytes, there", tags("a", "x", "", "y"), "", "y", true},
		{"no tags", nil, "a", "", false},
		{"no tags, no bytes", []api.Tag{}, "", "", false},
		{"the 16th", rising(16), "k15", "15", true},
		{"the 40th", rising(40), "k39", "39", true},
	} {
		v, ok := span.Tag(with(func(s *api.Span) { s.Tags = c.l }), c.key)
		if v != c.want || ok != c.ok {
			t.Errorf("%s: %q, %v, want %q, %v", c.what, v, ok, c.want, c.ok)
		}
	}
}

func TestCopy(t *testing.T) {
	for _, s := range []api.Span{
		some(),
		{},
		with(func(s *api.Span) { s.Tags = nil }),
		with(func(s *api.Span) { s.Tags = []api.Tag{} }),
		with(func(s *api.Span) { s.Tags = rising(16) }),
		with(func(s *api.Span) { s.Tags = rising(100) }),
		with(func(s *api.Span) { s.Service, s.Kind, s.Start = "\xff", -1, leastInt }),
	} {
		if c := span.Copy(s); told(c) != told(s) || !span.Same(c, s) {
			t.Errorf("Copy of %s: %s", told(s), told(c))
		}
	}
}
