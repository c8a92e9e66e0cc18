package span_test

import (
	"testing"

	"bootprint/api"
	"bootprint/span"
)

// P17.1: Compare, Same

// steps are changes of each field, in the order of spans, such that what is
// changed stands behind some.
func steps() []struct {
	field string
	up    func(s *api.Span)
	down  func(s *api.Span)
} {
	return []struct {
		field string
		up    func(s *api.Span)
		down  func(s *api.Span)
	}{
		{"Hi", func(s *api.Span) { s.Trace.Hi = 1 << 63 }, func(s *api.Span) { s.Trace.Hi = 0 }},
		{"Lo", func(s *api.Span) { s.Trace.Lo = greatest }, func(s *api.Span) { s.Trace.Lo = 254 }},
		{"ID", func(s *api.Span) { s.ID = 1 << 63 }, func(s *api.Span) { s.ID = 6 }},
		{"Parent", func(s *api.Span) { s.Parent = greatest }, func(s *api.Span) { s.Parent = 0 }},
		{"Start", func(s *api.Span) { s.Start = maxTime }, func(s *api.Span) { s.Start = -1 }},
		{"Length", func(s *api.Span) { s.Length = greatestInt }, func(s *api.Span) { s.Length = leastInt }},
		{"Service", func(s *api.Span) { s.Service = "shops" }, func(s *api.Span) { s.Service = "sho" }},
		{"Name", func(s *api.Span) { s.Name = "c" }, func(s *api.Span) { s.Name = "" }},
		{"Kind", func(s *api.Span) { s.Kind = 300 }, func(s *api.Span) { s.Kind = -7 }},
		{"Fails", nil, func(s *api.Span) { s.Fails = false }},
		{"the first Key",
			func(s *api.Span) { s.Tags = tags("citz", "Ulm", "zip", "") },
			func(s *api.Span) { s.Tags = tags("cit", "Ulm", "zip", "") }},
		{"the first Value",
			func(s *api.Span) { s.Tags = tags("city", "Ulm ", "zip", "") },
			func(s *api.Span) { s.Tags = tags("city", "", "zip", "") }},
		{"the last Key",
			func(s *api.Span) { s.Tags = tags("city", "Ulm", "zips", "") },
			func(s *api.Span) { s.Tags = tags("city", "Ulm", "", "") }},
		{"the last Value",
			func(s *api.Span) { s.Tags = tags("city", "Ulm", "zip", "\x00") }, nil},
		{"how many Tags there are",
			func(s *api.Span) { s.Tags = tags("city", "Ulm", "zip", "", "", "") },
			func(s *api.Span) { s.Tags = tags("city", "Ulm") }},
	}
}

// compares fails unless Compare tells want both ways round, and Same goes along
// with it.
func compares(t *testing.T, what string, a, b api.Span, want int) {
	t.Helper()
	if got := span.Compare(a, b); got != want {
		t.Errorf("%s: Compare %d, want %d", what, got, want)
	}
	if got := span.Compare(b, a); got != -want {
		t.Errorf("%s: Compare the other way round %d, want %d", what, got, -want)
	}
	if span.Same(a, b) != (want == 0) || span.Same(b, a) != (want == 0) {
		t.Errorf("%s: Same %v and %v", what, span.Same(a, b), span.Same(b, a))
	}
}

func TestEachFieldAlone(t *testing.T) {
	compares(t, "the same", some(), some(), 0)
	for _, c := range steps() {
		if c.up != nil {
			compares(t, c.field+" up", some(), with(c.up), -1)
		}
		if c.down != nil {
			compares(t, c.field+" down", some(), with(c.down), 1)
		}
	}
}

// Of two fields that speak against each other the one ahead counts. (Fields of
// Tags overwrite each other, and are left out.)
func TestTwoFieldsAgainstEachOther(t *testing.T) {
	l := steps()
	for i, a := range l[:11] {
		for _, b := range l[i+1:] {
			if a.field == "the first Key" {
				continue
			}
			if a.up != nil && b.down != nil {
				compares(t, a.field+" up, "+b.field+" down", some(), with(func(s *api.Span) { a.up(s); b.down(s) }), -1)
			}
			if a.down != nil && b.up != nil {
				compares(t, a.field+" down, "+b.field+" up", some(), with(func(s *api.Span) { a.down(s); b.up(s) }), 1)
			}
		}
	}
}

func TestTagsAgainstEachOther(t *testing.T) {
	for _, c := range []struct {
		a, b []api.Tag
		want int
	}{
		{nil, nil, 0},
		{nil, []api.Tag{}, 0},
		{nil, tags("a", "x"), -1},
		{nil, tags("", ""), -1},
		{[]api.Tag{}, tags("", ""), -1},
		{tags("a", "x"), tags("a", "x", "b", "y"), -1},
		{tags("a", "x"), tags("a", "x", "", ""), -1},
		{tags("a", "x"), tags("a", "y"), -1},
		{tags("a", "x", "z", "z"), tags("a", "y"), -1},
		{tags("a", "z"), tags("b", "a"), -1},
		{tags("a", "z", "z", "z"), tags("b", "a"), -1},
		{tags("a", "x", "b", "z"), tags("a", "x", "c", "a"), -1},
		{tags("a", "x", "c", "a"), tags("a", "y", "b", "a"), -1},
		{tags("a", "bc"), tags("ab", "c"), -1},
		{tags("B", ""), tags("a", ""), -1},
		{tags("a", "~"), tags("a", "\xff"), -1},
		{tags("a", "x", "b", "y"), tags("b", "y", "a", "x"), -1},
		{tags("b", "y", "a", "x"), tags("b", "y", "a", "x"), 0},
		{rising(16), rising(17), -1},
		{rising(40), rising(40), 0},
	} {
		a := with(func(s *api.Span) { s.Tags = c.a })
		b := with(func(s *api.Span) { s.Tags = c.b })
		compares(t, told(a)+" and "+told(b), a, b, c.want)
	}
}

// Numbers of spans that may not be are compared as they are, with their signs.
func TestSpansThatMayNotBe(t *testing.T) {
	compares(t, "no fields", api.Span{}, api.Span{}, 0)
	compares(t, "none and some", api.Span{}, some(), -1)
	compares(t, "no Tags and an empty list", api.Span{}, api.Span{Tags: []api.Tag{}}, 0)
	for _, c := range []struct {
		what string
		a, b func(s *api.Span)
	}{
		{"Start", func(s *api.Span) { s.Start = leastInt }, func(s *api.Span) { s.Start = greatestInt }},
		{"Length", func(s *api.Span) { s.Length = leastInt }, func(s *api.Span) { s.Length = greatestInt }},
		{"Kind", func(s *api.Span) { s.Kind = leastInt }, func(s *api.Span) { s.Kind = greatestInt }},
		{"Hi", func(s *api.Span) { s.Trace.Hi = 0 }, func(s *api.Span) { s.Trace.Hi = greatest }},
		{"Lo", func(s *api.Span) { s.Trace.Lo = 0 }, func(s *api.Span) { s.Trace.Lo = greatest }},
		{"ID", func(s *api.Span) { s.ID = 0 }, func(s *api.Span) { s.ID = greatest }},
		{"Parent", func(s *api.Span) { s.Parent = 1<<63 - 1 }, func(s *api.Span) { s.Parent = 1 << 63 }},
		{"Service", func(s *api.Span) { s.Service = "\x00" }, func(s *api.Span) { s.Service = "\xff" }},
		{"Service, long", func(s *api.Span) { s.Service = long(1000) }, func(s *api.Span) { s.Service = long(1001) }},
		{"Name", func(s *api.Span) { s.Name = "\x7f" }, func(s *api.Span) { s.Name = "\x80" }},
	} {
		compares(t, c.what, with(c.a), with(c.b), -1)
	}
}
