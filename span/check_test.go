package span_test

import (
	"testing"

	"bootprint/api"
	"bootprint/span"
)

// P17.1: Text, Check

// textCases are texts, and whether they are such: each is tried in all places
// where a text stands.
func textCases() []struct {
	s    string
	text bool
} {
	type c = struct {
		s    string
		text bool
	}
	l := []c{
		{"", true},
		{"a", true},
		{"GET /cart?id=7", true},
		{" ", true},
		{"~", true},
		{"\x1f", false},
		{"\x7f", false},
		{"\x00", false},
		{"\xff", false},
		{"\n", false},
		{"\u00e9", false},
		{"a\x1f", false},
		{"\x7fa", false},
		{"a\xffa", false},
		{long(127), true},
		{long(128), true},
		{long(127) + " ", true},
		{long(127) + "\x1f", false},
		{"\x7f" + long(127), false},
		{long(129), false},
		{long(128) + "\x1f", false},
		{long(1 << 16), false},
	}
	for i := range 256 {
		l = append(l, c{string([]byte{byte(i)}), 32 <= i && i <= 126})
	}
	return l
}

func TestText(t *testing.T) {
	for _, c := range textCases() {
		if got := span.Text(c.s); got != c.text {
			t.Errorf("Text of %.20q (%d bytes): %v", c.s, len(c.s), got)
		}
	}
}

func TestTextsOfSpans(t *testing.T) {
	places := []struct {
		name  string
		empty bool // it may have no byte
		put   func(s *api.Span, x string)
	}{
		{"Service", false, func(s *api.Span, x string) { s.Service = x }},
		{"Name", false, func(s *api.Span, x string) { s.Name = x }},
		{"the only Key", false, func(s *api.Span, x string) { s.Tags = tags(x, "v") }},
		{"the only Value", true, func(s *api.Span, x string) { s.Tags = tags("k", x) }},
		{"the last Value", true, func(s *api.Span, x string) { s.Tags = tags("k", "v", "l", x) }},
	}
	for _, p := range places {
		for _, c := range textCases() {
			want := api.OK
			switch {
			case len(c.s) > 128:
				want = api.ErrLong
			case !c.text, c.s == "" && !p.empty:
				want = api.ErrArg
			}
			s := with(func(s *api.Span) { p.put(s, c.s) })
			if got := span.Check(s); got != want {
				t.Errorf("Check of a %s %.20q (%d bytes): %d, want %d", p.name, c.s, len(c.s), got, want)
			}
		}
	}
}

func TestCheck(t *testing.T) {
	for _, c := range []struct {
		what   string
		change func(s *api.Span)
		want   api.Errno
	}{
		{"some", func(s *api.Span) {}, api.OK},
		{"the Trace 0 and 0", func(s *api.Span) { s.Trace = trace(0, 0) }, api.ErrArg},
		{"the Trace 0 and 1", func(s *api.Span) { s.Trace = trace(0, 1) }, api.OK},
		{"the Trace 1 and 0", func(s *api.Span) { s.Trace = trace(1, 0) }, api.OK},
		{"the greatest Trace", func(s *api.Span) { s.Trace = trace(greatest, greatest) }, api.OK},
		{"the ID 0", func(s *api.Span) { s.ID = 0 }, api.ErrArg},
		{"the ID 1", func(s *api.Span) { s.ID = 1 }, api.OK},
		{"the greatest ID", func(s *api.Span) { s.ID = greatest }, api.OK},
		{"the Parent 0", func(s *api.Span) { s.Parent = 0 }, api.OK},
		{"the greatest Parent", func(s *api.Span) { s.Parent = greatest }, api.OK},
		{"itself as its Parent", func(s *api.Span) { s.Parent = s.ID }, api.OK},
		{"the least Kind that there is", func(s *api.Span) { s.Kind = leastInt }, api.ErrArg},
		{"the Kind -1", func(s *api.Span) { s.Kind = -1 }, api.ErrArg},
		{"the Kind 0", func(s *api.Span) { s.Kind = 0 }, api.OK},
		{"the Kind 5", func(s *api.Span) { s.Kind = 5 }, api.OK},
		{"the Kind 6", func(s *api.Span) { s.Kind = 6 }, api.ErrArg},
		{"the Kind 256", func(s *api.Span) { s.Kind = 256 }, api.ErrArg},
		{"the greatest Kind that there is", func(s *api.Span) { s.Kind = greatestInt }, api.ErrArg},
		{"Fails false", func(s *api.Span) { s.Fails = false }, api.OK},
	} {
		refused(t, c.what, span.Check(with(c.change)), c.want)
	}
}

func TestTimes(t *testing.T) {
	for _, c := range []struct {
		start, length int64
		want          api.Errno
	}{
		{0, 0, api.OK},
		{-1, 0, api.ErrArg},
		{0, -1, api.ErrArg},
		{-1, 1, api.ErrArg},
		{1, -1, api.ErrArg},
		{-1, -1, api.ErrArg},
		{leastInt, 0, api.ErrArg},
		{0, leastInt, api.ErrArg},
		{leastInt, leastInt, api.ErrArg},
		{leastInt, greatestInt, api.ErrArg},
		{greatestInt, leastInt, api.ErrArg},
		{maxTime, 0, api.OK},
		{0, maxTime, api.OK},
		{1, maxTime - 1, api.OK},
		{maxTime - 1, 1, api.OK},
		{1 << 61, 1<<61 - 1, api.OK},
		{1 << 61, 1 << 61, api.ErrArg},
		{maxTime + 1, 0, api.ErrArg},
		{0, maxTime + 1, api.ErrArg},
		{1, maxTime, api.ErrArg},
		{maxTime, 1, api.ErrArg},
		{maxTime, maxTime, api.ErrArg},
		{maxTime + 1, -1, api.ErrArg},
		{greatestInt, 0, api.ErrArg},
		{0, greatestInt, api.ErrArg},
		{greatestInt, 1, api.ErrArg},
		{1, greatestInt, api.ErrArg},
		{greatestInt, greatestInt, api.ErrArg},
	} {
		got := span.Check(with(func(s *api.Span) { s.Start, s.Length = c.start, c.length }))
		if got != c.want {
			t.Errorf("Check of a Start %d and a Length %d: %d, want %d", c.start, c.length, got, c.want)
		}
	}
}

func TestTags(t *testing.T) {
	for _, c := range []struct {
		what string
		l    []api.Tag
		want api.Errno
	}{
		{"no Tags", nil, api.OK},
		{"an empty list of Tags", []api.Tag{}, api.OK},
		{"one", tags("a", "x"), api.OK},
		{"Keys that rise", tags("a", "x", "b", "x"), api.OK},
		{"a Key that goes on", tags("a", "x", "aa", "x"), api.OK},
		{"Keys that rise by their bytes alone", tags("B", "x", "a", "x"), api.OK},
		{"the same Values", tags("a", "x", "b", "x", "c", "x"), api.OK},
		{"Values that fall", tags("a", "z", "b", "y"), api.OK},
		{"equal Keys", tags("a", "x", "a", "y"), api.ErrArg},
		{"equal tags", tags("a", "x", "a", "x"), api.ErrArg},
		{"Keys that fall", tags("b", "x", "a", "x"), api.ErrArg},
		{"Keys that fall at last", tags("a", "x", "c", "x", "b", "x"), api.ErrArg},
		{"a Key that is there twice, not side by side", tags("a", "x", "b", "x", "a", "x"), api.ErrArg},
		{"a Key's first part behind it", tags("aa", "x", "a", "x"), api.ErrArg},
		{"a Key of no byte", tags("", "x"), api.ErrArg},
		{"a Key of no byte ahead of another one", tags("", "x", "a", "y"), api.ErrArg},
		{"Values of no byte", tags("a", "", "b", ""), api.OK},
		{"15", rising(15), api.OK},
		{"16", rising(16), api.OK},
		{"17", rising(17), api.ErrLong},
		{"1000", rising(1000), api.ErrLong},
	} {
		refused(t, c.what, span.Check(with(func(s *api.Span) { s.Tags = c.l })), c.want)
	}
}

// What is too long is told ahead of all else, wherever it stands.
func TestSeveralFaults(t *testing.T) {
	wrong := []func(s *api.Span){
		func(s *api.Span) { s.Trace = trace(0, 0) },
		func(s *api.Span) { s.ID = 0 },
		func(s *api.Span) { s.Service = "" },
		func(s *api.Span) { s.Name = "\x7f" },
		func(s *api.Span) { s.Kind = -1 },
		func(s *api.Span) { s.Start = -1 },
		func(s *api.Span) { s.Length = greatestInt },
		func(s *api.Span) { s.Tags = tags("b", "x", "a", "x") },
	}
	tooLong := []func(s *api.Span){
		func(s *api.Span) { s.Service = long(129) },
		func(s *api.Span) { s.Name = long(129) },
		func(s *api.Span) { s.Tags = append(s.Tags, tags(long(129), "")...) },
		func(s *api.Span) { s.Tags = append(s.Tags, tags("", long(129))...) },
		func(s *api.Span) { s.Tags = append(s.Tags, make([]api.Tag, 17)...) },
		func(s *api.Span) { s.Service = "\x00" + long(128) },
	}
	for i, w := range wrong {
		refused(t, "one fault", span.Check(with(w)), api.ErrArg)
		for j, l := range tooLong {
			got := span.Check(with(func(s *api.Span) { w(s); l(s) }))
			if got != api.ErrLong {
				t.Errorf("the fault %d, and %d that is too long: %d", i, j, got)
			}
		}
		for _, also := range wrong[:i] {
			refused(t, "two faults", span.Check(with(func(s *api.Span) { also(s); w(s) })), api.ErrArg)
		}
	}
	refused(t, "a span without anything", span.Check(api.Span{}), api.ErrArg)
}
