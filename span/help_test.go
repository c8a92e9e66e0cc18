package span_test

import (
	"encoding/binary"
	"fmt"
	"math/rand/v2"
	"slices"
	"strings"
	"testing"

	"bootprint/api"
	"bootprint/span"
)

const (
	maxTime     = 1<<62 - 1
	greatest    = 1<<64 - 1
	greatestInt = 1<<63 - 1
	leastInt    = -1 << 63
)

// What is handed in

func trace(hi, lo uint64) api.Trace { return api.Trace{Hi: hi, Lo: lo} }

// tags answers tags of keys and values that are handed in one behind another.
func tags(texts ...string) []api.Tag {
	var l []api.Tag
	for i := 0; i < len(texts); i += 2 {
		l = append(l, api.Tag{Key: texts[i], Value: texts[i+1]})
	}
	return l
}

// rising answers n tags whose Keys rise.
func rising(n int) []api.Tag {
	var l []api.Tag
	for i := range n {
		l = append(l, api.Tag{Key: fmt.Sprintf("k%02d", i), Value: fmt.Sprint(i)})
	}
	return l
}

// some is a span that has all fields.
func some() api.Span {
	return api.Span{
		Trace: trace(1, 255), ID: 7, Parent: 3, Service: "shop", Name: "buy", Kind: 2,
		Start: 1000, Length: 20, Fails: true, Tags: tags("city", "Ulm", "zip", ""),
	}
}

// with answers some, changed.
func with(change func(s *api.Span)) api.Span {
	s := some()
	change(&s)
	return s
}

// long answers a text of n bytes.
func long(n int) string { return strings.Repeat("x", n) }

// Bytes by hand

func eight(x uint64) []byte { return binary.BigEndian.AppendUint64(nil, x) }

func short(x uint64) []byte { return binary.AppendUvarint(nil, x) }

func piece(s string) []byte { return append(short(uint64(len(s))), s...) }

func joined(parts ...[]byte) []byte { return slices.Concat(parts...) }

// fields are a span's bytes, field by field, so that each may be another one.
type fields struct {
	numbers, service, name, kind, start, length, fails, count, tags []byte
}

// fieldsOf answers some's.
func fieldsOf() fields {
	return fields{
		numbers: joined(eight(1), eight(255), eight(7), eight(3)),
		service: piece("shop"),
		name:    piece("buy"),
		kind:    []byte{2},
		start:   short(1000),
		length:  short(20),
		fails:   []byte{1},
		count:   short(2),
		tags:    joined(piece("city"), piece("Ulm"), piece("zip"), piece("")),
	}
}

func (f fields) bytes() []byte {
	return joined(f.numbers, f.service, f.name, f.kind, f.start, f.length, f.fails, f.count, f.tags)
}

// bytesWith answers some's bytes, changed.
func bytesWith(change func(f *fields)) []byte {
	f := fieldsOf()
	change(&f)
	return f.bytes()
}

// What is answered, as texts, so that it is compared whole

func told(s api.Span) string {
	var b strings.Builder
	fmt.Fprintf(&b, "%d %d, %d of %d: %q %q %d, %d for %d, %v", s.Trace.Hi, s.Trace.Lo, s.ID, s.Parent,
		s.Service, s.Name, s.Kind, s.Start, s.Length, s.Fails)
	for _, t := range s.Tags {
		fmt.Fprintf(&b, ", %q=%q", t.Key, t.Value)
	}
	return b.String()
}

func toldAll(l []api.Span) string {
	var lines []string
	for _, s := range l {
		lines = append(lines, told(s))
	}
	return strings.Join(lines, "\n")
}

// What the package tells

// fine fails unless all errors are OK.
func fine(t *testing.T, what string, errs ...api.Errno) {
	t.Helper()
	for _, e := range errs {
		if e != api.OK {
			t.Fatalf("%s: %d, want OK", what, e)
		}
	}
}

// refused fails unless e is the error that is wanted.
func refused(t *testing.T, what string, e, want api.Errno) {
	t.Helper()
	if e != want {
		t.Errorf("%s: %d, want %d", what, e, want)
	}
}

// parses fails unless b is read as the span that is wanted.
func parses(t *testing.T, what string, b []byte, want api.Span) {
	t.Helper()
	s, e := span.Parse(b)
	fine(t, what, e)
	if told(s) != told(want) {
		t.Errorf("%s:\n%s, want\n%s", what, told(s), told(want))
	}
}

// parsesNot fails unless b is refused with that error, and nothing is told.
func parsesNot(t *testing.T, what string, b []byte, want api.Errno) {
	t.Helper()
	s, e := span.Parse(b)
	refused(t, what, e, want)
	if e != api.OK && (told(s) != told(api.Span{}) || s.Tags != nil) {
		t.Errorf("%s: told with an error: %s", what, told(s))
	}
}

// appends fails unless Append answers what is wanted behind each of some
// beginnings, or the error, and Check that error too.
func appends(t *testing.T, what string, s api.Span, want []byte, wantErr api.Errno) {
	t.Helper()
	refused(t, what+": Check", span.Check(s), wantErr)
	for _, ahead := range []string{"", "\x00", "ahead"} {
		b, e := span.Append([]byte(ahead), s)
		refused(t, what+": Append", e, wantErr)
		if e != api.OK {
			if b != nil {
				t.Errorf("%s: told with an error: %v", what, b)
			}
			continue
		}
		if string(b) != ahead+string(want) {
			t.Errorf("%s: Append behind %q:\n%v, want\n%v", what, ahead, b, want)
		}
	}
}

// Drawn ones

func rng(seed, n uint64) *rand.Rand { return rand.New(rand.NewPCG(seed, n)) }

func pick[T any](r *rand.Rand, l ...T) T { return l[r.IntN(len(l))] }

// drawnText answers a text of few kinds, so that equal ones are often drawn.
func drawnText(r *rand.Rand) string {
	return pick(r, "", "a", "b", "ab", " ", "~", "shop", long(127), long(128))
}

// drawnSpan answers a span that may be. Fields are drawn from few values, so
// that spans are often the same but for one.
func drawnSpan(r *rand.Rand) api.Span {
	s := api.Span{
		Trace:   pick(r, trace(0, 1), trace(1, 0), trace(1, 1), trace(greatest, greatest)),
		ID:      pick[uint64](r, 1, 2, 1<<63, greatest),
		Parent:  pick[uint64](r, 0, 1, 2, greatest),
		Service: pick(r, "a", "b", "ab", long(128)),
		Name:    pick(r, "x", "y", "~", " ", long(128)),
		Kind:    r.IntN(6),
		Start:   pick[int64](r, 0, 1, 127, 128, 1<<40, maxTime),
		Length:  pick[int64](r, 0, 1, 300),
		Fails:   r.IntN(2) == 1,
	}
	if s.Start == maxTime {
		s.Length = 0
	}
	keys := []string{" ", "a", "aa", "b", "k", "l", "zip", "~", long(128)}
	for _, k := range keys {
		if r.IntN(4) == 0 {
			s.Tags = append(s.Tags, api.Tag{Key: k, Value: drawnText(r)})
		}
	}
	slices.SortFunc(s.Tags, func(a, b api.Tag) int { return strings.Compare(a.Key, b.Key) })
	return s
}

// faults are changes by which most spans may not be.
func faults() []func(r *rand.Rand, s *api.Span) {
	bad := func(r *rand.Rand) string {
		return pick(r, "", "\x1f", "\x7f", "a\xff", "\u00e9", long(128)+"x", long(128)+"\n", long(1000))
	}
	return []func(r *rand.Rand, s *api.Span){
		func(_ *rand.Rand, s *api.Span) { s.Trace = trace(0, 0) },
		func(_ *rand.Rand, s *api.Span) { s.ID = 0 },
		func(r *rand.Rand, s *api.Span) { s.Service = bad(r) },
		func(r *rand.Rand, s *api.Span) { s.Name = bad(r) },
		func(r *rand.Rand, s *api.Span) { s.Kind = pick(r, leastInt, -1, 6, 255, 256, greatestInt) },
		func(r *rand.Rand, s *api.Span) {
			s.Start = pick[int64](r, leastInt, -1, maxTime, maxTime+1, greatestInt)
		},
		func(r *rand.Rand, s *api.Span) {
			s.Length = pick[int64](r, leastInt, -1, maxTime, maxTime+1, greatestInt)
		},
		func(r *rand.Rand, s *api.Span) { s.Tags = append(s.Tags, api.Tag{Key: bad(r)}) },
		func(r *rand.Rand, s *api.Span) { s.Tags = append(s.Tags, api.Tag{Key: "~~", Value: bad(r)}) },
		func(r *rand.Rand, s *api.Span) { s.Tags = append(s.Tags, s.Tags...) },
		func(r *rand.Rand, s *api.Span) { slices.Reverse(s.Tags) },
		func(r *rand.Rand, s *api.Span) { s.Tags = rising(pick(r, 15, 16, 17, 18, 40)) },
	}
}

// drawnWrong answers a span that most often may not be, for one reason or more.
func drawnWrong(r *rand.Rand) api.Span {
	s := drawnSpan(r)
	l := faults()
	for range r.IntN(4) {
		pick(r, l...)(r, &s)
	}
	return s
}
