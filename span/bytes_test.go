package span_test

import (
	"bytes"
	"testing"

	"bootprint/api"
	"bootprint/span"
)

// P17.2

func TestAppend(t *testing.T) {
	appends(t, "some", some(), fieldsOf().bytes(), api.OK)
	for _, c := range []struct {
		what   string
		span   func(s *api.Span)
		fields func(f *fields)
	}{
		{"great numbers",
			func(s *api.Span) { s.Trace = trace(1<<63, greatest); s.ID, s.Parent = 0x0102030405060708, greatest },
			func(f *fields) {
				f.numbers = joined(eight(1<<63), eight(greatest), []byte{1, 2, 3, 4, 5, 6, 7, 8}, eight(greatest))
			}},
		{"no Parent, no Hi",
			func(s *api.Span) { s.Trace.Hi, s.Parent = 0, 0 },
			func(f *fields) { f.numbers = joined(eight(0), eight(255), eight(7), eight(0)) }},
		{"texts of 127 and 128 bytes",
			func(s *api.Span) { s.Service, s.Name = long(127), long(128) },
			func(f *fields) {
				f.service = append([]byte{127}, long(127)...)
				f.name = append([]byte{128, 1}, long(128)...)
			}},
		{"the Kind 0", func(s *api.Span) { s.Kind = 0 }, func(f *fields) { f.kind = []byte{0} }},
		{"the Kind 5", func(s *api.Span) { s.Kind = 5 }, func(f *fields) { f.kind = []byte{5} }},
		{"times of 0", func(s *api.Span) { s.Start, s.Length = 0, 0 }, func(f *fields) { f.start, f.length = []byte{0}, []byte{0} }},
		{"the greatest Start",
			func(s *api.Span) { s.Start, s.Length = maxTime, 0 },
			func(f *fields) { f.start, f.length = append(bytes.Repeat([]byte{255}, 8), 63), []byte{0} }},
		{"the greatest Length",
			func(s *api.Span) { s.Start, s.Length = 0, maxTime },
			func(f *fields) { f.start, f.length = []byte{0}, append(bytes.Repeat([]byte{255}, 8), 63) }},
		{"Fails false", func(s *api.Span) { s.Fails = false }, func(f *fields) { f.fails = []byte{0} }},
		{"no Tags", func(s *api.Span) { s.Tags = nil }, func(f *fields) { f.count, f.tags = []byte{0}, nil }},
		{"an empty list of Tags", func(s *api.Span) { s.Tags = []api.Tag{} }, func(f *fields) { f.count, f.tags = []byte{0}, nil }},
		{"16 Tags",
			func(s *api.Span) { s.Tags = rising(16) },
			func(f *fields) {
				f.count, f.tags = []byte{16}, nil
				for _, g := range rising(16) {
					f.tags = joined(f.tags, piece(g.Key), piece(g.Value))
				}
			}},
		{"long Keys and Values",
			func(s *api.Span) { s.Tags = tags(long(128), long(128)) },
			func(f *fields) { f.count, f.tags = []byte{1}, joined(piece(long(128)), piece(long(128))) }},
	} {
		appends(t, c.what, with(c.span), bytesWith(c.fields), api.OK)
		parses(t, c.what, bytesWith(c.fields), with(c.span))
	}
}

func TestAppendOfWhatMayNotBe(t *testing.T) {
	for _, c := range []struct {
		what   string
		change func(s *api.Span)
		want   api.Errno
	}{
		{"the Trace 0", func(s *api.Span) { s.Trace = trace(0, 0) }, api.ErrArg},
		{"the ID 0", func(s *api.Span) { s.ID = 0 }, api.ErrArg},
		{"no Service", func(s *api.Span) { s.Service = "" }, api.ErrArg},
		{"a Name with a byte 31", func(s *api.Span) { s.Name = "\x1f" }, api.ErrArg},
		{"the Kind 6", func(s *api.Span) { s.Kind = 6 }, api.ErrArg},
		{"the Kind 258", func(s *api.Span) { s.Kind = 258 }, api.ErrArg},
		{"a Start below 0", func(s *api.Span) { s.Start = -1 }, api.ErrArg},
		{"an end above MaxTime", func(s *api.Span) { s.Start, s.Length = maxTime, 1 }, api.ErrArg},
		{"Keys that fall", func(s *api.Span) { s.Tags = tags("b", "", "a", "") }, api.ErrArg},
		{"17 Tags", func(s *api.Span) { s.Tags = rising(17) }, api.ErrLong},
		{"a Name of 129 bytes", func(s *api.Span) { s.Name = long(129) }, api.ErrLong},
		{"a Value of 129 bytes, and no ID", func(s *api.Span) { s.Tags[1].Value, s.ID = long(129), 0 }, api.ErrLong},
	} {
		appends(t, c.what, with(c.change), nil, c.want)
	}
}

func TestParseOfCutBytes(t *testing.T) {
	b := fieldsOf().bytes()
	for n := range b {
		parsesNot(t, "cut bytes", b[:n], api.ErrMore)
		parsesNot(t, "cut bytes with the rest as room", append(b[:n:n], b[n:]...)[:n], api.ErrMore)
	}
	parsesNot(t, "no bytes", nil, api.ErrMore)
	for _, more := range [][]byte{{0}, {1}, {255}, piece("a"), b} {
		parsesNot(t, "bytes that go on", joined(b, more), api.ErrBad)
	}
}

// What is read whole, field by field, at the edges of each and beyond them.
func TestParseAtTheEdges(t *testing.T) {
	for _, c := range []struct {
		what   string
		change func(f *fields)
		want   api.Errno
	}{
		{"the Trace 0", func(f *fields) { f.numbers = joined(eight(0), eight(0), eight(7), eight(3)) }, api.ErrArg},
		{"the Trace 0 and 1", func(f *fields) { f.numbers = joined(eight(0), eight(1), eight(7), eight(3)) }, api.OK},
		{"the Trace 1 and 0", func(f *fields) { f.numbers = joined(eight(1), eight(0), eight(7), eight(3)) }, api.OK},
		{"the ID 0", func(f *fields) { f.numbers = joined(eight(1), eight(1), eight(0), eight(3)) }, api.ErrArg},
		{"the Parent 0", func(f *fields) { f.numbers = joined(eight(1), eight(1), eight(7), eight(0)) }, api.OK},
		{"no Service", func(f *fields) { f.service = []byte{0} }, api.ErrArg},
		{"a Service that is no text", func(f *fields) { f.service = piece("\n") }, api.ErrArg},
		{"a Service of 128 bytes", func(f *fields) { f.service = piece(long(128)) }, api.OK},
		{"a Service of 129 bytes", func(f *fields) { f.service = piece(long(129)) }, api.ErrLong},
		{"a Service of MaxPiece bytes", func(f *fields) { f.service = piece(long(1 << 20)) }, api.ErrLong},
		{"a Service of more", func(f *fields) { f.service = piece(long(1<<20 + 1)) }, api.ErrLong},
		{"a Service whose length is wrong", func(f *fields) { f.service = []byte{128, 0} }, api.ErrBad},
		{"no Name", func(f *fields) { f.name = []byte{0} }, api.ErrArg},
		{"a Name with a byte 127", func(f *fields) { f.name = piece("a\x7f") }, api.ErrArg},
		{"a Name of 128 bytes", func(f *fields) { f.name = piece(long(128)) }, api.OK},
		{"a Name of 129 bytes", func(f *fields) { f.name = piece(long(129)) }, api.ErrLong},
		{"the Kind 0", func(f *fields) { f.kind = []byte{0} }, api.OK},
		{"the Kind 5", func(f *fields) { f.kind = []byte{5} }, api.OK},
		{"the Kind 6", func(f *fields) { f.kind = []byte{6} }, api.ErrArg},
		{"the Kind 255", func(f *fields) { f.kind = []byte{255} }, api.ErrArg},
		{"the Start MaxTime", func(f *fields) { f.start, f.length = short(maxTime), short(0) }, api.OK},
		{"the Length MaxTime", func(f *fields) { f.start, f.length = short(0), short(maxTime) }, api.OK},
		{"an end above MaxTime", func(f *fields) { f.start, f.length = short(maxTime), short(1) }, api.ErrArg},
		{"both MaxTime", func(f *fields) { f.start, f.length = short(maxTime), short(maxTime) }, api.ErrArg},
		{"a Start above MaxTime", func(f *fields) { f.start = short(maxTime + 1) }, api.ErrBad},
		{"a Length above MaxTime", func(f *fields) { f.length = short(maxTime + 1) }, api.ErrBad},
		{"a Start of 2^63", func(f *fields) { f.start = short(1 << 63) }, api.ErrBad},
		{"a Length of 2^63", func(f *fields) { f.length = short(1 << 63) }, api.ErrBad},
		{"the greatest Start", func(f *fields) { f.start = short(greatest) }, api.ErrBad},
		{"the greatest Length", func(f *fields) { f.length = short(greatest) }, api.ErrBad},
		{"a Start of 65 bits", func(f *fields) { f.start = append(bytes.Repeat([]byte{255}, 9), 2) }, api.ErrBad},
		{"a Start with a needless byte", func(f *fields) { f.start = []byte{232, 135, 0} }, api.ErrBad},
		{"Fails 0", func(f *fields) { f.fails = []byte{0} }, api.OK},
		{"Fails 2", func(f *fields) { f.fails = []byte{2} }, api.ErrBad},
		{"Fails 128", func(f *fields) { f.fails = []byte{128} }, api.ErrBad},
		{"Fails 255", func(f *fields) { f.fails = []byte{255} }, api.ErrBad},
		{"a tag more", func(f *fields) { f.count = short(3) }, api.ErrMore},
		{"a tag less", func(f *fields) { f.count = short(1) }, api.ErrBad},
		{"no tags, though some stand there", func(f *fields) { f.count = short(0) }, api.ErrBad},
		{"a number of tags with a needless byte", func(f *fields) { f.count = []byte{130, 0} }, api.ErrBad},
		{"a Key of no byte", func(f *fields) { f.tags = joined(piece(""), piece(""), piece("a"), piece("")) }, api.ErrArg},
		{"equal Keys", func(f *fields) { f.tags = joined(piece("a"), piece("1"), piece("a"), piece("2")) }, api.ErrArg},
		{"Keys that fall", func(f *fields) { f.tags = joined(piece("b"), piece(""), piece("a"), piece("")) }, api.ErrArg},
		{"a Value that is no text", func(f *fields) { f.tags = joined(piece("a"), piece(""), piece("b"), piece("\xff")) }, api.ErrArg},
		{"a Value of 129 bytes", func(f *fields) { f.tags = joined(piece("a"), piece(""), piece("b"), piece(long(129))) }, api.ErrLong},
		{"a Value that is no piece", func(f *fields) { f.tags = joined(piece("a"), piece(""), piece("b"), short(1<<20+1)) }, api.ErrLong},
	} {
		b := bytesWith(c.change)
		if c.want != api.OK {
			parsesNot(t, c.what, b, c.want)
			continue
		}
		s, e := span.Parse(b)
		fine(t, c.what, e)
		if again, e := span.Append(nil, s); e != api.OK || !bytes.Equal(again, b) {
			t.Errorf("%s: %v is %s, whose bytes are %v", c.what, b, told(s), again)
		}
	}
}

func TestParseOfManyTags(t *testing.T) {
	for n := range 40 {
		var l []byte
		for _, g := range rising(n) {
			l = joined(l, piece(g.Key), piece(g.Value))
		}
		b := bytesWith(func(f *fields) { f.count, f.tags = short(uint64(n)), l })
		if n > 16 {
			parsesNot(t, "too many tags", b, api.ErrBad)
			continue
		}
		parses(t, "tags", b, with(func(s *api.Span) { s.Tags = rising(n) }))
	}
	// A number that is too great is told where it stands, and not gone by.
	for _, n := range []uint64{17, 128, 1 << 32, 1 << 63, greatest} {
		b := bytesWith(func(f *fields) { f.count = short(n) })
		parsesNot(t, "too many tags told", b, api.ErrBad)
		parsesNot(t, "too many tags told, none there", bytesWith(func(f *fields) { f.count, f.tags = short(n), nil }), api.ErrBad)
	}
}

// The reader's errors are told from the left. What Fails and the number of tags
// are is told as they are read, what Start and Length are behind the tags, what
// Check tells behind all.
func TestParseOfSeveralFaults(t *testing.T) {
	tooLong, wrong := short(1<<20+1), []byte{128, 0}
	for _, c := range []struct {
		what   string
		change func(f *fields)
		want   api.Errno
	}{
		{"a Service too long, a Name wrong", func(f *fields) { f.service, f.name = tooLong, wrong }, api.ErrLong},
		{"a Service wrong, a Name too long", func(f *fields) { f.service, f.name = wrong, tooLong }, api.ErrBad},
		{"a Service too long, and nothing behind", func(f *fields) { *f = fields{numbers: f.numbers, service: tooLong} }, api.ErrLong},
		{"a Name too long, Fails 2", func(f *fields) { f.name, f.fails = tooLong, []byte{2} }, api.ErrLong},
		{"a Name too long, a Start above MaxTime", func(f *fields) { f.name, f.start = tooLong, short(greatest) }, api.ErrLong},
		{"Fails 2, a Key too long", func(f *fields) { f.fails, f.tags = []byte{2}, tooLong }, api.ErrBad},
		{"Fails 2, and no more tags", func(f *fields) { f.fails, f.tags = []byte{2}, nil }, api.ErrBad},
		{"Fails 2, and nothing behind", func(f *fields) { f.fails, f.count, f.tags = []byte{2}, nil, nil }, api.ErrBad},
		{"17 tags, a Key too long", func(f *fields) { f.count, f.tags = short(17), tooLong }, api.ErrBad},
		{"17 tags, and none there", func(f *fields) { f.count, f.tags = short(17), nil }, api.ErrBad},
		{"a Start above MaxTime, a Key too long", func(f *fields) { f.start, f.tags = short(greatest), tooLong }, api.ErrLong},
		{"a Start above MaxTime, a Key missing", func(f *fields) { f.start, f.tags = short(greatest), nil }, api.ErrMore},
		{"a Length above MaxTime, a Key missing", func(f *fields) { f.length, f.tags = short(greatest), nil }, api.ErrMore},
		{"a Start above MaxTime, nothing behind", func(f *fields) {
			*f = fields{f.numbers, f.service, f.name, f.kind, short(greatest), nil, nil, nil, nil}
		}, api.ErrMore},
		{"a Start above MaxTime, Fails 2, a Key missing", func(f *fields) { f.start, f.fails, f.tags = short(greatest), []byte{2}, nil }, api.ErrBad},
		{"a Start above MaxTime, a Name too long for a text", func(f *fields) { f.start, f.name = short(greatest), piece(long(129)) }, api.ErrBad},
		{"Fails 2, a Name too long for a text", func(f *fields) { f.fails, f.name = []byte{2}, piece(long(129)) }, api.ErrBad},
		{"Fails 2, no Service", func(f *fields) { f.fails, f.service = []byte{2}, piece("") }, api.ErrBad},
		{"no Service, bytes left", func(f *fields) { f.service, f.tags = piece(""), append(f.tags, 0) }, api.ErrBad},
		{"a Name too long for a text, bytes left", func(f *fields) { f.name, f.tags = piece(long(129)), append(f.tags, 0) }, api.ErrBad},
		{"a Name too long for a text, bytes missing", func(f *fields) { f.name, f.tags = piece(long(129)), f.tags[:3] }, api.ErrMore},
		{"no Service, a Name too long for a text", func(f *fields) { f.service, f.name = piece(""), piece(long(129)) }, api.ErrLong},
		{"no Service, a Value too long for a text", func(f *fields) {
			f.service, f.count, f.tags = piece(""), short(1), joined(piece("a"), piece(long(129)))
		}, api.ErrLong},
	} {
		parsesNot(t, c.what, bytesWith(c.change), c.want)
	}
}
