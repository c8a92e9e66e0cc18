package span_test

import (
	"bytes"
	"encoding/binary"
	"encoding/hex"
	"fmt"
	"math/big"
	"math/rand/v2"
	"sort"
	"strings"
	"testing"

	"bootprint/api"
	"bootprint/span"
)

// The chapter's words, written down once more, as plainly as can be.

func plainText(s string) bool {
	ok := len(s) <= 128
	for _, c := range []byte(s) {
		ok = ok && 32 <= c && c <= 126
	}
	return ok
}

func plainCheck(s api.Span) api.Errno {
	texts := []string{s.Service, s.Name}
	for _, g := range s.Tags {
		texts = append(texts, g.Key, g.Value)
	}
	for _, x := range texts {
		if len(x) > 128 {
			return api.ErrLong
		}
	}
	if len(s.Tags) > 16 {
		return api.ErrLong
	}
	ok := s.Trace.Hi != 0 || s.Trace.Lo != 0
	ok = ok && s.ID != 0 && s.Service != "" && s.Name != "" && 0 <= s.Kind && s.Kind <= 5
	ok = ok && s.Start >= 0 && s.Length >= 0
	end := new(big.Int).Add(big.NewInt(s.Start), big.NewInt(s.Length))
	ok = ok && end.Cmp(big.NewInt(maxTime)) <= 0
	for _, x := range texts {
		ok = ok && plainText(x)
	}
	ahead := ""
	for _, g := range s.Tags {
		ok = ok && g.Key > ahead // the first Key is above no bytes just if it has some
		ahead = g.Key
	}
	if !ok {
		return api.ErrArg
	}
	return api.OK
}

// plainOrder writes a span such that its text stands as the span does, byte by
// byte: numbers and bytes of texts by digits, the end of a list by a sign that
// is below them.
func plainOrder(s api.Span) string {
	var b strings.Builder
	text := func(s string) {
		for _, c := range []byte(s) {
			fmt.Fprintf(&b, "%02x", c)
		}
		b.WriteString("!")
	}
	signed := func(x int64) { fmt.Fprintf(&b, "%016x", uint64(x)+1<<63) }
	fmt.Fprintf(&b, "%016x%016x%016x%016x", s.Trace.Hi, s.Trace.Lo, s.ID, s.Parent)
	signed(s.Start)
	signed(s.Length)
	text(s.Service)
	text(s.Name)
	signed(int64(s.Kind))
	if s.Fails {
		b.WriteString("1")
	} else {
		b.WriteString("0")
	}
	for _, g := range s.Tags {
		b.WriteString("+")
		text(g.Key)
		text(g.Value)
	}
	b.WriteString("!")
	return b.String()
}

func plainCompare(a, b api.Span) int {
	return strings.Compare(plainOrder(a), plainOrder(b))
}

func plainAppend(p []byte, s api.Span) ([]byte, api.Errno) {
	if e := plainCheck(s); e != api.OK {
		return nil, e
	}
	var b bytes.Buffer
	b.Write(p)
	for _, x := range []uint64{s.Trace.Hi, s.Trace.Lo, s.ID, s.Parent} {
		binary.Write(&b, binary.BigEndian, x)
	}
	number := func(x uint64) { b.Write(binary.AppendUvarint(nil, x)) }
	text := func(s string) { number(uint64(len(s))); b.WriteString(s) }
	text(s.Service)
	text(s.Name)
	b.WriteByte(byte(s.Kind))
	number(uint64(s.Start))
	number(uint64(s.Length))
	if s.Fails {
		b.WriteByte(1)
	} else {
		b.WriteByte(0)
	}
	number(uint64(len(s.Tags)))
	for _, g := range s.Tags {
		text(g.Key)
		text(g.Value)
	}
	return b.Bytes(), api.OK
}

// fault is what stops plain reading.
type fault api.Errno

// plain is bytes that are taken off from the left.
type plain []byte

func (p *plain) take(n int) []byte {
	if len(*p) < n {
		panic(fault(api.ErrMore))
	}
	b := (*p)[:n]
	*p = (*p)[n:]
	return b
}

func (p *plain) eight() uint64 { return binary.BigEndian.Uint64(p.take(8)) }

func (p *plain) number() uint64 {
	x := new(big.Int)
	for i := 0; ; i++ {
		if i == 10 {
			panic(fault(api.ErrBad))
		}
		c := p.take(1)[0]
		x.Add(x, new(big.Int).Lsh(big.NewInt(int64(c&127)), uint(7*i)))
		if c < 128 {
			if i > 0 && c == 0 || !x.IsUint64() {
				panic(fault(api.ErrBad))
			}
			return x.Uint64()
		}
		if !x.IsUint64() {
			panic(fault(api.ErrBad))
		}
	}
}

func (p *plain) text() string {
	n := p.number()
	if n > 1<<20 {
		panic(fault(api.ErrLong))
	}
	return string(p.take(int(n)))
}

func plainParse(b []byte) (s api.Span, e api.Errno) {
	defer func() {
		if f, ok := recover().(fault); ok {
			s, e = api.Span{}, api.Errno(f)
		}
	}()
	p := plain(b)
	s.Trace.Hi, s.Trace.Lo = p.eight(), p.eight()
	s.ID, s.Parent = p.eight(), p.eight()
	s.Service, s.Name = p.text(), p.text()
	s.Kind = int(p.take(1)[0])
	start, length := p.number(), p.number()
	fails := p.take(1)[0]
	if fails > 1 {
		panic(fault(api.ErrBad))
	}
	n := p.number()
	if n > 16 {
		panic(fault(api.ErrBad))
	}
	for ; n > 0; n-- {
		s.Tags = append(s.Tags, api.Tag{Key: p.text(), Value: p.text()})
	}
	if start > maxTime || length > maxTime || len(p) > 0 {
		panic(fault(api.ErrBad))
	}
	s.Start, s.Length, s.Fails = int64(start), int64(length), fails == 1
	if e := plainCheck(s); e != api.OK {
		panic(fault(e))
	}
	return s, api.OK
}

func plainParseTrace(s string) (api.Trace, api.Errno) {
	b, err := hex.DecodeString(s)
	if err != nil || len(b) != 16 || s != strings.ToLower(s) || s == strings.Repeat("0", 32) {
		return api.Trace{}, api.ErrArg
	}
	return trace(binary.BigEndian.Uint64(b), binary.BigEndian.Uint64(b[8:])), api.OK
}

func plainTag(s api.Span, key string) (string, bool) {
	i := 0
	for i < len(s.Tags) && s.Tags[i].Key != key {
		i++
	}
	if i == len(s.Tags) {
		return "", false
	}
	return s.Tags[i].Value, true
}

// held fails unless all calls about one span tell what the chapter's words do.
func held(t *testing.T, s api.Span) {
	t.Helper()
	if got, want := span.Check(s), plainCheck(s); got != want {
		t.Fatalf("Check of %s: %d, want %d", told(s), got, want)
	}
	b, e := span.Append([]byte("ahead"), s)
	want, wantErr := plainAppend([]byte("ahead"), s)
	if e != wantErr || !bytes.Equal(b, want) {
		t.Fatalf("Append of %s: %v, %d, want %v, %d", told(s), b, e, want, wantErr)
	}
	for _, key := range []string{"", "a", "b", "k01", "zip", "~~"} {
		v, ok := span.Tag(s, key)
		if w, is := plainTag(s, key); v != w || ok != is {
			t.Fatalf("Tag %q of %s: %q, %v, want %q, %v", key, told(s), v, ok, w, is)
		}
	}
	if c := span.Copy(s); told(c) != told(s) {
		t.Fatalf("Copy of %s: %s", told(s), told(c))
	}
}

// heldParse fails unless Parse tells of b what the chapter's words do.
func heldParse(t *testing.T, b []byte) api.Errno {
	t.Helper()
	s, e := span.Parse(b)
	want, wantErr := plainParse(b)
	if e != wantErr || told(s) != told(want) {
		t.Fatalf("Parse of %v:\n%s, %d, want\n%s, %d", b, told(s), e, told(want), wantErr)
	}
	return e
}

func TestDrawnSpansAsTheWordsTell(t *testing.T) {
	r := rng(17, 1)
	var errs [20]int
	for range 30000 {
		s := drawnWrong(r)
		held(t, s)
		errs[span.Check(s)]++
	}
	for _, e := range []api.Errno{api.OK, api.ErrArg, api.ErrLong} {
		if errs[e] < 2000 {
			t.Errorf("of the drawn spans only %d have %d", errs[e], e)
		}
	}
}

func TestDrawnPairsAsTheWordsTell(t *testing.T) {
	r := rng(17, 2)
	l := faults()
	var signs [3]int
	for range 30000 {
		a := drawnWrong(r)
		b := span.Copy(a)
		switch r.IntN(4) {
		case 0:
			b = drawnWrong(r)
		case 1, 2:
			pick(r, l...)(r, &b)
		}
		got, want := span.Compare(a, b), plainCompare(a, b)
		if got != want || span.Same(a, b) != (want == 0) {
			t.Fatalf("Compare of\n%s and\n%s: %d, want %d; Same %v", told(a), told(b), got, want, span.Same(a, b))
		}
		signs[got+1]++
	}
	for i, n := range signs {
		if n < 2000 {
			t.Errorf("only %d of the drawn pairs have %d", n, i-1)
		}
	}
}

func TestDrawnBytesAsTheWordsTell(t *testing.T) {
	r := rng(17, 3)
	var errs [20]int
	for range 60000 {
		b := drawnBytes(r)
		errs[heldParse(t, b)]++
	}
	for _, e := range []api.Errno{api.OK, api.ErrArg, api.ErrLong, api.ErrBad, api.ErrMore} {
		if errs[e] < 1000 {
			t.Errorf("of the drawn bytes only %d have %d", errs[e], e)
		}
	}
}

// drawnBytes answers a span's bytes whose fields are drawn, wrong ones among
// them, and which may be cut, go on, or have a byte turned.
func drawnBytes(r *rand.Rand) []byte {
	f := fieldsOf()
	for range r.IntN(4) {
		turned(r, &f)
	}
	b := f.bytes()
	switch r.IntN(8) {
	case 0:
		b = b[:r.IntN(len(b))]
	case 1:
		b = append(b, make([]byte, 1+r.IntN(3))...)
	case 2:
		b[r.IntN(len(b))] ^= 1 << r.IntN(8)
	case 3:
		b = b[:len(b)-1]
	}
	return b
}

// turned draws one field anew.
func turned(r *rand.Rand, f *fields) {
	number := func() []byte {
		return pick(r, short(0), short(127), short(maxTime-20), short(maxTime), short(maxTime+1), short(1<<63), short(greatest),
			[]byte{128, 0}, bytes.Repeat([]byte{255}, 11), append(bytes.Repeat([]byte{255}, 9), 2))
	}
	text := func() []byte {
		return pick(r, piece(""), piece("a"), piece("\x1f"), piece(long(128)), piece(long(129)),
			short(1<<20), short(1<<20+1), short(greatest), []byte{128, 0})
	}
	switch r.IntN(9) {
	case 0:
		f.numbers = joined(eight(r.Uint64N(2)), eight(r.Uint64N(2)), eight(r.Uint64N(2)), eight(r.Uint64()))
	case 1:
		f.service = text()
	case 2:
		f.name = text()
	case 3:
		f.kind = []byte{pick[byte](r, 0, 5, 6, 255)}
	case 4:
		f.start = number()
	case 5:
		f.length = number()
	case 6:
		f.fails = []byte{pick[byte](r, 0, 2, 3, 255)}
	case 7:
		f.count = pick(r, short(0), short(1), short(3), short(16), short(17), short(1<<32), short(greatest), []byte{130, 0})
	case 8:
		f.count, f.tags = drawnTags(r)
	}
}

// drawnTags answers a number of tags, and so many, which may be too many or
// not in order.
func drawnTags(r *rand.Rand) (count, l []byte) {
	n := pick(r, 0, 1, 2, 15, 16, 17, 20)
	for i := range n {
		key := fmt.Sprintf("k%02d", i)
		if r.IntN(40) == 0 {
			key = pick(r, "", "a", "k00", "k99", long(129))
		}
		l = joined(l, piece(key), piece(pick(r, "", "v", long(128))))
	}
	return short(uint64(n)), l
}

func TestDrawnTextsOfTracesAsTheWordsTell(t *testing.T) {
	r := rng(17, 4)
	for range 30000 {
		x := trace(r.Uint64()>>r.IntN(65), r.Uint64()>>r.IntN(65))
		s := fmt.Sprintf("%016x%016x", x.Hi, x.Lo)
		if got := span.TraceText(x); got != s {
			t.Fatalf("TraceText of %v: %q", x, got)
		}
		if got := span.IDText(x.Lo); got != s[16:] {
			t.Fatalf("IDText of %d: %q", x.Lo, got)
		}
		b := []byte(s)
		switch r.IntN(4) {
		case 0:
			b[r.IntN(len(b))] = byte(r.IntN(256))
		case 1:
			b = b[:r.IntN(len(b))]
		case 2:
			b = bytes.ToUpper(b)
		}
		got, e := span.ParseTrace(string(b))
		want, wantErr := plainParseTrace(string(b))
		if got != want || e != wantErr {
			t.Fatalf("ParseTrace of %q: %v, %d, want %v, %d", b, got, e, want, wantErr)
		}
	}
}

func TestDrawnListsAsTheWordsTell(t *testing.T) {
	r := rng(17, 5)
	for range 1500 {
		l := make([]api.Span, r.IntN(30))
		for i := range l {
			l[i] = drawnWrong(r)
			if i > 0 && r.IntN(3) == 0 {
				l[i] = l[r.IntN(i)]
			}
		}
		want := append([]api.Span(nil), l...)
		sort.SliceStable(want, func(i, j int) bool { return plainCompare(want[i], want[j]) < 0 })
		if got := span.Order(l); toldAll(got) != toldAll(want) {
			t.Fatalf("Order of\n%s\n:\n%s\n, want\n%s", toldAll(l), toldAll(got), toldAll(want))
		}
	}
}
