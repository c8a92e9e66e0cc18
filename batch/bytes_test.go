package batch_test

import (
	"bytes"
	"strings"
	"testing"

	"bootprint/api"
	"bootprint/batch"
)

// plain reads bytes as the chapters say, and holds the first fault.
type plain struct {
	s string
	e api.Errno
}

func (p *plain) fail(e api.Errno) {
	if p.e == api.OK {
		p.s, p.e = "", e
	}
}

func (p *plain) number() uint64 {
	for n := 1; n <= len(p.s) && n <= 10; n++ {
		if p.s[n-1] >= 128 {
			continue
		}
		x := uint64(0)
		for i := range n {
			x += uint64(p.s[i]%128) << (7 * i)
		}
		if short(x) != p.s[:n] { // not the shortest, or too great
			p.fail(api.ErrBad)
			return 0
		}
		p.s = p.s[n:]
		return x
	}
	if len(p.s) >= 10 {
		p.fail(api.ErrBad)
	}
	p.fail(api.ErrMore)
	return 0
}

func (p *plain) take(n uint64) []byte {
	if n > uint64(len(p.s)) {
		p.fail(api.ErrMore)
		return nil
	}
	b := []byte(p.s[:n])
	p.s = p.s[n:]
	return b
}

func (p *plain) piece() []byte {
	n := p.number()
	if n > 1<<20 {
		p.fail(api.ErrLong)
	}
	if p.e != api.OK {
		return nil
	}
	return p.take(n)
}

// parsed tells what Parse is to answer, by the chapter's words.
func parsed(s string) (api.Batch, api.Errno) {
	p := &plain{s: s}
	b := api.Batch{Seq: p.number()}
	for n := p.number(); n > 0 && p.e == api.OK; n-- {
		w := api.Write{}
		if kind := p.take(1); p.e == api.OK {
			w.Kind = int(kind[0])
		}
		if p.e == api.OK && w.Kind != 1 && w.Kind != 2 {
			p.fail(api.ErrBad)
		}
		if w.Key = p.piece(); w.Kind == 1 {
			w.Value = p.piece()
		}
		b.Writes = append(b.Writes, w)
	}
	if p.s != "" {
		p.fail(api.ErrBad)
	}
	p.fail(mayBe(b))
	if p.e != api.OK {
		return api.Batch{}, p.e
	}
	return b, api.OK
}

// parsesTo fails unless Parse answers that error, and nothing but it; or the
// batch that the chapter says, if the error is OK.
func parsesTo(t *testing.T, what, s string, want api.Errno) {
	t.Helper()
	b, e := batch.Parse([]byte(s))
	plainly, plainE := parsed(s)
	if e != want || plainE != want {
		t.Errorf("%s: Parse of %s: %d, want %d; by the words %d", what, shortly(s), e, want, plainE)
	}
	if told(b) != told(plainly) {
		t.Errorf("%s: Parse of %s: %s, want %s", what, shortly(s), shortly(told(b)), shortly(told(plainly)))
	}
}

// agree fails unless Parse answers what the chapter says, and what it reads is
// put together to the same bytes again.
func agree(t *testing.T, s string) {
	t.Helper()
	b, e := batch.Parse([]byte(s))
	want, wantE := parsed(s)
	if e != wantE || told(b) != told(want) {
		t.Fatalf("Parse of %s: %s, %d; want %s, %d", shortly(s), shortly(told(b)), e, shortly(told(want)), wantE)
	}
	if e != api.OK {
		return
	}
	if p, e := batch.Append(nil, b); string(p) != s || e != api.OK {
		t.Fatalf("Append of Parse of %s: %s, %d", shortly(s), shortly(string(p)), e)
	}
}

// P6.2, Append

func TestAppendAsTold(t *testing.T) {
	for want, b := range map[string]api.Batch{
		"\x07\x02\x01\x01a\x01x\x02\x01b":                  of(7, put("a", "x"), del("b")),
		"\x01\x01\x01\x01a\x00":                            of(1, put("a", "")),
		"\x01\x01\x02\x02ab":                               of(1, del("ab")),
		"\x80\x01\x01\x02\x01\x00":                         of(128, del("\x00")),
		"\xac\x02\x02\x02\x01\xff\x01\x01\xff\x02\x00\xff": of(300, del("\xff"), put("\xff", "\x00\xff")),
		"\x7f\x03\x02\x01a\x02\x01a\x02\x01a":              of(127, del("a"), del("a"), del("a")),
		"\xff\xff\xff\xff\xff\xff\xff\x7f\x01\x02\x01a":    of(api.MaxSeq, del("a")),
	} {
		for _, ahead := range []string{"", "\x00", "ahead", want} {
			p, e := batch.Append([]byte(ahead), b)
			if string(p) != ahead+want || e != api.OK {
				t.Errorf("Append of %s behind %q: %q, %d; want %q", told(b), ahead, p, e, ahead+want)
			}
		}
	}
}

func TestAppendAtTheBounds(t *testing.T) {
	for what, b := range map[string]api.Batch{
		"a Key of 127":    of(1, sized(2, 127, 0)),
		"a Key of 128":    of(1, sized(2, 128, 0)),
		"a Key of 4096":   of(1, sized(1, 4096, 3)),
		"a Value of 128":  of(1, sized(1, 1, 128)),
		"a Value of 2^14": of(1, sized(1, 1, 1<<14)),
		"a Value of 2^16": of(1, sized(1, 1, 1<<16), del("a")),
		"127 writes":      times(1, 127, del("a")),
		"128 writes":      times(1, 128, del("a")),
		"1024 writes":     times(api.MaxSeq-1023, 1024, put("a", "")),
		"MaxFrame bytes":  filled(t, 1<<30, 20, api.MaxFrame),
	} {
		p, e := batch.Append([]byte("ahead"), b)
		if string(p) != "ahead"+byWords(b) || e != api.OK {
			t.Errorf("Append of %s: %s, %d", what, shortly(string(p)), e)
		}
		parsesTo(t, what, byWords(b), api.OK)
	}
}

// wrongs are batches that may not be, or are too long, by what they are.
func wrongs(t *testing.T) map[string]api.Batch {
	return map[string]api.Batch{
		"nothing":            {},
		"no writes":          of(1),
		"Seq 0":              of(0, put("a", "x")),
		"Kind 0":             of(1, sized(0, 1, 0)),
		"Kind 3":             of(1, put("a", "x"), sized(3, 1, 0)),
		"Kind 257":           of(1, sized(257, 1, 0)),
		"no Key":             of(1, del("")),
		"a delete's Value":   of(1, sized(2, 1, 1)),
		"a long Key":         of(1, sized(2, 4097, 0)),
		"a long Value":       of(1, sized(1, 1, 65537)),
		"a Key as no piece":  of(1, sized(2, 1<<20+1, 0)),
		"1025 writes":        times(1, 1025, del("a")),
		"a byte too many":    filled(t, 1, 20, api.MaxFrame+1),
		"numbers too great":  of(api.MaxSeq, del("a"), del("b")),
		"a Seq too great":    of(api.MaxSeq+1, del("a")),
		"numbers that wrap":  of(greatest, del("a"), del("b")),
		"a long Key, Kind 0": of(1, sized(2, 4097, 0), sized(0, 1, 0)),
		"Kind 0, a long Key": of(1, sized(0, 1, 0), sized(2, 4097, 0)),
	}
}

func TestAppendRefuses(t *testing.T) {
	for what, b := range wrongs(t) {
		for _, ahead := range []string{"", "ahead"} {
			p, e := batch.Append([]byte(ahead), b)
			if want := mayBe(b); len(p) != 0 || e != want || want == api.OK {
				t.Errorf("Append of %s behind %q: %d bytes, %d; want none, %d", what, ahead, len(p), e, want)
			}
		}
	}
}

// P6.2, Parse

func TestParseAsTold(t *testing.T) {
	for s, want := range map[string]string{
		"\x07\x02\x01\x01a\x01x\x02\x01b":          `7: 1 "a" "x" 2 "b" ""`,
		"\x01\x01\x01\x01a\x00":                    `1: 1 "a" ""`,
		"\xac\x02\x01\x02\x02\x00\xff":             `300: 2 "\x00\xff" ""`,
		"\x01\x02\x02\x01a\x01\x01a\x02\x01\x02":   `1: 2 "a" "" 1 "a" "\x01\x02"`,
		"\x7f\x03\x02\x01c\x02\x01b\x01\x01a\x01z": `127: 2 "c" "" 2 "b" "" 1 "a" "z"`,
	} {
		b, e := batch.Parse([]byte(s))
		if told(b) != want || e != api.OK {
			t.Errorf("Parse of %q: %s, %d; want %s", s, told(b), e, want)
		}
	}
}

func TestParseOfWrongBytes(t *testing.T) {
	const one = "\x02\x01a" // a delete of a
	for _, c := range []struct {
		what, s string
		want    api.Errno
	}{
		{"nothing", "", api.ErrMore},
		{"Seq alone", "\x07", api.ErrMore},
		{"half a Seq", "\x80", api.ErrMore},
		{"a Seq that is not short", "\x87\x00\x01" + one, api.ErrBad},
		{"a Seq above 64 bits", strings.Repeat("\xff", 9) + "\x02\x01" + one, api.ErrBad},
		{"a Seq of 11 bytes", strings.Repeat("\x80", 10) + "\x01\x01" + one, api.ErrBad},
		{"a number that is not short", "\x07\x81\x00" + one, api.ErrBad},
		{"half a number", "\x07\x81", api.ErrMore},
		{"a Key's length that is not short", "\x07\x01\x02\x81\x00a", api.ErrBad},
		{"a Value's length that is not short", "\x07\x01\x01\x01a\x81\x00x", api.ErrBad},
		{"a length that is too great", "\x07\x01\x02" + strings.Repeat("\xff", 10), api.ErrBad},
		{"a Key that is too long a piece", "\x07\x01\x02" + short(1<<20+1), api.ErrLong},
		{"a Value that is too long a piece", "\x07\x01\x01\x01a" + short(1<<40), api.ErrLong},
		{"a Key of the longest piece, missing", "\x07\x01\x02" + short(1<<20) + "a", api.ErrMore},
		{"a write told, none there", "\x07\x01", api.ErrMore},
		{"two told, one there", "\x07\x02" + one, api.ErrMore},
		{"1025 told, one there", "\x07" + short(1025) + one, api.ErrMore},
		{"2^40 told, two there", "\x07" + short(1<<40) + one + one, api.ErrMore},
		{"the most told, two there", "\x07" + short(greatest) + one + one, api.ErrMore},
		{"one told, two there", "\x07\x01" + one + one, api.ErrBad},
		{"a byte more", "\x07\x01" + one + "\x00", api.ErrBad},
		{"none told, one there", "\x07\x00" + one, api.ErrBad},
		{"a delete with a Value", "\x07\x01" + one + "\x01x", api.ErrBad},
		{"Kind 0", "\x07\x01\x00\x01a", api.ErrBad},
		{"Kind 3", "\x07\x01\x03\x01a", api.ErrBad},
		{"Kind 255", "\x07\x01\xff\x01a", api.ErrBad},
		{"Kind 129", "\x07\x01\x81\x01a", api.ErrBad},
		{"Kind 3 behind", "\x07\x02" + one + "\x03\x01a", api.ErrBad},
		{"none told", "\x07\x00", api.ErrArg},
		{"Seq 0", "\x00\x01" + one, api.ErrArg},
		{"Seq 0, none told", "\x00\x00", api.ErrArg},
		{"no Key", "\x07\x01\x02\x00", api.ErrArg},
		{"no Key of a put", "\x07\x01\x01\x00\x01x", api.ErrArg},
		{"Seq too great", short(1<<56) + "\x01" + one, api.ErrLong},
		{"the greatest Seq", short(greatest) + "\x02" + one + one, api.ErrLong},
		{"numbers too great", short(1<<56-1) + "\x02" + one + one, api.ErrLong},
	} {
		parsesTo(t, c.what, c.s, c.want)
	}
}

func TestParseOfWhatCheckRefuses(t *testing.T) {
	for what, b := range map[string]api.Batch{
		"a long Key":                  of(1, sized(2, 4097, 0)),
		"the longest piece as a Key":  of(1, sized(2, 1<<20, 0)),
		"a long Value":                of(1, put("a", ""), sized(1, 1, 65537)),
		"1025 writes":                 times(1, 1025, del("a")),
		"a byte too many":             filled(t, 1, 20, api.MaxFrame+1),
		"many bytes":                  times(1, 1024, sized(1, 10, 20000)),
		"no Key behind a long one":    of(1, sized(2, 4097, 0), del("")),
		"a long Key behind none":      of(1, del(""), sized(2, 4097, 0)),
		"no Key among 1025":           of(1, append(times(1, 1025, del("a")).Writes, del(""))...),
		"Seq 0 and a long Value":      of(0, sized(1, 1, 65537)),
		"numbers too great, a no Key": of(api.MaxSeq, del(""), del("a")),
	} {
		parsesTo(t, what, byWords(b), mayBe(b))
		parsesTo(t, what+", and a byte more", byWords(b)+"\x00", api.ErrBad)
		parsesTo(t, what+", and one less", byWords(b)[:length(b)-1], api.ErrMore)
	}
}

// The first fault from the left counts, and Check's are behind all.
func TestParseOfTwoFaults(t *testing.T) {
	const (
		wrongKind = "\x03\x01a"
		noKey     = "\x02\x00"
		notShort  = "\x02\x81\x00a"
		cut       = "\x02\x05a"
	)
	tooLong := "\x02" + short(1<<20+1) // as a piece
	longKey := "\x02" + piece(make([]byte, 4097))
	for _, c := range []struct {
		what, s string
		want    api.Errno
	}{
		{"Kind, cut", "\x07\x02" + wrongKind + cut, api.ErrBad},
		{"Kind, and nothing behind", "\x07\x01\x03", api.ErrBad},
		{"Kind, and half a Key", "\x07\x01\x03\x05a", api.ErrBad},
		{"Kind, and a Key that is too long a piece", "\x07\x01\x03" + short(1<<20+1), api.ErrBad},
		{"Kind, a piece too long", "\x07\x02" + wrongKind + tooLong, api.ErrBad},
		{"a piece too long, Kind", "\x07\x02" + tooLong + wrongKind, api.ErrLong},
		{"not short, cut", "\x07\x02" + notShort + cut, api.ErrBad},
		{"a long Key, Kind", "\x07\x02" + longKey + wrongKind, api.ErrBad},
		{"a long Key, cut", "\x07\x02" + longKey + cut, api.ErrMore},
		{"no Key, Kind", "\x07\x02" + noKey + wrongKind, api.ErrBad},
		{"no Key, cut", "\x07\x02" + noKey + cut, api.ErrMore},
		{"no Key, a piece too long", "\x07\x02" + noKey + tooLong, api.ErrLong},
		{"no Key, a byte more", "\x07\x01" + noKey + "\x00", api.ErrBad},
		{"Seq 0, Kind", "\x00\x01" + wrongKind, api.ErrBad},
		{"Seq 0, cut", "\x00\x01" + cut, api.ErrMore},
		{"Seq 0, a byte more", "\x00\x00\x00", api.ErrBad},
		{"Seq 0, a long Key", "\x00\x01" + longKey, api.ErrArg},
		{"Seq too great, Kind", short(1<<56) + "\x01" + wrongKind, api.ErrBad},
		{"Seq too great, no Key", short(1<<56) + "\x01" + noKey, api.ErrArg},
		{"Seq too great, cut", short(1<<56) + "\x01" + cut, api.ErrMore},
		{"Seq not short, number not short", "\x80\x00\x80\x00", api.ErrBad},
		{"Seq not short, no number", "\x80\x00", api.ErrBad},
	} {
		parsesTo(t, c.what, c.s, c.want)
	}
}

func TestParseOfBytesThatAreCut(t *testing.T) {
	s := source(3)
	for range 40 {
		b := byWords(s.batch(9))
		for n := range len(b) {
			parsesTo(t, "cut", b[:n], api.ErrMore)
		}
		for c := range 256 {
			parsesTo(t, "with a byte more", b+string([]byte{byte(c)}), api.ErrBad)
		}
	}
}

// What is behind, in the spare room, is not read.
func TestParseTakesNoSpareRoom(t *testing.T) {
	b := []byte(byWords(of(7, put("a", "x"), del("b"))))
	for n := range b {
		if got, e := batch.Parse(b[:n]); e != api.ErrMore || len(got.Writes) != 0 {
			t.Errorf("Parse of %d bytes, the others in spare room: %s, %d", n, told(got), e)
		}
	}
	if got, e := batch.Parse(append(b, 9, 9, 9)[:len(b)]); e != api.OK || len(got.Writes) != 2 {
		t.Errorf("Parse of bytes with spare room: %s, %d", told(got), e)
	}
}

func TestParseOfAllShortBytes(t *testing.T) {
	rows := []string{""}
	for from := 0; len(rows[from]) < 7; from++ {
		for _, c := range []byte{0, 1, 2, 3, 128} {
			rows = append(rows, rows[from]+string([]byte{c}))
		}
	}
	for _, s := range rows {
		agree(t, s)
	}
	for _, s := range rows[:4000] {
		agree(t, "\x01\x02\x01\x01"+s)
		agree(t, "\x05\x03\x02\x01a\x01"+s)
	}
}

func TestParseOfTurnedBytes(t *testing.T) {
	s := source(5)
	for range 3000 {
		b := []byte(byWords(s.batch(6)))
		for range 1 + s.below(2) {
			b[s.below(len(b))] = []byte{0, 1, 2, 3, 127, 128, 255, byte(s.below(256))}[s.below(8)]
		}
		agree(t, string(b))
		at := s.below(len(b) + 1)
		agree(t, string(b[:at])+string(s.bytes(1))+string(b[at:]))
		agree(t, string(b[:at])+string(b[min(at+1, len(b)):]))
	}
}

// P6.2, Entries

func TestEntriesAsTold(t *testing.T) {
	for _, c := range []struct {
		b    api.Batch
		want string
	}{
		{of(1, put("a", "x"), put("a", "y")), `"a" at 2: 1 "y"; "a" at 1: 1 "x"; `},
		{of(7, put("a", "x"), del("b")), `"a" at 7: 1 "x"; "b" at 8: 2 ""; `},
		{of(7, del("b"), put("a", "x")), `"a" at 8: 1 "x"; "b" at 7: 2 ""; `},
		{of(5, put("ab", "1"), put("a", "2"), del("ab"), put("\x00", "3"), put("a\x00", "4"), del("a"), put("\xff", "")),
			`"\x00" at 8: 1 "3"; "a" at 10: 2 ""; "a" at 6: 1 "2"; "a\x00" at 9: 1 "4"; "ab" at 7: 2 ""; "ab" at 5: 1 "1"; "\xff" at 11: 1 ""; `},
		{of(api.MaxSeq, put("k", "v")), `"k" at 72057594037927935: 1 "v"; `},
	} {
		l, e := batch.Entries(c.b)
		if got := toldEntries(l); got != c.want || e != api.OK {
			t.Errorf("Entries of %s: %s, %d; want %s", told(c.b), got, e, c.want)
		}
	}
}

func TestEntriesRefuses(t *testing.T) {
	for what, b := range wrongs(t) {
		l, e := batch.Entries(b)
		if want := mayBe(b); len(l) != 0 || e != want || want == api.OK {
			t.Errorf("Entries of %s: %d entries, %d; want none, %d", what, len(l), e, want)
		}
	}
}

// Each entry is put in its place by counting those that are ahead of it.
func TestEntriesAsCounted(t *testing.T) {
	s := source(7)
	for range 400 {
		b := s.batch(40)
		l, e := batch.Entries(b)
		fine(t, "Entries", e)
		want := make([]api.Entry, len(b.Writes))
		for i, w := range b.Writes {
			at := 0
			for j, v := range b.Writes {
				k := bytes.Compare(v.Key, w.Key)
				if k < 0 || k == 0 && j > i {
					at++
				}
			}
			want[at] = api.Entry{Key: w.Key, Seq: b.Seq + uint64(i), Kind: w.Kind, Value: w.Value}
		}
		if toldEntries(l) != toldEntries(want) {
			t.Fatalf("Entries of %s: %s, want %s", told(b), toldEntries(l), toldEntries(want))
		}
	}
}

func TestEntriesOfTheMostWrites(t *testing.T) {
	b := times(api.MaxSeq-1023, 1024, put("a", "x"))
	l, e := batch.Entries(b)
	if len(l) != 1024 || e != api.OK {
		t.Fatalf("Entries: %d, %d", len(l), e)
	}
	for i, entry := range l {
		if entry.Seq != api.MaxSeq-uint64(i) {
			t.Fatalf("entry %d is at %d", i, entry.Seq)
		}
	}
}
