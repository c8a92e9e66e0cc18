package block_test

import (
	"bytes"
	"fmt"
	"math/bits"
	"slices"
	"strings"
	"testing"

	"bootprint/api"
	"bootprint/block"
)

const greatest = 1<<64 - 1

func put(key string, seq uint64, value string) api.Entry {
	return api.Entry{Key: []byte(key), Seq: seq, Kind: api.WritePut, Value: []byte(value)}
}

func del(key string, seq uint64) api.Entry {
	return api.Entry{Key: []byte(key), Seq: seq, Kind: api.WriteDelete}
}

// sized answers an entry with a Key and a Value of so many bytes.
func sized(kind, key, value int, seq uint64) api.Entry {
	return api.Entry{Key: bytes.Repeat([]byte{'k'}, key), Seq: seq, Kind: kind, Value: bytes.Repeat([]byte{'v'}, value)}
}

// rising answers n entries, in order, whose keys all begin alike.
func rising(n int) []api.Entry {
	var l []api.Entry
	for i := range n {
		l = append(l, put(fmt.Sprintf("key%04d", i), uint64(i%3+1), strings.Repeat("v", i%5)))
	}
	return l
}

// filled answers n entries, in order, whose block has just so many bytes.
func filled(t *testing.T, n, total int) []api.Entry {
	t.Helper()
	l := make([]api.Entry, n)
	for i := range l {
		l[i] = sized(api.WritePut, 3, total/n-10, 7)
		copy(l[i].Key[1:], []byte{byte(i / 256), byte(i)})
	}
	last := &l[n-1]
	last.Value = nil
	for last.Value = make([]byte, total-len(byWords(l))); len(byWords(l)) > total; {
		last.Value = last.Value[1:]
	}
	if len(byWords(l)) != total || len(last.Value) > api.MaxValue {
		t.Fatalf("a block of %d bytes has %d, the last Value %d", total, len(byWords(l)), len(last.Value))
	}
	return l
}

// short tells a short number as the chapter of numbers says it.
func short(n uint64) string {
	var b []byte
	for ; n >= 128; n /= 128 {
		b = append(b, byte(n%128+128))
	}
	return string(append(b, byte(n)))
}

// four tells a number in four bytes, the lowest first.
func four(n int) string {
	return string([]byte{byte(n), byte(n / 256), byte(n / 65536), byte(n / 16777216)})
}

// tail tells what stands behind the entries.
func tail(places ...int) string {
	s := ""
	for _, place := range places {
		s += four(place)
	}
	return s + four(len(places))
}

// raw tells an entry's bytes by numbers that may be any.
func raw(shared, more, seqAndKind, length uint64, rest string) string {
	return short(shared) + short(more) + short(seqAndKind) + short(length) + rest
}

// begin tells how many bytes two keys have in common.
func begin(a, b []byte) int {
	for n := min(len(a), len(b)); n > 0; n-- {
		if string(a[:n]) == string(b[:n]) {
			return n
		}
	}
	return 0
}

// bodyByWords tells the bytes of the entries and where the restarts are, as the
// chapter says them, whether the entries may be or not.
func bodyByWords(l []api.Entry) (string, []int) {
	var s strings.Builder
	var places []int
	for i, e := range l {
		n := 0
		if i%16 == 0 {
			places = append(places, s.Len())
		} else {
			n = begin(l[i-1].Key, e.Key)
		}
		s.WriteString(raw(uint64(n), uint64(len(e.Key)-n), e.Seq*4+uint64(e.Kind), uint64(len(e.Value)), string(e.Key[n:])))
		s.Write(e.Value)
	}
	return s.String(), places
}

// byWords tells the bytes of a block of l.
func byWords(l []api.Entry) string {
	body, places := bodyByWords(l)
	return body + tail(places...)
}

// isAhead tells the order of entries as the chapter of batches says it.
func isAhead(a api.Entry, key []byte, seq uint64) bool {
	if string(a.Key) != string(key) {
		return string(a.Key) < string(key)
	}
	return a.Seq > seq
}

// mayBe tells whether l may be a block's, by the chapter's words; ErrLong of
// too many bytes is told of their number.
func mayBe(l []api.Entry, size int) api.Errno {
	for _, e := range l {
		switch {
		case e.Kind != 1 && e.Kind != 2, len(e.Key) == 0, e.Kind == 2 && len(e.Value) > 0, e.Seq == 0:
			return api.ErrArg
		case len(e.Key) > 4096, len(e.Value) > 65536, e.Seq > 1<<56-1:
			return api.ErrLong
		}
	}
	for i := range len(l) - 1 {
		if !isAhead(l[i], l[i+1].Key, l[i+1].Seq) {
			return api.ErrArg
		}
	}
	switch {
	case len(l) == 0:
		return api.ErrArg
	case size > 1<<18:
		return api.ErrLong
	}
	return api.OK
}

// plain reads bytes from the left, as far as they go.
type plain struct {
	s   string
	bad bool
}

func (p *plain) number() uint64 {
	x := uint64(0)
	for i := 0; i < len(p.s) && i < 10; i++ {
		x += uint64(p.s[i]%128) << (7 * i)
		if p.s[i] < 128 {
			p.s = p.s[i+1:]
			return x
		}
	}
	p.bad = true
	return 0
}

func (p *plain) take(n uint64) string {
	if n > uint64(len(p.s)) {
		p.bad = true
		return ""
	}
	s := p.s[:n]
	p.s = p.s[n:]
	return s
}

// parsed tells what Parse and Restarts are to answer. It reads whatever can be
// read, and holds the bytes of the block of that against s: no others are its.
func parsed(s string) ([]api.Entry, []int, api.Errno) {
	if len(s) > 1<<18 {
		return nil, nil, api.ErrLong
	}
	var l []api.Entry
	p := &plain{s: s[:bodyLength(s)]}
	ahead := ""
	for p.s != "" {
		shared, more, seqAndKind, length := p.number(), p.number(), p.number(), p.number()
		if p.bad || shared > uint64(len(ahead)) {
			return nil, nil, api.ErrBad
		}
		ahead = ahead[:shared] + p.take(more)
		value := p.take(length)
		if p.bad || len(ahead) > 4096 {
			return nil, nil, api.ErrBad
		}
		l = append(l, api.Entry{Key: []byte(ahead), Seq: seqAndKind / 4, Kind: int(seqAndKind % 4), Value: []byte(value)})
	}
	if byWords(l) != s || mayBe(l, len(s)) != api.OK {
		return nil, nil, api.ErrBad
	}
	_, places := bodyByWords(l)
	return l, places, api.OK
}

// bodyLength tells how many bytes there are ahead of the restarts' places; 0,
// if there can't be as many as are told.
func bodyLength(s string) int {
	if len(s) < 4 {
		return 0
	}
	n := len(s)
	count := int(s[n-4]) + int(s[n-3])*256 + int(s[n-2])*65536 + int(s[n-1])*16777216
	return max(n-4-4*count, 0)
}

// looks tells at which entries Seek is to look, first those of the halving,
// then those that follow; and which one is found, -1 if none is.
func looks(l []api.Entry, key []byte, seq uint64) (halving, onward []int, found int) {
	lo, hi := 0, (len(l)+15)/16-1
	for lo < hi {
		n := (lo + hi + 1) / 2
		halving = append(halving, 16*n)
		if isAhead(l[16*n], key, seq) {
			lo = n
		} else {
			hi = n - 1
		}
	}
	for i := 16 * lo; i < len(l); i++ {
		onward = append(onward, i)
		if !isAhead(l[i], key, seq) {
			return halving, onward, i
		}
	}
	return halving, onward, -1
}

// told writes entries as a text, so that they are compared whole.
func told(l ...api.Entry) string {
	var s strings.Builder
	for _, e := range l {
		fmt.Fprintf(&s, "%q at %d: %d %q; ", e.Key, e.Seq, e.Kind, e.Value)
	}
	return s.String()
}

// seeks fails unless Seek tells of the block of l what the chapter says.
func seeks(t *testing.T, p string, l []api.Entry, key []byte, seq uint64) {
	t.Helper()
	halving, onward, found := looks(l, key, seq)
	want, wantE := api.Entry{}, api.ErrNone
	if found >= 0 {
		want, wantE = l[found], api.OK
	}
	e, read, err := block.Seek([]byte(p), key, seq)
	if told(e) != told(want) || read != len(halving)+len(onward) || err != wantE {
		t.Fatalf("Seek of %q %d in %d entries: %s%d, %d; want %s%d, %d", shortly(string(key)), seq, len(l),
			told(e), read, err, told(want), len(halving)+len(onward), wantE)
	}
}

// asks are keys that are worth being asked for: the entries' own, and such as
// are just beside.
func asks(l []api.Entry) [][]byte {
	keys := [][]byte{nil, {}, {0}, {255}, bytes.Repeat([]byte{255}, 5000)}
	for _, e := range l {
		keys = append(keys, e.Key, append(slices.Clone(e.Key), 0), e.Key[:len(e.Key)-1])
	}
	return keys
}

// refuses fails unless Parse, Restarts and Seek answer that error, and nothing
// but it.
func refuses(t *testing.T, what, s string, want api.Errno) {
	t.Helper()
	if l, e := block.Parse([]byte(s)); len(l) != 0 || e != want {
		t.Errorf("%s: Parse of %s: %d entries, %d; want none, %d", what, shortly(s), len(l), e, want)
	}
	if places, e := block.Restarts([]byte(s)); len(places) != 0 || e != want {
		t.Errorf("%s: Restarts of %s: %d, %d; want none, %d", what, shortly(s), places, e, want)
	}
	for _, key := range []string{"", "a", "\xff"} {
		e, read, err := block.Seek([]byte(s), []byte(key), 1)
		if e.Key != nil || e.Seq != 0 || e.Kind != 0 || e.Value != nil || read != 0 || err != want {
			t.Errorf("%s: Seek %q of %s: %s%d, %d; want nothing, %d", what, key, shortly(s), told(e), read, err, want)
		}
	}
}

// agree fails unless Parse, Restarts and Seek answer what the chapter says of
// these bytes, and what they read is put together to the same bytes again.
func agree(t *testing.T, s string) {
	t.Helper()
	want, wantPlaces, wantE := parsed(s)
	if wantE != api.OK {
		refuses(t, "by the words", s, wantE)
		return
	}
	l, e := block.Parse([]byte(s))
	if told(l...) != told(want...) || e != api.OK {
		t.Fatalf("Parse of %s: %s, %d; want %s", shortly(s), shortly(told(l...)), e, shortly(told(want...)))
	}
	if places, e := block.Restarts([]byte(s)); !slices.Equal(places, wantPlaces) || e != api.OK {
		t.Fatalf("Restarts of %s: %d, %d; want %d", shortly(s), places, e, wantPlaces)
	}
	seeks(t, s, want, []byte("a"), 3)
	if p, e := block.Append(nil, l); string(p) != s || e != api.OK {
		t.Fatalf("Append of Parse of %s: %s, %d", shortly(s), shortly(string(p)), e)
	}
}

// source draws numbers, the same ones each time.
type source uint64

func (s *source) below(n int) int {
	*s = source(bits.RotateLeft64(uint64(*s)*6364136223846793005+1442695040888963407, 23))
	return int(uint64(*s) >> 11 % uint64(n))
}

// key draws one of few letters, so that many are alike, or begin alike.
func (s *source) key() []byte {
	b := make([]byte, 1+s.below(6))
	for i := range b {
		b[i] = []byte{0, 1, 'a', 255}[s.below(4)]
	}
	return b
}

// seq draws one of few bytes, or of many.
func (s *source) seq() uint64 {
	return 1 + uint64(s.below(api.MaxSeq))>>s.below(56)
}

// block draws n entries at most that may be a block's.
func (s *source) block(n int) []api.Entry {
	var l []api.Entry
	for range n {
		e := api.Entry{Kind: api.WriteDelete, Key: s.key(), Seq: s.seq()}
		if s.below(3) > 0 {
			e.Kind, e.Value = api.WritePut, bytes.Repeat([]byte{byte(s.below(256))}, s.below(4)*s.below(70))
		}
		if len(l) > 0 && s.below(3) == 0 {
			e.Key = bytes.Clone(l[s.below(len(l))].Key)
		}
		l = append(l, e)
	}
	slices.SortFunc(l, func(a, b api.Entry) int {
		if isAhead(a, b.Key, b.Seq) {
			return -1
		} else if isAhead(b, a.Key, a.Seq) {
			return 1
		}
		return 0
	})
	return slices.CompactFunc(l, func(a, b api.Entry) bool {
		return string(a.Key) == string(b.Key) && a.Seq == b.Seq
	})
}

// fine fails unless the error is OK.
func fine(t *testing.T, what string, e api.Errno) {
	t.Helper()
	if e != api.OK {
		t.Fatalf("%s: %d, want OK", what, e)
	}
}

// shortly tells what a text begins with.
func shortly(s string) string {
	if len(s) > 60 {
		return fmt.Sprintf("%q.. (%d bytes)", s[:60], len(s))
	}
	return fmt.Sprintf("%q", s)
}
