package block_test

import (
	"slices"
	"strings"
	"testing"

	"bootprint/api"
	"bootprint/block"
)

// P8.2, Parse and Restarts

func TestParseAsTold(t *testing.T) {
	for s, want := range map[string]string{
		raw(0, 1, 5, 1, "ax") + tail(0):                             `"a" at 1: 1 "x"; `,
		raw(0, 1, 6, 0, "a") + tail(0):                              `"a" at 1: 2 ""; `,
		raw(0, 2, 5, 1, "abx") + raw(1, 1, 5, 1, "cy") + tail(0):    `"ab" at 1: 1 "x"; "ac" at 1: 1 "y"; `,
		raw(0, 2, 9, 0, "ab") + raw(2, 0, 6, 0, "") + tail(0):       `"ab" at 2: 1 ""; "ab" at 1: 2 ""; `,
		raw(0, 2, 5, 0, "ab") + raw(2, 1, 601, 0, "c") + tail(0):    `"ab" at 1: 1 ""; "abc" at 150: 1 ""; `,
		raw(0, 1, 5, 0, "a") + raw(0, 1, 5, 0, "b") + tail(0):       `"a" at 1: 1 ""; "b" at 1: 1 ""; `,
		raw(0, 1, 4*api.MaxSeq+1, 0, "\x00") + tail(0):              `"\x00" at 72057594037927935: 1 ""; `,
		raw(0, 1, 4*api.MaxSeq+2, 0, "\xff") + tail(0):              `"\xff" at 72057594037927935: 2 ""; `,
		raw(0, 1, 5, 8, "a"+four(0)+four(1)) + tail(0):              `"a" at 1: 1 "\x00\x00\x00\x00\x01\x00\x00\x00"; `,
		raw(0, 3, 5, 0, "abc") + raw(1, 1, 5, 0, "c") + tail(0):     `"abc" at 1: 1 ""; "ac" at 1: 1 ""; `,
		raw(0, 1, 5, 0, "a") + raw(1, 2, 5, 2, "a\xff:)") + tail(0): `"a" at 1: 1 ""; "aa\xff" at 1: 1 ":)"; `,
	} {
		l, e := block.Parse([]byte(s))
		if told(l...) != want || e != api.OK {
			t.Errorf("Parse of %q: %s, %d; want %s", s, told(l...), e, want)
		}
		if places, e := block.Restarts([]byte(s)); !slices.Equal(places, []int{0}) || e != api.OK {
			t.Errorf("Restarts of %q: %d, %d; want one at 0", s, places, e)
		}
	}
}

func TestParseOfManyEntries(t *testing.T) {
	for _, n := range []int{1, 2, 15, 16, 17, 31, 32, 33, 48, 49, 256, 257, 2000} {
		l := rising(n)
		s := byWords(l)
		if got, e := block.Parse([]byte(s)); told(got...) != told(l...) || e != api.OK {
			t.Errorf("Parse of %d entries: %s, %d", n, shortly(told(got...)), e)
		}
		places, e := block.Restarts([]byte(s))
		if len(places) != (n+15)/16 || e != api.OK {
			t.Fatalf("Restarts of %d entries: %d, %d", n, places, e)
		}
		// At each one an entry stands that shares nothing and has its whole Key.
		for i, at := range places {
			if !strings.HasPrefix(s[at:], string([]byte{0, 7, byte(i*16%3+1)*4 + 1, byte(i * 16 % 5)})+string(l[i*16].Key)) {
				t.Errorf("restart %d of %d entries at %d: %s", i, n, at, shortly(s[at:]))
			}
		}
	}
}

func TestEveryCutIsBad(t *testing.T) {
	for _, l := range [][]api.Entry{
		{put("a", 1, "x")},
		{put("ab", 1, "x"), put("ac", 1, "y")},
		rising(17),
		rising(33),
		{put("a", 1, four(0)+four(1))}, // its Value looks like the places
	} {
		s := byWords(l)
		for n := range len(s) {
			refuses(t, "cut behind", s[:n], api.ErrBad)
			if n > 0 {
				agree(t, s[n:])
			}
			agree(t, s[:n]+s[n+1:])
		}
	}
}

func TestABytesMoreIsBad(t *testing.T) {
	for _, l := range [][]api.Entry{
		{put("a", 1, "x")},
		{put("ab", 1, "x"), put("ac", 1, "y"), del("ac", 0x1234)},
		rising(17),
	} {
		s := byWords(l)
		for n := range len(s) + 1 {
			for _, more := range []string{"\x00", "\x01", "\x04", "a", "v", "\x80", "\xff", "\x00\x00\x00\x00"} {
				if with := s[:n] + more + s[n:]; with != s {
					refuses(t, "with more", with, api.ErrBad)
				}
			}
		}
	}
}

func TestNumbersInMoreBytesThanTheyNeed(t *testing.T) {
	// Ahead of each number that stands in these entries.
	numbers := []string{"\x00", "\x02", "\x05", "\x01", "abx", "\x01", "\x01", "\x05", "\x01", "cy"}
	for i, number := range numbers {
		if len(number) > 1 {
			continue
		}
		for _, long := range []string{
			string([]byte{number[0] + 128, 0}),
			string([]byte{number[0] + 128, 128, 0}),
			string([]byte{number[0] + 128, 128, 128, 128, 128, 128, 128, 128, 128, 0}),
			string([]byte{number[0] + 128, 128, 128, 128, 128, 128, 128, 128, 128, 2}),
			string([]byte{number[0] + 128, 128, 128, 128, 128, 128, 128, 128, 128, 128, 0}),
		} {
			parts := slices.Clone(numbers)
			parts[i] = long
			refuses(t, "a number in more bytes", strings.Join(parts, "")+tail(0), api.ErrBad)
		}
	}
	agree(t, strings.Join(numbers, "")+tail(0))
}

func TestNumbersThatAreTooGreat(t *testing.T) {
	for _, n := range []uint64{3, 4, 9, 64, 128, 1 << 18, 1<<18 + 1, 1 << 31, 1<<32 + 1, 1 << 62, 1<<63 - 1, 1 << 63, 1<<63 + 1, greatest - 1, greatest} {
		refuses(t, "more bytes of a Key", raw(0, n, 5, 1, "ax")+tail(0), api.ErrBad)
		refuses(t, "bytes of a Value", raw(0, 1, 5, n, "ax")+tail(0), api.ErrBad)
		refuses(t, "shared by the first one", raw(n, 1, 5, 1, "ax")+tail(0), api.ErrBad)
		first := raw(0, 2, 5, 0, "ab")
		refuses(t, "shared by the second one", first+raw(n, 1, 5, 1, "cx")+tail(0), api.ErrBad)
		refuses(t, "more bytes of the second Key", first+raw(1, n, 5, 1, "cx")+tail(0), api.ErrBad)
	}
}

func TestBytesSharedAreAsManyAsCanBe(t *testing.T) {
	first := raw(0, 3, 9, 0, "abb")
	for what, second := range map[string]string{
		"fewer than are shared":               raw(0, 3, 5, 0, "abc"),
		"one less":                            raw(1, 2, 5, 0, "bc"),
		"one more than the Key ahead has":     raw(4, 1, 5, 0, "c"),
		"many more":                           raw(100, 1, 5, 0, "c"),
		"all but one of the whole Key":        raw(2, 1, 5, 0, "b"),
		"none of the whole Key":               raw(0, 3, 5, 0, "abb"),
		"all but one, and the Key is longer":  raw(2, 2, 5, 0, "bb"),
		"none of a Key that begins otherwise": raw(1, 1, 5, 0, "b"),
	} {
		refuses(t, what, first+second+tail(0), api.ErrBad)
	}
	for _, second := range []string{raw(2, 1, 5, 0, "c"), raw(3, 0, 5, 0, ""), raw(3, 1, 5, 0, "b"), raw(1, 1, 5, 0, "c"), raw(0, 1, 5, 0, "b")} {
		if l, e := block.Parse([]byte(first + second + tail(0))); len(l) != 2 || e != api.OK {
			t.Errorf("Parse of %q: %s, %d", first+second, told(l...), e)
		}
	}
	refuses(t, "the first one shares", raw(1, 1, 5, 0, "b")+tail(0), api.ErrBad)
}

func TestRestartsShareNothing(t *testing.T) {
	body, places := bodyByWords(rising(16))
	at := len(body)
	key := "key0016"
	agree(t, body+raw(0, 7, 5, 0, key)+tail(places[0], at))
	for n := 1; n <= 7; n++ {
		refuses(t, "a restart that shares", body+raw(uint64(n), uint64(7-n), 5, 0, key[n:])+tail(places[0], at), api.ErrBad)
	}
	// One that is no restart shares, though a place is told of it.
	body, _ = bodyByWords(rising(8))
	refuses(t, "a restart too early", body+raw(0, 7, 5, 0, "key0008")+tail(0, len(body)), api.ErrBad)
	refuses(t, "a place of one that is no restart", byWords(rising(8))[:len(body)]+raw(6, 1, 5, 0, "8")+tail(0, len(body)), api.ErrBad)
	// The seventeenth without a place of its own.
	body, _ = bodyByWords(rising(17))
	refuses(t, "no place of the second restart", body+tail(0), api.ErrBad)
}

func TestPlacesThatAreNotTheirs(t *testing.T) {
	body, places := bodyByWords(rising(33))
	second, third := places[1], places[2]
	agree(t, body+tail(0, second, third))
	for what, behind := range map[string]string{
		"the first one":         tail(1, second, third),
		"the second one":        tail(0, second+1, third),
		"the third one":         tail(0, second, third-1),
		"the second one, high":  tail(0, second+1<<24, third),
		"the third one, higher": four(0) + four(second) + "\xff\xff\xff\xff" + four(3),
		"counted by entries":    tail(0, 16, 32),
		"swapped":               tail(0, third, second),
		"the highest first":     backwards(tail(3, third, second, 0)[:16]),
		"twice the same":        tail(0, second, second),
		"without the first":     tail(second, third),
		"without the last":      tail(0, second),
		"one more":              tail(0, second, third, len(body)),
		"none":                  tail(),
		"a number less":         four(0) + four(second) + four(third) + four(2),
		"a number more":         four(0) + four(second) + four(third) + four(4),
		"no number":             four(0) + four(second) + four(third) + four(0),
		"a great number":        four(0) + four(second) + four(third) + four(1<<16+3),
		"a number that wraps":   four(0) + four(second) + four(third) + "\x03\x00\x00\x40",
		"one below zero":        four(0) + four(second) + four(third) + "\x03\x00\x00\x80",
		"the greatest number":   four(0) + four(second) + four(third) + "\xff\xff\xff\xff",
	} {
		refuses(t, what, body+behind, api.ErrBad)
	}
}

func backwards(s string) string {
	b := []byte(s)
	slices.Reverse(b)
	return string(b)
}

func TestEntriesThatMayNotBe(t *testing.T) {
	key := strings.Repeat("k", 4097)
	value := strings.Repeat("v", 65537)
	first := raw(0, 1, 5, 0, "a")
	for what, entries := range map[string]string{
		"Kind 0":                       raw(0, 1, 4, 0, "a"),
		"Kind 3":                       raw(0, 1, 7, 0, "a"),
		"Kind 3 behind another one":    first + raw(0, 1, 7, 0, "b"),
		"Seq 0":                        raw(0, 1, 1, 0, "a"),
		"Seq 0 of a delete":            raw(0, 1, 2, 0, "a"),
		"Seq and Kind 0":               raw(0, 1, 0, 0, "a"),
		"a Seq too great":              raw(0, 1, 4*api.MaxSeq+5, 0, "a"),
		"a far greater Seq":            raw(0, 1, 1<<62+1, 0, "a"),
		"the greatest Seq":             raw(0, 1, greatest-2, 0, "a"),
		"no Key":                       raw(0, 0, 5, 1, "x"),
		"no Key behind another one":    first + raw(0, 0, 5, 1, "x"),
		"no Key ahead of another one":  raw(0, 0, 5, 0, "") + first,
		"a delete's Value":             raw(0, 1, 6, 1, "ax"),
		"a delete's Value, behind one": first + raw(0, 1, 6, 1, "bx"),
		"a Key too long":               raw(0, 4097, 5, 0, key),
		"a Key too long, shared":       raw(0, 4096, 5, 0, key[1:]) + raw(4096, 1, 5, 0, "k"),
		"a Value too long":             raw(0, 1, 5, 65537, "a"+value),
		"not in order":                 raw(0, 1, 5, 0, "b") + raw(0, 1, 5, 0, "a"),
		"not in order, shared":         raw(0, 2, 5, 0, "ac") + raw(1, 1, 5, 0, "b"),
		"a shorter Key behind":         raw(0, 2, 5, 0, "ab") + raw(1, 0, 5, 0, ""),
		"one twice":                    raw(0, 2, 5, 1, "abx") + raw(2, 0, 5, 1, "y"),
		"one twice, once a delete":     raw(0, 2, 5, 0, "ab") + raw(2, 0, 6, 0, ""),
		"the older one first":          raw(0, 2, 5, 0, "ab") + raw(2, 0, 9, 0, ""),
		"the last two not in order":    first + raw(0, 1, 5, 0, "c") + raw(0, 1, 5, 0, "b"),
	} {
		refuses(t, what, entries+tail(0), api.ErrBad)
	}
	agree(t, raw(0, 4096, 5, 0, key[1:])+tail(0))
	agree(t, raw(0, 1, 5, 65536, "a"+value[1:])+tail(0))
	for what, l := range map[string][]api.Entry{
		"one twice over a restart":    append(rising(16), rising(16)[15]),
		"not in order over a restart": append(rising(16), rising(15)[14]),
		"one twice ahead of one":      append(rising(15), rising(17)[14:]...),
	} {
		refuses(t, what, byWords(l), api.ErrBad)
	}
}

func TestBytesWithoutEntries(t *testing.T) {
	for _, s := range []string{"", "\x00", "\x00\x00", "\x00\x00\x00", tail(), tail(0), tail(0, 0), "\x01\x00\x00\x00", "\xff\xff\xff\xff", "abc", "a" + tail(0)} {
		refuses(t, "no entries", s, api.ErrBad)
	}
	if _, e := block.Parse(nil); e != api.ErrBad {
		t.Errorf("Parse of nil: %d", e)
	}
}

func TestTooManyBytes(t *testing.T) {
	for _, n := range []int{1, 5, 1000} {
		refuses(t, "zeros", strings.Repeat("\x00", api.MaxBlock+n), api.ErrLong)
		refuses(t, "a block's bytes and more", byWords(rising(3))+strings.Repeat("x", api.MaxBlock+n), api.ErrLong)
		refuses(t, "entries of too many bytes", byWords(filled(t, 7, api.MaxBlock+n)), api.ErrLong)
		refuses(t, "bytes that are none", strings.Repeat("\xff", api.MaxBlock+n), api.ErrLong)
	}
	for _, c := range []string{"\x00", "\x01", "\x04", "a", "\xff"} {
		refuses(t, "bytes that are none", strings.Repeat(c, api.MaxBlock), api.ErrBad)
	}
	s := byWords(filled(t, 7, api.MaxBlock))
	agree(t, s)
	refuses(t, "a byte less", s[1:], api.ErrBad)
}

// A few bytes that tell a great Key, many times over.
func TestAGreatKeySharedByManyIsBad(t *testing.T) {
	key := strings.Repeat("k", 100000)
	var s strings.Builder
	s.WriteString(raw(0, 100000, 4*100000+1, 0, key))
	for i := 99999; s.Len() < api.MaxBlock-100; i-- {
		s.WriteString(raw(100000, 0, uint64(4*i+1), 0, ""))
	}
	refuses(t, "a great Key", s.String()+tail(0), api.ErrBad)
}

func TestDrawnBytesAsTold(t *testing.T) {
	d := source(11)
	kept := 0
	for i := range 6000 {
		s := []byte(byWords(d.block(1 + d.below(40))))
		for range 1 + d.below(2) {
			n := d.below(len(s))
			switch d.below(5) {
			case 0:
				s[n] ^= 1 << d.below(8)
			case 1:
				s[n] = byte(d.below(6))
			case 2:
				s = slices.Insert(s, n, byte(d.below(256)))
			case 3:
				s = slices.Delete(s, n, n+1)
			case 4:
				m := d.below(len(s))
				s[n], s[m] = s[m], s[n]
			}
		}
		agree(t, string(s))
		if _, _, e := parsed(string(s)); e == api.OK {
			kept++
		}
		if t.Failed() {
			t.Fatalf("drawn bytes %d", i)
		}
	}
	if kept < 300 || kept > 5000 {
		t.Errorf("%d of the drawn bytes are a block's: too few, or too many", kept)
	}
}

func TestEveryByteTurnedAsTold(t *testing.T) {
	for _, l := range [][]api.Entry{
		{put("ab", 1, "x"), put("ac", 1, "y")},
		{put("ab", 300, "x"), del("ab", 299), put("abc", 1, "")},
		rising(17),
	} {
		s := []byte(byWords(l))
		for i := range s {
			was := s[i]
			for c := range 256 {
				s[i] = byte(c)
				agree(t, string(s))
			}
			s[i] = was
		}
	}
}
