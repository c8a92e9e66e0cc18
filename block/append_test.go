package block_test

import (
	"fmt"
	"slices"
	"strings"
	"testing"

	"bootprint/api"
	"bootprint/block"
)

// P8.1, Append

func TestAppendAsTold(t *testing.T) {
	one := "\x00\x00\x00\x00\x01\x00\x00\x00"
	for want, l := range map[string][]api.Entry{
		"\x00\x01\x05\x01ax" + one:                    {put("a", 1, "x")},
		"\x00\x01\x05\x00a" + one:                     {put("a", 1, "")},
		"\x00\x01\x06\x00a" + one:                     {del("a", 1)},
		"\x00\x01\x0e\x00\x00" + one:                  {del("\x00", 3)},
		"\x00\x02\x05\x01abx\x01\x01\x05\x01cy" + one: {put("ab", 1, "x"), put("ac", 1, "y")},
		// They share nothing, a first part, the first one's whole Key, all of it.
		"\x00\x01\x05\x01ax\x00\x01\x06\x00b" + one:        {put("a", 1, "x"), del("b", 1)},
		"\x00\x03\x05\x00abc\x01\x02\x05\x00cb" + one:      {put("abc", 1, ""), put("acb", 1, "")},
		"\x00\x02\x05\x00ab\x02\x02\x05\x00\x00\xff" + one: {put("ab", 1, ""), put("ab\x00\xff", 1, "")},
		"\x00\x02\x0d\x01abx\x02\x00\x0a\x00\x02\x00\x05\x01y" + one: {
			put("ab", 3, "x"), del("ab", 2), put("ab", 1, "y"),
		},
		// A Key is shared with the one ahead alone, not with those ahead of that.
		"\x00\x01\x05\x00a\x00\x02\x05\x00ba\x01\x01\x05\x00b" + one: {put("a", 1, ""), put("ba", 1, ""), put("bb", 1, "")},
		// The last byte of a Seq with its Kind.
		"\x00\x01\x7e\x00a" + one:     {del("a", 31)},
		"\x00\x01\x81\x01\x00a" + one: {put("a", 32, "")},
		"\x00\x01\xfd\xff\xff\xff\xff\xff\xff\xff\x03\x00a\x01\x00\x05\x00" + one: {
			put("a", api.MaxSeq, ""), put("a", 1, ""),
		},
		"\x00\x01\xfe\xff\xff\xff\xff\xff\xff\xff\x03\x00a" + one: {del("a", api.MaxSeq)},
	} {
		for _, ahead := range []string{"", "\x00", "ahead", want} {
			p, e := block.Append([]byte(ahead), l)
			if string(p) != ahead+want || e != api.OK {
				t.Errorf("Append of %s behind %q: %q, %d; want %q", told(l...), ahead, p, e, ahead+want)
			}
		}
		if n := block.Size(l); n != len(want) {
			t.Errorf("Size of %s: %d, want %d", told(l...), n, len(want))
		}
	}
}

// Each entry has seven bytes, if it is a restart, and else six.
func TestAppendBeginsRestarts(t *testing.T) {
	var all []api.Entry
	for i := range 40 {
		all = append(all, put("k"+string(rune('A'+i)), 1, "v"))
	}
	for n, places := range map[int][]int{
		1: {0}, 2: {0}, 15: {0}, 16: {0},
		17: {0, 97}, 31: {0, 97}, 32: {0, 97},
		33: {0, 97, 194}, 40: {0, 97, 194},
	} {
		want := ""
		for i := range n {
			if i%16 == 0 {
				want += "\x00\x02\x05\x01k" + string(rune('A'+i)) + "v"
			} else {
				want += "\x01\x01\x05\x01" + string(rune('A'+i)) + "v"
			}
		}
		want += tail(places...)
		// Places count from the block's own beginning.
		for _, ahead := range []string{"", "ahead"} {
			p, e := block.Append([]byte(ahead), all[:n])
			if string(p) != ahead+want || e != api.OK {
				t.Errorf("Append of %d entries: %q, %d; want %q", n, p, e, ahead+want)
			}
		}
		if got, e := block.Restarts([]byte(want)); !slices.Equal(got, places) || e != api.OK {
			t.Errorf("Restarts of %d entries: %d, %d; want %d", n, got, e, places)
		}
		if size := block.Size(all[:n]); size != len(want) {
			t.Errorf("Size of %d entries: %d, want %d", n, size, len(want))
		}
	}
}

func TestAppendOfOneKeyWithManySeqs(t *testing.T) {
	var l []api.Entry
	want := ""
	for i := range 33 {
		l = append(l, del("key", uint64(33-i)))
		n := (33-i)*4 + 2
		if i%16 == 0 {
			want += raw(0, 3, uint64(n), 0, "key")
		} else {
			want += raw(3, 0, uint64(n), 0, "")
		}
	}
	p, e := block.Append(nil, l)
	fine(t, "Append", e)
	places, e := block.Restarts(p)
	fine(t, "Restarts", e)
	if want += tail(places...); string(p) != want || len(places) != 3 {
		t.Errorf("Append: %q, want %q", p, want)
	}
	agree(t, want)
}

// bounded are blocks with numbers that are just as great as they may be, or at
// the bounds of short numbers, by what they are.
func bounded(t *testing.T) map[string][]api.Entry {
	long := sized(api.WritePut, 4096, 65536, api.MaxSeq)
	next := sized(api.WritePut, 4096, 3, 1)
	next.Key[4095]++
	return map[string][]api.Entry{
		"a Key of 127":         {sized(2, 127, 0, 1)},
		"a Key of 128":         {sized(2, 128, 0, 1)},
		"a Key of 4096":        {sized(1, 4096, 3, 1)},
		"a Value of 127":       {sized(1, 1, 127, 1)},
		"a Value of 128":       {sized(1, 1, 128, 1)},
		"a Value of 2^14":      {sized(1, 1, 1<<14, 1)},
		"all at their bounds":  {long, sized(2, 4096, 0, 1), next},
		"127 bytes shared":     {sized(2, 127, 0, 1), sized(2, 128, 0, 1)},
		"128 bytes shared":     {sized(2, 128, 0, 1), sized(2, 400, 0, 1)},
		"4095 bytes shared":    {sized(2, 4096, 0, 1), next},
		"MaxBlock in 5":        filled(t, 5, api.MaxBlock),
		"MaxBlock in 16":       filled(t, 16, api.MaxBlock),
		"MaxBlock in 17":       filled(t, 17, api.MaxBlock),
		"MaxBlock in 4000":     filled(t, 4000, api.MaxBlock),
		"MaxBlock less 1 in 9": filled(t, 9, api.MaxBlock-1),
	}
}

func TestAppendAtTheBounds(t *testing.T) {
	for what, l := range bounded(t) {
		want := byWords(l)
		for _, ahead := range []string{"", "ahead", strings.Repeat("ahead", api.MaxBlock/5+1)} {
			p, e := block.Append([]byte(ahead), l)
			if string(p) != ahead+want || e != api.OK {
				t.Errorf("Append of %s: %s, %d", what, shortly(string(p)), e)
			}
		}
		if n := block.Size(l); n != len(want) {
			t.Errorf("Size of %s: %d, want %d", what, n, len(want))
		}
		agree(t, want)
	}
}

// wrong is entries that may not be a block's, and the error that is to be told.
type wrong struct {
	what string
	l    []api.Entry
	want api.Errno
}

func wrongs(t *testing.T) []wrong {
	a, b, c := put("a", 1, "x"), put("b", 1, "y"), put("c", 1, "z")
	bad, long := put("", 1, ""), sized(2, 4097, 0, 1)
	many := filled(t, 9, api.MaxBlock+1)
	unordered := slices.Clone(many)
	slices.Reverse(unordered)
	twice := slices.Insert(slices.Clone(many), 4, many[4])
	return []wrong{
		{"none", nil, api.ErrArg},
		{"an empty list", []api.Entry{}, api.ErrArg},
		{"not in order", []api.Entry{put("ac", 1, ""), put("ab", 1, "")}, api.ErrArg},
		{"not in order at the end", []api.Entry{a, c, b}, api.ErrArg},
		{"not in order at the beginning", []api.Entry{b, a, c}, api.ErrArg},
		{"a longer Key ahead of a shorter one", []api.Entry{put("ab", 1, ""), put("a", 1, "")}, api.ErrArg},
		{"the older one first", []api.Entry{put("a", 1, ""), put("a", 2, "")}, api.ErrArg},
		{"one twice", []api.Entry{a, a}, api.ErrArg},
		{"one twice at the end", []api.Entry{a, b, c, c}, api.ErrArg},
		{"one twice, of unlike Kinds", []api.Entry{a, del("a", 1)}, api.ErrArg},
		{"one twice over a restart", append(rising(16), rising(16)[15]), api.ErrArg},
		{"not in order over a restart", append(rising(16), rising(15)[14]), api.ErrArg},
		{"no Key", []api.Entry{bad}, api.ErrArg},
		{"Kind 0", []api.Entry{a, sized(0, 2, 0, 1)}, api.ErrArg},
		{"Kind 3", []api.Entry{a, sized(3, 2, 0, 1)}, api.ErrArg},
		{"Kind 5", []api.Entry{a, sized(5, 2, 0, 1)}, api.ErrArg},
		{"Kind -1", []api.Entry{a, sized(-1, 2, 0, 1)}, api.ErrArg},
		{"Seq 0", []api.Entry{put("a", 0, "")}, api.ErrArg},
		{"a delete's Value", []api.Entry{sized(2, 1, 1, 1)}, api.ErrArg},
		{"a Key too long", []api.Entry{a, long}, api.ErrLong},
		{"a Value too long", []api.Entry{a, sized(1, 1, 65537, 1)}, api.ErrLong},
		{"a Seq too great", []api.Entry{put("a", api.MaxSeq+1, "")}, api.ErrLong},
		{"a Seq that wraps", []api.Entry{put("a", 1<<62+1, "")}, api.ErrLong},
		{"the last one of many", append(rising(40), long), api.ErrLong},
		// Two errors.
		{"one that is too long behind two not in order", []api.Entry{b, a, long}, api.ErrLong},
		{"one that may not be behind two not in order", []api.Entry{b, a, bad}, api.ErrArg},
		{"one too long, one that may not be", []api.Entry{a, long, bad}, api.ErrLong},
		{"one that may not be, one too long", []api.Entry{bad, a, long}, api.ErrArg},
		{"one twice that is too long", []api.Entry{long, long}, api.ErrLong},
		{"too many bytes", many, api.ErrLong},
		{"too many bytes, one twice", twice, api.ErrArg},
		{"too many bytes, not in order", unordered, api.ErrArg},
		{"too many bytes, one that may not be", append(slices.Clone(many), bad), api.ErrArg},
		{"too many bytes in 9000", filled(t, 9000, api.MaxBlock+1), api.ErrLong},
		{"far too many bytes", filled(t, 400, 20*api.MaxBlock), api.ErrLong},
	}
}

func TestAppendRefuses(t *testing.T) {
	for _, c := range wrongs(t) {
		if want := mayBe(c.l, len(byWords(c.l))); want != c.want {
			t.Fatalf("%s: by the words %d, want %d", c.what, want, c.want)
		}
		for _, ahead := range []string{"", "ahead"} {
			p, e := block.Append([]byte(ahead), c.l)
			if len(p) != 0 || e != c.want {
				t.Errorf("Append of %s behind %q: %d bytes, %d; want none, %d", c.what, ahead, len(p), e, c.want)
			}
		}
	}
}

func TestAppendOfDrawnEntriesAsTold(t *testing.T) {
	d := source(5)
	for n := range 120 {
		l := d.block(n)
		for range d.below(2) * d.below(3) { // some that may not be
			if len(l) == 0 {
				break
			}
			i := d.below(len(l))
			switch d.below(4) {
			case 0:
				l[i] = l[d.below(len(l))]
			case 1:
				l[i].Seq = 0
			case 2:
				l[i] = sized(1, 4097, 1, 1)
			case 3:
				slices.Reverse(l[:i])
			}
		}
		s := byWords(l)
		want := mayBe(l, len(s))
		p, e := block.Append([]byte("p"), l)
		if e != want || want == api.OK && string(p) != "p"+s || want != api.OK && len(p) != 0 {
			t.Fatalf("Append of %s: %q, %d; want %q, %d", told(l...), p, e, s, want)
		}
		if size := block.Size(l); size != len(s) {
			t.Fatalf("Size of %s: %d, want %d", told(l...), size, len(s))
		}
	}
}

// P8.1, Size

func TestSizeAsTold(t *testing.T) {
	for _, c := range []struct {
		want int
		l    []api.Entry
	}{
		{4, nil},
		{4, []api.Entry{}},
		{14, []api.Entry{put("a", 1, "x")}},
		{21, []api.Entry{put("ab", 1, "x"), put("ac", 1, "y")}},
		// Not in order, and twice: shared all the same.
		{21, []api.Entry{put("ac", 1, "x"), put("ab", 1, "y")}},
		{17, []api.Entry{del("a", 1), del("a", 1)}},
		{19, []api.Entry{del("abc", 1), del("ab", 1)}},
		// Such as may not be.
		{12, []api.Entry{{}}},
		{16, []api.Entry{{}, {}}},
		{13, []api.Entry{del("a", 0)}},
		{14, []api.Entry{sized(2, 1, 1, 1)}},
		{8 + 1 + 2 + 1 + 1 + 5000, []api.Entry{sized(2, 5000, 0, 1)}},
		{8 + 1 + 1 + 1 + 3 + 1 + 70000, []api.Entry{sized(1, 1, 70000, 1)}},
		{8 + 1 + 1 + 9 + 1 + 1, []api.Entry{del("a", api.MaxSeq)}},
		{8 + 1 + 1 + 9 + 1 + 1, []api.Entry{del("a", 1<<61-1)}},
		{8 + 1 + 1 + 10 + 1 + 1, []api.Entry{del("a", 1<<61)}},
		{8 + 1 + 1 + 10 + 1 + 1, []api.Entry{del("a", 1<<62-1)}},
		{8 + 1 + 1 + 2 + 1 + 1, []api.Entry{sized(200, 1, 0, 1)}},
	} {
		if n := block.Size(c.l); n != c.want {
			t.Errorf("Size of %s: %d, want %d", shortly(told(c.l...)), n, c.want)
		}
	}
}

func TestSizeOfAnyEntriesAsTold(t *testing.T) {
	for _, c := range wrongs(t) {
		if n, want := block.Size(c.l), len(byWords(c.l)); n != want {
			t.Errorf("Size of %s: %d, want %d", c.what, n, want)
		}
	}
	for n := range 70 {
		if got, want := block.Size(rising(n)), len(byWords(rising(n))); got != want {
			t.Errorf("Size of %s: %d, want %d", fmt.Sprint(n, " entries"), got, want)
		}
		l := slices.Repeat([]api.Entry{{}}, n)
		if got, want := block.Size(l), 4*n+4*((n+15)/16)+4; got != want {
			t.Errorf("Size of %d entries without anything: %d, want %d", n, got, want)
		}
	}
}
