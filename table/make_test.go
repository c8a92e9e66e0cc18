package table_test

import (
	"bytes"
	"fmt"
	"slices"
	"strings"
	"testing"

	"bootprint/api"
	"bootprint/block"
	"bootprint/frame"
	"bootprint/table"
)

// P10.1, CheckSetup

func TestCheckSetup(t *testing.T) {
	for _, c := range []struct {
		block, bits int
		want        api.Errno
	}{
		{64, 1, api.OK},
		{64, 32, api.OK},
		{65536, 1, api.OK},
		{65536, 32, api.OK},
		{65, 2, api.OK},
		{65535, 31, api.OK},
		{4096, 10, api.OK},
		{63, 10, api.ErrArg},
		{65537, 10, api.ErrArg},
		{0, 10, api.ErrArg},
		{-64, 10, api.ErrArg},
		{64, 0, api.ErrArg},
		{64, 33, api.ErrArg},
		{64, 64, api.ErrArg},
		{64, -1, api.ErrArg},
		{0, 0, api.ErrArg},
		{63, 33, api.ErrArg},
		{greatestInt, 10, api.ErrArg},
		{-greatestInt - 1, 10, api.ErrArg},
		{64, greatestInt, api.ErrArg},
		{64, -greatestInt - 1, api.ErrArg},
		{1<<32 + 64, 10, api.ErrArg},
		{64, 1<<32 + 10, api.ErrArg},
	} {
		s := setup(c.block, c.bits)
		if e := table.CheckSetup(s); e != c.want {
			t.Errorf("CheckSetup of %v: %d, want %d", s, e, c.want)
		}
		l := rising(3)
		if c.want != api.OK {
			notMade(t, fmt.Sprint(s), l, s, c.want)
		} else if got, want := made(t, l, s), sheetOf(l, s).file(); got != want {
			t.Errorf("Make with %v: %q, want %q", s, got, want)
		}
	}
}

// P10.1, Make

// All bytes of one table, written down by hand.
func TestBytesOfTwoBlocks(t *testing.T) {
	value := strings.Repeat("v", 50)
	l := []api.Entry{put("aa", 300, value), del("ab", 2), put("b", 1, "")}
	// The first block has 1 + 1 + 2 + 1 + 2 + 50 bytes of aa, with what stands
	// behind 65: it is full. The second one shares nothing.
	first := "\x00\x02\xb1\x09\x32aa" + value + "\x00\x00\x00\x00\x01\x00\x00\x00"
	second := "\x00\x02\x0a\x00ab" + "\x00\x01\x05\x00b" + "\x00\x00\x00\x00\x01\x00\x00\x00"
	filter := filterOf([]string{"aa", "ab", "b"}, 1)
	if len(first) != 65 || len(second) != 19 || len(filter) != 9 || filter[8] != 1 {
		t.Fatalf("%d, %d, %q", len(first), len(second), filter)
	}
	index := "\x02" + "\x00\x4d\x02aa\xac\x02" + "\x4d\x1f\x01b\x01" + "\x03\x01\xac\x02" + "\x02aa" + "\x01b"
	want := framed(2, first) + framed(2, second) + framed(3, filter) + framed(4, index) +
		"\x00\x00\x00\x00\x00\x00\x00\x81" + "bootmark"
	if got := made(t, l, setup(64, 1)); got != want {
		t.Errorf("Make: %q, want %q", got, want)
	}
	if got := sheetOf(l, setup(64, 1)).file(); got != want {
		t.Errorf("by the words: %q, want %q", got, want)
	}
}

// lists tells lists of entries of all kinds.
func lists() map[string][]api.Entry {
	key := strings.Repeat("k", 4096)
	value := strings.Repeat("v", 65536)
	return map[string][]api.Entry{
		"one":                        {put("a", 1, "x")},
		"one delete":                 {del("a", 1)},
		"one without a Value":        {put("a", 1, "")},
		"the greatest Seq":           {put("a", api.MaxSeq, "x")},
		"the least and the greatest": {put("a", api.MaxSeq, "x"), put("a", 1, "y")},
		"a byte 0 and a byte 255":    {put("\x00", 1, "\x00"), put("\xff", 1, "\xff")},
		"keys that begin alike":      {put("a", 1, ""), put("a\x00", 1, ""), put("aa", 1, ""), put("aaa", 1, "")},
		"two":                        rising(2),
		"sixteen":                    rising(16),
		"seventeen":                  rising(17),
		"a hundred":                  rising(100),
		"a thousand":                 rising(1000),
		"one Key":                    ofOneKey("key", 50),
		"two Keys":                   append(ofOneKey("key", 20), ofOneKey("other key", 20)...),
		"a great one":                {put("a", 1, value)},
		"a great one between":        {put("a", 1, "x"), put("b", 1, value), put("c", 1, "y")},
		"the greatest one":           {put(key, api.MaxSeq, value)},
		"great ones alone":           {put("a", 1, value), put("b", 1, value), put(key, 1, value)},
		"the least Seq behind":       {put("a", 5, ""), put("b", 9, ""), put("c", 2, "")},
		"a delete and its put":       {del("a", 2), put("a", 1, "x"), del("b", 1)},
	}
}

func TestMakeAsTold(t *testing.T) {
	for what, l := range lists() {
		for _, s := range []api.TableSetup{setup(64, 10), setup(64, 1), setup(65, 32), setup(100, 2), setup(1000, 17), setup(65536, 31)} {
			want := sheetOf(l, s)
			if got := made(t, l, s); got != want.file() {
				t.Errorf("%s, %v: Make: %s, want %s", what, s, shortly(got), shortly(want.file()))
			}
			if i, e := table.Info(l, s); toldInfo(i) != want.info() || e != api.OK {
				t.Errorf("%s, %v: Info: %s, %d; want %s", what, s, toldInfo(i), e, want.info())
			}
		}
	}
}

func TestDrawnTablesAsTold(t *testing.T) {
	d := source(3)
	for i := range 400 {
		l := d.entries(1 + d.below(120))
		s := setup(64+d.below(200), 1+d.below(32))
		want := sheetOf(l, s)
		if got := made(t, l, s); got != want.file() {
			t.Fatalf("drawn table %d: Make: %s, want %s", i, shortly(got), shortly(want.file()))
		}
		if got, e := table.Info(l, s); toldInfo(got) != want.info() || e != api.OK {
			t.Fatalf("drawn table %d: Info: %s, %d; want %s", i, toldInfo(got), e, want.info())
		}
	}
}

// The row of frames: the Kinds, and what stands between the frames and the end.
func TestFramesOfATable(t *testing.T) {
	l := rising(300)
	for _, s := range []api.TableSetup{setup(64, 10), setup(500, 10), setup(65536, 10)} {
		b := []byte(made(t, l, s))
		frames, n, e := frame.Row(b[:len(b)-16])
		if n != len(b)-16 || e != api.OK {
			t.Fatalf("%v: the row is torn at %d of %d: %d", s, n, len(b)-16, e)
		}
		var kinds []byte
		var all []api.Entry
		for _, f := range frames {
			kinds = append(kinds, f.Kind)
			if f.Kind == 2 {
				entries, e := block.Parse(f.Body)
				fine(t, e)
				all = append(all, entries...)
			}
		}
		blocks := len(frames) - 2
		if string(kinds) != strings.Repeat("\x02", blocks)+"\x03\x04" || told(all...) != told(l...) {
			t.Errorf("%v: frames of the Kinds %d, with %d entries", s, kinds, len(all))
		}
		at := len(b) - 16 - frame.Size(len(frames[blocks+1].Body))
		if string(b[len(b)-16:]) != inOrder(uint64(at))+"bootmark" {
			t.Errorf("%v: the end is %q, the index at %d", s, b[len(b)-16:], at)
		}
	}
}

// cuts tells how many entries each block has.
func cuts(t *testing.T, l []api.Entry, s api.TableSetup) []int {
	t.Helper()
	b := []byte(made(t, l, s))
	frames, _, _ := frame.Row(b)
	var n []int
	for _, f := range frames[:len(frames)-2] {
		entries, e := block.Parse(f.Body)
		fine(t, e)
		n = append(n, len(entries))
	}
	return n
}

func TestBlocksAreCutBySize(t *testing.T) {
	d := source(8)
	for range 60 {
		l := d.entries(400)
		s := setup(64+d.below(d.below(5000)+1), 10)
		rest := l
		for i, n := range cuts(t, l, s) {
			if size := block.Size(rest[:n-1]); n > 1 && size >= s.Block {
				t.Errorf("%v: block %d has %d bytes without its last entry", s, i, size)
			}
			if size := block.Size(rest[:n]); size < s.Block && n < len(rest) {
				t.Errorf("%v: block %d has %d bytes alone, and is not the last one", s, i, size)
			}
			rest = rest[n:]
		}
		if len(rest) > 0 {
			t.Errorf("%v: %d entries are left", s, len(rest))
		}
	}
}

func TestABlockIsFullWithJustBlockBytes(t *testing.T) {
	value := strings.Repeat("v", 50)
	l := []api.Entry{put("a", 1, "x"), put("b", 1, value), put("c", 1, "y"), put("d", 1, "z")}
	size := block.Size(l[:2])
	for more, want := range map[int][]int{-5: {2, 2}, -1: {2, 2}, 0: {2, 2}, 1: {3, 1}, 6: {3, 1}, 7: {4}, 12: {4}, 13: {4}, 1000: {4}} {
		if got := cuts(t, l, setup(size+more, 10)); !slices.Equal(got, want) {
			t.Errorf("Block %d and %d: blocks of %d, want %d", size, more, got, want)
		}
	}
	// One entry, of 13 bytes and its Value.
	for length, want := range map[int][]int{50: {2}, 51: {1, 1}, 52: {1, 1}} {
		l := []api.Entry{put("a", 1, strings.Repeat("v", length)), put("b", 1, "")}
		if got := cuts(t, l, setup(64, 10)); !slices.Equal(got, want) {
			t.Errorf("a first entry of %d bytes: blocks of %d, want %d", 13+length, got, want)
		}
	}
}

// Restarts count for a block's size: four bytes for each sixteen entries.
func TestBlocksAreCutAtRestarts(t *testing.T) {
	l := rising(1000)
	for full := 64; full < 700; full++ {
		for i, n := range cuts(t, l, setup(full, 10))[:1] {
			if block.Size(l[:n]) < full || block.Size(l[:n-1]) >= full {
				t.Errorf("Block %d: block %d has %d entries", full, i, n)
			}
		}
	}
}

func TestAGreatEntryIsABlockAlone(t *testing.T) {
	value := strings.Repeat("v", 65536)
	l := []api.Entry{put("a", 1, value), put("b", 1, value), put("c", 1, "x"), put("d", 1, value), put("e", 1, "")}
	for full, want := range map[int][]int{64: {1, 1, 2, 1}, 65536: {1, 1, 2, 1}} {
		if got := cuts(t, l, setup(full, 10)); !slices.Equal(got, want) {
			t.Errorf("Block %d: blocks of %d, want %d", full, got, want)
		}
	}
	// A block's greatest size: one byte less than Block, and the greatest entry.
	l = []api.Entry{put("a", 1, value[:65520]), put(strings.Repeat("b", 4096), api.MaxSeq, value), put("c", 1, "")}
	if size := block.Size(l[:1]); size != 65535 {
		t.Fatalf("%d bytes", size)
	}
	if got := cuts(t, l, setup(65536, 10)); !slices.Equal(got, []int{2, 1}) {
		t.Errorf("blocks of %d", got)
	}
}

// One Key counts once for the filter, and may go on in the next block.
func TestOneKeyInManyBlocks(t *testing.T) {
	l := append([]api.Entry{put("a", 1, "")}, ofOneKey("key", 200)...)
	l = append(l, put("z", 1, ""))
	for _, bits := range []int{1, 10, 30, 32} {
		s := sheetOf(l, setup(64, bits))
		if got := made(t, l, setup(64, bits)); got != s.file() {
			t.Errorf("%d bits: %s, want %s", bits, shortly(got), shortly(s.file()))
		}
		want := max(3*bits+7, 64) / 8
		if len(s.filter) != 12+want+1 || len(s.blocks) < 10 || s.rows[3].key != "key" || s.rows[4].key != "key" || s.rows[3].seq <= s.rows[4].seq {
			t.Errorf("%d bits: a filter of %d bytes, want %d; %d blocks", bits, len(s.filter)-12, want+1, len(s.blocks))
		}
	}
}

// P10.1, Info

func TestInfoAsTold(t *testing.T) {
	l := []api.Entry{put("b", 7, "x"), put("c", 9, "x"), put("c", 3, "x"), put("dd", 4, "x")}
	i, e := table.Info(l, setup(64, 10))
	if e != api.OK || i.Entries != 4 || i.Blocks != 1 || string(i.Least) != "b" || string(i.Most) != "dd" || i.LeastSeq != 3 || i.MostSeq != 9 {
		t.Errorf("Info: %s, %d", toldInfo(i), e)
	}
	for what, l := range lists() {
		for _, s := range []api.TableSetup{setup(64, 10), setup(200, 3)} {
			b := made(t, l, s)
			x, _ := opened(t, b)
			i, e := table.Info(l, s)
			if toldInfo(i) != toldInfo(x.Info()) || e != api.OK || i.Size != len(b) {
				t.Errorf("%s: Info: %s, %d; the table tells %s", what, toldInfo(i), e, toldInfo(x.Info()))
			}
		}
	}
}

// P10.1, errors

func TestEntriesThatMayNotBe(t *testing.T) {
	good := rising(40)
	long := strings.Repeat("k", 4097)
	for what, c := range map[string]struct {
		e    api.Entry
		want api.Errno
	}{
		"Kind 0":             {api.Entry{Key: []byte("l"), Seq: 1}, api.ErrArg},
		"Kind 3":             {api.Entry{Key: []byte("l"), Seq: 1, Kind: 3}, api.ErrArg},
		"Kind -1":            {api.Entry{Key: []byte("l"), Seq: 1, Kind: -1}, api.ErrArg},
		"Seq 0":              {put("l", 0, ""), api.ErrArg},
		"no Key":             {put("", 1, ""), api.ErrArg},
		"a delete's Value":   {api.Entry{Key: []byte("l"), Seq: 1, Kind: 2, Value: []byte("x")}, api.ErrArg},
		"a Key too long":     {put(long, 1, ""), api.ErrLong},
		"a Value too long":   {put("l", 1, strings.Repeat("v", 65537)), api.ErrLong},
		"a Seq too great":    {put("l", api.MaxSeq+1, ""), api.ErrLong},
		"the greatest Seq":   {put("l", greatest, ""), api.ErrLong},
		"a delete, too long": {del(long, 1), api.ErrLong},
	} {
		for _, at := range []int{0, 1, 39, 40} {
			l := slices.Insert(slices.Clone(good), at, c.e)
			notMade(t, fmt.Sprint(what, " at ", at), l, setup(64, 10), c.want)
		}
		notMade(t, what+" alone", []api.Entry{c.e}, setup(64, 10), c.want)
		// Of two the first one counts.
		for what, first := range map[string]api.Entry{"no Key": put("", 1, ""), "a Key too long": put(long, 1, "")} {
			want := map[string]api.Errno{"no Key": api.ErrArg, "a Key too long": api.ErrLong}[what]
			notMade(t, what+" first", []api.Entry{good[0], first, c.e}, setup(64, 10), want)
			notMade(t, what+" behind", []api.Entry{good[0], c.e, first}, setup(64, 10), c.want)
		}
	}
}

func TestEntriesThatAreNotInOrder(t *testing.T) {
	for what, l := range map[string][]api.Entry{
		"none":                       nil,
		"an empty list":              {},
		"two Keys":                   {put("b", 1, ""), put("a", 1, "")},
		"a longer Key first":         {put("ab", 1, ""), put("a", 1, "")},
		"bytes above 127":            {put("\x80", 1, ""), put("\x7f", 1, "")},
		"the older one first":        {put("a", 1, ""), put("a", 2, "")},
		"one twice":                  {put("a", 1, ""), put("a", 1, "")},
		"one twice, once a delete":   {put("a", 1, ""), del("a", 1)},
		"one twice of many":          append(rising(40), rising(40)[39]),
		"the first one behind":       append(rising(40), rising(40)[0]),
		"in another block":           append([]api.Entry{put("key0001", 1, strings.Repeat("v", 100))}, rising(2)...),
		"the last two of a block":    append(rising(16), rising(15)[14]),
		"the first two of the next":  append(rising(17), rising(17)[15]),
		"one twice over two blocks":  {put("a", 1, strings.Repeat("v", 100)), put("a", 1, "")},
		"in order but for the first": append([]api.Entry{put("z", 1, "")}, rising(3)...),
	} {
		notMade(t, what, l, setup(64, 10), api.ErrArg)
	}
}

func TestTheFirstErrorCounts(t *testing.T) {
	long := put(strings.Repeat("k", 4097), 1, "")
	many := manyBytes(1 << 25)
	notMade(t, "a setup and no entries", nil, setup(63, 10), api.ErrArg)
	notMade(t, "a setup and an entry", []api.Entry{long}, setup(63, 10), api.ErrArg)
	notMade(t, "a setup and an entry", []api.Entry{long}, setup(64, 33), api.ErrArg)
	notMade(t, "a setup and too many bytes", many, setup(64, 0), api.ErrArg)
	notMade(t, "an entry behind two not in order", []api.Entry{put("b", 1, ""), put("a", 1, ""), long}, setup(64, 10), api.ErrLong)
	notMade(t, "an entry behind one that is there twice", []api.Entry{put("b", 1, ""), put("b", 1, ""), long}, setup(64, 10), api.ErrLong)
	notMade(t, "not in order and too many bytes", append(slices.Clone(many), many[0]), setup(64, 10), api.ErrArg)
	notMade(t, "twice and too many bytes", append(slices.Clone(many), many[len(many)-1]), setup(64, 10), api.ErrArg)
	notMade(t, "an entry and too many bytes", append(slices.Clone(many), put("z", 0, "")), setup(64, 10), api.ErrArg)
	notMade(t, "too many bytes", many, setup(64, 10), api.ErrLong)
}

// P10.1, too many bytes

// manyBytes answers entries with Values of so many bytes together.
func manyBytes(n int) []api.Entry {
	value := bytes.Repeat([]byte{'v'}, 65536)
	var l []api.Entry
	for ; n > 0; n -= len(value) {
		value = value[:min(n, len(value))]
		l = append(l, api.Entry{Key: fmt.Appendf(nil, "key%06d", len(l)), Seq: 1, Kind: 1, Value: value})
	}
	return l
}

func TestTheGreatestTable(t *testing.T) {
	for _, s := range []api.TableSetup{setup(65536, 10), setup(64, 1)} {
		l := append(manyBytes(255*65536), put("z", 1, strings.Repeat("v", 30000)))
		last := &l[len(l)-1]
		i, e := table.Info(l, s)
		fine(t, e)
		last.Value = make([]byte, 30000+api.MaxTable-i.Size)
		if len(last.Value) > 65536 || i.Size >= api.MaxTable {
			t.Fatalf("%v: %d bytes", s, i.Size)
		}
		b := made(t, l, s)
		if len(b) != api.MaxTable {
			t.Fatalf("%v: %d bytes", s, len(b))
		}
		x, _ := opened(t, b)
		tellsAll(t, x, l)
		gets(t, x, string(last.Key), 9, *last)
		if got, _ := table.Info(l, s); got.Size != api.MaxTable || toldInfo(got) != toldInfo(x.Info()) {
			t.Errorf("%v: Info: %s", s, toldInfo(got))
		}
		last.Value = append(last.Value, 0)
		notMade(t, "a byte more", l, s, api.ErrLong)
		last.Value = append(last.Value, make([]byte, 1000)...)
		notMade(t, "some more", l, s, api.ErrLong)
	}
	// Here the blocks alone have few enough bytes, or just too many.
	for n := 1<<24 - 30000; n <= 1<<24; n += 15000 {
		notMade(t, fmt.Sprint(n, " bytes of Values"), append(manyBytes(n-1), put("z", 1, strings.Repeat("v", 30000))), setup(65536, 1), api.ErrLong)
	}
	notMade(t, "far more", manyBytes(1<<26), setup(65536, 1), api.ErrLong)
	notMade(t, "far more in small blocks", manyBytes(1<<26), setup(64, 1), api.ErrLong)
}

// manyKeys answers n entries with keys of five bytes.
func manyKeys(n int) []api.Entry {
	l := make([]api.Entry, n)
	for i := range l {
		l[i] = api.Entry{Key: []byte{'k', byte(i >> 24), byte(i >> 16), byte(i >> 8), byte(i)}, Seq: 1, Kind: api.WriteDelete}
	}
	return l
}

// A filter of MaxBits has a byte more than a frame may have.
func TestTheGreatestFilter(t *testing.T) {
	s := setup(65536, 32)
	l := manyKeys(1<<18 - 1)
	b := made(t, l, s)
	x, _ := opened(t, b)
	if i := x.Info(); i.Entries != 1<<18-1 || i.Size != len(b) {
		t.Errorf("Info: %s", toldInfo(i))
	}
	gets(t, x, string(l[77777].Key), 1, l[77777])
	// Many entries of one Key more do not count for it.
	more := append(slices.Clone(l), del("l", 9), del("l", 8))[1:]
	notMade(t, "a Key more", append(slices.Clone(l), del("l", 9)), s, api.ErrLong)
	notMade(t, "two Keys more", append(slices.Clone(l), del("l", 9), del("m", 9)), s, api.ErrLong)
	if _, e := table.Make(more, s); e != api.OK {
		t.Errorf("Make of as many Keys with one twice: %d", e)
	}
	notMade(t, "far more Keys", manyKeys(1<<19), s, api.ErrLong)
	if _, e := table.Make(append(l, del("l", 9)), setup(65536, 31)); e != api.OK {
		t.Errorf("Make with fewer bits: %d", e)
	}
}

// longKeys answers n entries with the longest keys, each a block alone, and one
// more with a key of so many bytes.
func longKeys(n, last int) []api.Entry {
	var l []api.Entry
	for i := range n {
		l = append(l, put(string([]byte{'a', byte(i / 256), byte(i)})+strings.Repeat("k", 4093), 1, "x"))
	}
	return append(l, put("b"+strings.Repeat("z", last-1), 1, strings.Repeat("v", 100)))
}

func TestTheGreatestIndex(t *testing.T) {
	s := setup(64, 10)
	// The last key stands twice in the index. Each Seq of two bytes makes it a
	// byte longer.
	base := len(sheetOf(longKeys(253, 200), s).index())
	l := longKeys(253, 200+(api.MaxFrame-base-20)/2)
	for i := 0; len(sheetOf(l, s).index()) < api.MaxFrame; i++ {
		l[i].Seq = 128
	}
	if n := len(sheetOf(l, s).index()); n != api.MaxFrame {
		t.Fatalf("an index of %d bytes", n)
	}
	b := made(t, l, s)
	if b != sheetOf(l, s).file() {
		t.Errorf("Make: %s", shortly(b))
	}
	x, _ := opened(t, b)
	tellsAll(t, x, l)
	if n := x.Info().Blocks; n != 254 {
		t.Errorf("%d blocks", n)
	}
	l[100].Seq = 1 << 14
	if n := len(sheetOf(l, s).index()); n <= api.MaxFrame {
		t.Fatalf("an index of %d bytes", n)
	}
	notMade(t, "a byte more", l, s, api.ErrLong)
	notMade(t, "far more", longKeys(400, 4096), s, api.ErrLong)
	if _, e := table.Make(longKeys(400, 4096), setup(65536, 10)); e != api.OK {
		t.Errorf("Make of the same in fewer blocks: %d", e)
	}
}
