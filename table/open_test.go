package table_test

import (
	"fmt"
	"slices"
	"strings"
	"testing"

	"bootprint/api"
	"bootprint/table"
	"bootprint/vfs"
)

// P10.2, Open and Info of a table

func TestOpenAsTold(t *testing.T) {
	for what, l := range lists() {
		for _, s := range []api.TableSetup{setup(64, 10), setup(300, 1), setup(65536, 32)} {
			want := sheetOf(l, s)
			x, f := opened(t, want.file())
			if got := toldInfo(x.Info()); got != want.info() {
				t.Errorf("%s, %v: Info: %s, want %s", what, s, got, want.info())
			}
			reads(t, "behind Open", x, 0)
			took(t, "Open", f, 4, 3)
		}
	}
}

func TestOpenOfNoFileSystem(t *testing.T) {
	unmade := vfs.Fs{}
	for _, f := range []*vfs.Fs{nil, {}, new(vfs.Fs), &unmade} {
		for _, name := range []string{"", "t", "T", strings.Repeat("t", 65)} {
			if x, e := table.Open(f, name); x != nil || e != api.ErrNil {
				t.Errorf("Open of %q: %v, %d", name, x, e)
			}
		}
	}
}

// Also on a disk that is off: nothing is read.
func TestOpenOfNoFile(t *testing.T) {
	f := stored(t, made(t, rising(3), setup(64, 10)))
	for range 2 {
		before := f.Ops()
		for _, name := range []string{"u", "tt", "", "T", "t ", "t/", strings.Repeat("t", 64), strings.Repeat("t", 65)} {
			if x, e := table.Open(f, name); x != nil || e != api.ErrNone {
				t.Errorf("Open of %q: %v, %d", name, x, e)
			}
		}
		took(t, "Open", f, before, 0)
		fine(t, f.Fuse(0))
		f.SyncDir()
	}
	if f.On() {
		t.Error("the disk is on")
	}
	g := stored(t, made(t, rising(3), setup(64, 10)))
	fine(t, g.Remove("t"))
	if x, e := table.Open(g, "t"); x != nil || e != api.ErrNone {
		t.Errorf("Open of a file that went: %v, %d", x, e)
	}
}

func TestOpenOfTooFewOrTooManyBytes(t *testing.T) {
	for n := range 16 {
		notOpened(t, fmt.Sprint(n, " bytes"), strings.Repeat("\x00", n), api.ErrBad)
		notOpened(t, fmt.Sprint(n, " last bytes"), (inOrder(0) + "bootmark")[16-n:], api.ErrBad)
	}
	for _, at := range []uint64{0, 1, 8, 15, 16, 17, 100, 1 << 31, 1 << 32, 1 << 62, 1 << 63, greatest - 15, greatest} {
		notOpened(t, fmt.Sprint("16 bytes, the index at ", at), inOrder(at)+"bootmark", api.ErrBad)
	}
	// A table of too many bytes, all of them right.
	l := manyBytes(1<<24 + 30000)
	x := &sheet{kind: 4, mark: "bootmark", least: 1, most: 1, first: "key000000", filter: framed(3, "")}
	for n := 0; n < len(l); n += 3 {
		entries := l[n:min(n+3, len(l))]
		f := framed(2, blockOf(entries))
		at := uint64(0)
		if n > 0 {
			at = x.rows[len(x.rows)-1].at + x.rows[len(x.rows)-1].size
		}
		x.blocks, x.count, x.last = append(x.blocks, f), x.count+1, string(entries[len(entries)-1].Key)
		x.rows = append(x.rows, row{at, uint64(len(f)), x.last, 1})
	}
	s := x.file()
	notOpened(t, "more than MaxTable", s, api.ErrBad)
	// Without some of the first block's bytes: just as many as can be.
	over := len(s) - api.MaxTable
	for _, more := range []int{0, 1} {
		value := l[0].Value
		l[0].Value = value[:len(value)-over+more]
		f := framed(2, blockOf(l[:3]))
		lost := uint64(len(x.blocks[0]) - len(f))
		y := *x
		y.rows, y.blocks = slices.Clone(x.rows), slices.Clone(x.blocks)
		y.blocks[0] = f
		y.rows[0].size -= lost
		for i := range y.rows[1:] {
			y.rows[i+1].at -= lost
		}
		l[0].Value = value
		if n := len(y.file()); n != api.MaxTable+more {
			t.Fatalf("%d bytes", n)
		}
		if more == 1 {
			notOpened(t, "a byte more than MaxTable", y.file(), api.ErrBad)
		} else if x, _ := opened(t, y.file()); x.Info().Size != api.MaxTable {
			t.Errorf("Info: %s", toldInfo(x.Info()))
		}
	}
}

func TestOpenOfOtherEnds(t *testing.T) {
	l := rising(30)
	for _, mark := range []string{"bootmarK", "Bootmark", "bootmarc", "\x00\x00\x00\x00\x00\x00\x00\x00", "kramtoob"} {
		x := sheetOf(l, setup(64, 10))
		x.mark = mark
		notOpened(t, mark, x.file(), api.ErrBad)
	}
	s := made(t, l, setup(64, 10))
	for _, more := range []string{"\x00", "k", "bootmark", inOrder(0) + "bootmark", inOrder(0)} {
		notOpened(t, "bytes behind", s+more, api.ErrBad)
		notOpened(t, "bytes ahead", more+s, api.ErrBad)
	}
	for n := range len(s) {
		notOpened(t, fmt.Sprint("cut behind ", n), s[:n], api.ErrBad)
		if n > 0 {
			notOpened(t, fmt.Sprint("without the first ", n), s[n:], api.ErrBad)
		}
	}
}

func TestOpenOfAnotherPlace(t *testing.T) {
	x := sheetOf(rising(30), setup(64, 10))
	place := uint64(len(strings.Join(x.blocks, "") + x.filter))
	size := uint64(len(x.file()))
	for _, at := range []uint64{0, 1, place - 1, place + 1, place + 8, place - uint64(len(x.filter)), x.rows[1].at, size - 17, size - 16, size - 15, size - 8, size, size + 1,
		place + 1<<32, place + 1<<56, place + 1<<63, greatest, place << 8} {
		x.moved = at - place
		notOpened(t, fmt.Sprint("the index at ", at), x.file(), api.ErrBad)
	}
	x.moved = 0
	s := x.file()
	// The lowest byte first.
	b := []byte(s)
	slices.Reverse(b[len(b)-16 : len(b)-8])
	notOpened(t, "the lowest byte first", string(b), api.ErrBad)
	opened(t, s)
}

func TestOpenOfFramesThatAreNotWhole(t *testing.T) {
	l := rising(30)
	for kind := range 256 {
		x := sheetOf(l, setup(64, 10))
		x.kind = byte(kind)
		if kind != 4 {
			notOpened(t, fmt.Sprint("an index of the Kind ", kind), x.file(), api.ErrBad)
		}
		x = sheetOf(l, setup(64, 10))
		x.filter = framed(byte(kind), x.filter[8:len(x.filter)-4])
		if kind != 3 {
			notOpened(t, fmt.Sprint("a filter of the Kind ", kind), x.file(), api.ErrBad)
		}
	}
	filter := sheetOf(l, setup(64, 10)).filter
	for what, other := range map[string]string{
		"none":                    "",
		"a byte less":             filter[:len(filter)-1],
		"without the first byte":  filter[1:],
		"a head alone":            filter[:8],
		"less than a head":        filter[:7],
		"a byte more":             filter + "\x00",
		"a byte ahead":            "\x00" + filter,
		"two":                     filter + filter,
		"another one behind":      filter + framed(3, "\x00\x01"),
		"another one ahead":       framed(3, "\x00\x01") + filter,
		"a block more":            framed(2, "x") + filter,
		"a sum that is not right": filter[:len(filter)-1] + string(filter[len(filter)-1]^1),
		"a length of too much":    headFor(3, 1<<20+1) + strings.Repeat("x", 1<<20+1) + maskedSum(strings.Repeat("x", 1<<20+1)),
		"a length of more":        headFor(3, len(filter)) + filter[8:],
	} {
		x := sheetOf(l, setup(64, 10))
		x.filter = other
		notOpened(t, "a filter: "+what, x.file(), api.ErrBad)
	}
	for _, between := range []string{"\x00", "x", framed(3, ""), framed(4, ""), framed(2, "x"), strings.Repeat("\x00", 16)} {
		x := sheetOf(l, setup(64, 10))
		x.between = between
		notOpened(t, fmt.Sprintf("%q between filter and index", between), x.file(), api.ErrBad)
		x.between, x.behind = "", between
		notOpened(t, fmt.Sprintf("%q behind the index", between), x.file(), api.ErrBad)
		x.behind = ""
		x.blocks = append(x.blocks, between)
		notOpened(t, fmt.Sprintf("%q behind the blocks", between), x.file(), api.ErrBad)
		x.blocks = append([]string{between}, x.blocks[:len(x.blocks)-1]...)
		notOpened(t, fmt.Sprintf("%q ahead of the blocks", between), x.file(), api.ErrBad)
	}
	x := sheetOf(l, setup(64, 10))
	index := x.index()
	for n := range len(index) {
		notOpened(t, fmt.Sprint("an index cut behind ", n), x.with(index[:n]), api.ErrBad)
		notOpened(t, fmt.Sprint("an index without the byte at ", n), x.with(index[:n]+index[n+1:]), api.ErrBad)
	}
	opened(t, x.with(index))
}

// A filter may be any bytes: such as are none of a filter have all keys.
func TestOpenOfAnyFilter(t *testing.T) {
	l := rising(30)
	for _, filter := range []string{"", "x", "\x00", "\x00\x00", "\x00\x1f", "\x00\xff", "\xff\x01", strings.Repeat("\x00", 1<<20), strings.Repeat("\xff", 1<<20-1) + "\x1e"} {
		x := sheetOf(l, setup(64, 10))
		x.filter = framed(3, filter)
		y, _ := opened(t, x.file())
		if got := toldInfo(y.Info()); got != x.info() {
			t.Errorf("Info: %s, want %s", got, x.info())
		}
		tellsAll(t, y, l)
		gets(t, y, "key0001", 9, l[1])
		getsNone(t, y, "key00011", 9, api.ErrNone)
		reads(t, shortly(filter), y, len(x.rows)+2)
	}
	// This one has no key at all.
	x := sheetOf(l, setup(64, 10))
	x.filter = framed(3, "\x00\x00\x00\x00\x00\x00\x00\x00\x06")
	y, _ := opened(t, x.file())
	getsNone(t, y, "key0001", 9, api.ErrNone)
	reads(t, "no key", y, 0)
	tells(t, y, "key0001", 1, l[1:2])
}

func TestOpenOfAnIndexThatIsNotAsTold(t *testing.T) {
	l := rising(60)
	for what, change := range map[string]func(x *sheet){
		"no block":                        func(x *sheet) { x.count, x.rows, x.blocks = 0, nil, nil },
		"no block told":                   func(x *sheet) { x.count, x.rows = 0, nil },
		"a number of none":                func(x *sheet) { x.count = 0 },
		"a number of less":                func(x *sheet) { x.count-- },
		"a number of more":                func(x *sheet) { x.count++ },
		"a number of far more":            func(x *sheet) { x.count = 1 << 40 },
		"the greatest number":             func(x *sheet) { x.count = greatest },
		"a place not at 0":                func(x *sheet) { x.rows[0].at = 1 },
		"a place not at 0, less size":     func(x *sheet) { x.rows[0].at++; x.rows[0].size-- },
		"the first block not told":        func(x *sheet) { x.count--; x.rows = x.rows[1:] },
		"a block between not told":        func(x *sheet) { x.count--; x.rows = slices.Delete(x.rows, 2, 3) },
		"the last block not told":         func(x *sheet) { x.count--; x.rows = x.rows[:len(x.rows)-1]; x.last = x.rows[len(x.rows)-1].key },
		"a place one on":                  func(x *sheet) { x.rows[2].at++ },
		"a place one back":                func(x *sheet) { x.rows[2].at-- },
		"a place one on, and less":        func(x *sheet) { x.rows[2].at++; x.rows[2].size-- },
		"a place one back, and more":      func(x *sheet) { x.rows[2].at--; x.rows[2].size++ },
		"a size of more":                  func(x *sheet) { x.rows[2].size++ },
		"a size of less":                  func(x *sheet) { x.rows[2].size-- },
		"no size":                         func(x *sheet) { x.rows[2].size = 0 },
		"the last size of more":           func(x *sheet) { x.rows[len(x.rows)-1].size++ },
		"the last size of less":           func(x *sheet) { x.rows[len(x.rows)-1].size-- },
		"the last one over the filter":    func(x *sheet) { x.rows[len(x.rows)-1].size += uint64(len(x.filter)) },
		"the last one over the index":     func(x *sheet) { x.rows[len(x.rows)-1].size += uint64(len(x.filter)) + 1 },
		"a size that wraps":               func(x *sheet) { x.rows[0].size = greatest; x.rows[1].at = greatest },
		"a place that wraps":              func(x *sheet) { x.rows[1].at += 1 << 63 },
		"a size below 0":                  func(x *sheet) { x.rows[0].size += 1 << 63; x.rows[1].at += 1 << 63 },
		"a size and its place, 32 bits":   func(x *sheet) { x.rows[0].size += 1 << 32; x.rows[1].at += 1 << 32 },
		"two places swapped":              func(x *sheet) { x.rows[1].at, x.rows[2].at = x.rows[2].at, x.rows[1].at },
		"one place twice":                 func(x *sheet) { x.rows[2].at = x.rows[1].at },
		"all places 0":                    func(x *sheet) { x.eachRow(func(r *row) { r.at = 0 }) },
		"two keys swapped":                func(x *sheet) { x.rows[1].key, x.rows[2].key = x.rows[2].key, x.rows[1].key },
		"a key too low":                   func(x *sheet) { x.rows[2].key = "a" },
		"a key too high":                  func(x *sheet) { x.rows[2].key = "z" },
		"the same entry twice":            func(x *sheet) { x.rows[2].key, x.rows[2].seq = x.rows[1].key, x.rows[1].seq },
		"the older one first":             func(x *sheet) { x.rows[2].key, x.rows[2].seq = x.rows[1].key, x.rows[1].seq+1 },
		"the last one too low":            func(x *sheet) { x.rows[len(x.rows)-1].key, x.last = "a", "a" },
		"the first one too high":          func(x *sheet) { x.rows[0].key = "z" },
		"no key behind a key":             func(x *sheet) { x.rows[2].key = "" },
		"a byte behind":                   func(x *sheet) { x.more = "\x00" },
		"bytes behind":                    func(x *sheet) { x.more = "more" },
		"a piece more":                    func(x *sheet) { x.more = pieceOf("key") },
		"no piece of the last key":        func(x *sheet) { x.last = "" },
		"a last key of none of the block": func(x *sheet) { x.last = "key9999" },
		"a last key and a byte":           func(x *sheet) { x.last += "\x00" },
		"a number of too many entries":    func(x *sheet) { x.entries = 1 << 63 },
		"the greatest number of entries":  func(x *sheet) { x.entries = greatest },
	} {
		x := sheetOf(l, setup(64, 10))
		if len(x.rows) < 5 {
			t.Fatalf("%d blocks", len(x.rows))
		}
		change(x)
		notOpened(t, what, x.file(), api.ErrBad)
	}
}

func (x *sheet) eachRow(do func(r *row)) {
	for i := range x.rows {
		do(&x.rows[i])
	}
}

// Each number of an index, in more bytes than it needs, or too great.
func TestOpenOfNumbersThatAreNone(t *testing.T) {
	l := []api.Entry{put("aa", 5, strings.Repeat("v", 60)), put("bb", 7, strings.Repeat("v", 60))}
	x := sheetOf(l, setup(64, 10))
	parts := []string{short(2)}
	for _, r := range x.rows {
		parts = append(parts, short(r.at), short(r.size), short(2), r.key, short(r.seq))
	}
	parts = append(parts, short(2), short(5), short(7), short(2), "aa", short(2), "bb")
	if s := strings.Join(parts, ""); s != x.index() {
		t.Fatalf("%q, want %q", s, x.index())
	}
	opened(t, x.with(strings.Join(parts, "")))
	for i, part := range parts {
		if part == "aa" || part == "bb" {
			continue
		}
		ends := len(part) - 1
		for _, long := range []string{
			part[:ends] + string([]byte{part[ends] + 128, 0}),
			part[:ends] + string([]byte{part[ends] + 128, 128, 0}),
			part[:ends] + string([]byte{part[ends] + 128}) + strings.Repeat("\x80", 8-ends) + "\x00",
			part[:ends] + string([]byte{part[ends] + 128}) + strings.Repeat("\x80", 8-ends) + "\x02",
			part[:ends] + string([]byte{part[ends] + 128}) + strings.Repeat("\x80", 9-ends) + "\x00",
			strings.Repeat("\xff", 10) + "\x01",
			strings.Repeat("\x80", 10),
			"",
		} {
			other := slices.Clone(parts)
			other[i] = long
			notOpened(t, fmt.Sprintf("number %d as %q", i, long), x.with(strings.Join(other, "")), api.ErrBad)
		}
	}
	// Pieces that are too long, or longer than what is left.
	for _, i := range []int{3, 8, 14, 16} {
		for _, length := range []uint64{3, 5, 100, 1 << 20, 1<<20 + 1, 1 << 32, 1 << 63, greatest} {
			other := slices.Clone(parts)
			other[i] = short(length)
			notOpened(t, fmt.Sprintf("a piece of %d bytes at %d", length, i), x.with(strings.Join(other, "")), api.ErrBad)
		}
	}
}

// Blocks are not read, and what the index tells of their entries is not
// compared with them.
func TestOpenReadsNoBlock(t *testing.T) {
	l := rising(30)
	for what, change := range map[string]func(x *sheet){
		"blocks of other bytes":      func(x *sheet) { x.blocks[1] = strings.Repeat("x", len(x.blocks[1])) },
		"all blocks of other bytes":  func(x *sheet) { x.blocks = []string{strings.Repeat("\x00", len(strings.Join(x.blocks, "")))} },
		"blocks swapped":             func(x *sheet) { x.blocks[0], x.blocks[1] = x.blocks[1], x.blocks[0] },
		"more entries":               func(x *sheet) { x.entries++ },
		"no entries":                 func(x *sheet) { x.entries = 0 },
		"as many as can be":          func(x *sheet) { x.entries = greatestInt },
		"another least Seq":          func(x *sheet) { x.least = 3 },
		"another greatest Seq":       func(x *sheet) { x.most = 1000 },
		"the least above":            func(x *sheet) { x.least, x.most = 9, 1 },
		"Seqs that may not be":       func(x *sheet) { x.least, x.most = 0, greatest },
		"another first Key":          func(x *sheet) { x.first = "a" },
		"a first Key behind all":     func(x *sheet) { x.first = "z" },
		"no first Key":               func(x *sheet) { x.first = "" },
		"a first Key of many bytes":  func(x *sheet) { x.first = strings.Repeat("k", 5000) },
		"another last entry":         func(x *sheet) { x.rows[2].key += "\x00" },
		"another last entry's Seq":   func(x *sheet) { x.rows[2].seq++ },
		"another last one of all":    func(x *sheet) { x.rows[len(x.rows)-1].key += "!"; x.last += "!" },
		"a last entry's Key, long":   func(x *sheet) { x.rows[2].key += strings.Repeat("k", 5000) },
		"a last entry's Seq 0":       func(x *sheet) { x.rows[2].seq = 0 },
		"a last entry's greatest":    func(x *sheet) { x.rows[2].seq = greatest },
		"sizes of no frames, a seam": func(x *sheet) { x.rows[1].size--; x.rows[2].at--; x.rows[2].size++ },
	} {
		x := sheetOf(l, setup(64, 10))
		change(x)
		y, f := opened(t, x.file())
		if got := toldInfo(y.Info()); got != x.info() {
			t.Errorf("%s: Info: %s, want %s", what, got, x.info())
		}
		took(t, what, f, 4, 3)
		reads(t, what, y, 0)
	}
	// One block of bytes that are none.
	for _, s := range []string{"", "x", strings.Repeat("x", 100)} {
		x := sheetOf(l[:1], setup(64, 10))
		x.blocks[0], x.rows[0].size = s, uint64(len(s))
		y, _ := opened(t, x.file())
		getsNone(t, y, "key0000", 9, api.ErrBad)
		reads(t, "bytes that are none", y, 1)
	}
}

// Indexes that are drawn upon, held against a table by the chapter's words.
func TestDrawnIndexesAsTold(t *testing.T) {
	d := source(5)
	right := 0
	for i := range 3000 {
		x := sheetOf(d.entries(1+d.below(30)), setup(64, 1+d.below(12)))
		b := []byte(x.index())
		for range d.below(3) {
			n := d.below(len(b))
			switch d.below(5) {
			case 0:
				b[n] ^= 1 << d.below(8)
			case 1:
				b[n] = byte(d.below(6))
			case 2:
				b = slices.Insert(b, n, byte(d.below(256)))
			case 3:
				b = slices.Delete(b, n, n+1)
			case 4:
				m := d.below(len(b))
				b[n], b[m] = b[m], b[n]
			}
			if len(b) == 0 {
				break
			}
		}
		s := x.with(string(b))
		agree(t, fmt.Sprintf("drawn index %d, %q", i, b), s, []string{"a", "\x00"}, sound)
		if _, e := openPlain(stored(t, s), "t"); e == api.OK {
			right++
		}
	}
	if right < 1000 || right > 2500 {
		t.Errorf("%d of the drawn indexes are right: too few, or too many", right)
	}
}

// P10.2, the operations

func TestOperationsOfOpen(t *testing.T) {
	s := made(t, rising(30), setup(64, 10))
	for n := range 5 {
		for _, fault := range []api.Errno{api.ErrIO, api.ErrFull} {
			f := stored(t, s)
			fine(t, f.Fault(n, fault))
			x, e := table.Open(f, "t")
			took(t, "Open", f, 4, min(n+1, 3))
			if n < 3 && (x != nil || e != fault) || n >= 3 && (x == nil || e != api.OK) {
				t.Errorf("a fault behind %d operations: %v, %d", n, x, e)
			}
			// It is gone by now, or strikes later.
			fine(t, f.Fault(-1, fault))
			if x, e := table.Open(f, "t"); x == nil || e != api.OK {
				t.Errorf("Open again: %v, %d", x, e)
			}
		}
		f := stored(t, s)
		fine(t, f.Fuse(n))
		x, e := table.Open(f, "t")
		took(t, "Open", f, 4, min(n+1, 3))
		if n < 3 && (x != nil || e != api.ErrOff || f.On()) || n >= 3 && (x == nil || e != api.OK || !f.On()) {
			t.Errorf("a fuse behind %d operations: %v, %d", n, x, e)
		}
		if n >= 3 {
			continue
		}
		if x, e := table.Open(f, "t"); x != nil || e != api.ErrOff {
			t.Errorf("Open of a disk that is off: %v, %d", x, e)
		}
		fine(t, f.Crash(0, nil))
		if x, e := table.Open(f, "t"); x == nil || e != api.OK {
			t.Errorf("Open behind a crash: %v, %d", x, e)
		}
	}
}

// Each part is read once, the end first: what is bad ends it, and the file
// system's error ahead of that is answered.
func TestOperationsOfOpenOfBadBytes(t *testing.T) {
	l := rising(30)
	end, index, filter := sheetOf(l, setup(64, 10)), sheetOf(l, setup(64, 10)), sheetOf(l, setup(64, 10))
	end.mark, index.kind, filter.filter = "bootmarc", 5, framed(4, "x")
	told := sheetOf(l, setup(64, 10))
	told.entries = greatest
	for _, c := range []struct {
		what string
		s    string
		ops  int
	}{
		{"no bytes", "", 1},
		{"15 bytes", strings.Repeat("x", 15), 1},
		{"the end", end.file(), 1},
		{"the index's place", inOrder(1) + "bootmark", 1},
		{"the index's frame", index.file(), 2},
		{"the index", told.file(), 2},
		{"the filter", filter.file(), 3},
		{"too many bytes", strings.Repeat("x", api.MaxTable) + end.file(), 1},
	} {
		for n := range 4 {
			f := stored(t, c.s)
			fine(t, f.Fault(n, api.ErrIO))
			want := api.ErrBad
			if n < c.ops {
				want = api.ErrIO
			}
			if x, e := table.Open(f, "t"); x != nil || e != want {
				t.Errorf("%s, a fault behind %d operations: %v, %d; want %d", c.what, n, x, e, want)
			}
			took(t, c.what, f, 4, min(n+1, c.ops))
		}
		f := stored(t, c.s)
		fine(t, f.Fuse(0))
		f.SyncDir()
		if x, e := table.Open(f, "t"); x != nil || e != api.ErrOff {
			t.Errorf("%s, a disk that is off: %v, %d", c.what, x, e)
		}
	}
}

func TestInfoIsWhatOpenRead(t *testing.T) {
	s := sheetOf(rising(30), setup(64, 10))
	x, f := opened(t, s.file())
	before := f.Ops()
	fine(t, f.Append("t", []byte("more")), f.Fault(0, api.ErrIO))
	for range 3 {
		if got := toldInfo(x.Info()); got != s.info() {
			t.Errorf("Info: %s, want %s", got, s.info())
		}
	}
	took(t, "Info", f, before, 1)
	fine(t, f.Fault(-1, api.ErrIO), f.Remove("t"))
	if got := toldInfo(x.Info()); got != s.info() {
		t.Errorf("Info: %s, want %s", got, s.info())
	}
}
