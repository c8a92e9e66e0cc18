package table_test

import (
	"fmt"
	"slices"
	"strings"
	"testing"

	"bootprint/api"
	"bootprint/vfs"
)

// P10.3, Get

func TestGetOfEachEntry(t *testing.T) {
	for what, l := range lists() {
		x, f := opened(t, made(t, l, setup(64, 10)))
		for i, e := range l {
			before := f.Ops()
			gets(t, x, string(e.Key), e.Seq, e)
			took(t, what, f, before, 1)
			reads(t, what, x, i+1)
		}
	}
}

// A key with gaps between its Seqs, in one block and over several.
func TestGetOfEachSeq(t *testing.T) {
	for _, length := range []int{0, 10, 50, 100} {
		value := strings.Repeat("v", length)
		l := []api.Entry{put("a", 7, value), put("k", 90, value), put("k", 50, value), del("k", 49), put("k", 20, value), put("z", 5, value)}
		x, _ := opened(t, made(t, l, setup(64, 10)))
		for seq, want := range map[uint64]int{greatest: 1, api.MaxSeq: 1, 91: 1, 90: 1, 89: 2, 51: 2, 50: 2, 49: 3, 48: 4, 21: 4, 20: 4} {
			gets(t, x, "k", seq, l[want])
		}
		for _, seq := range []uint64{0, 1, 19} {
			getsNone(t, x, "k", seq, api.ErrNone)
			getsNone(t, x, "z", min(seq, 4), api.ErrNone)
		}
		gets(t, x, "a", 7, l[0])
		getsNone(t, x, "a", 6, api.ErrNone)
		gets(t, x, "z", 5, l[5])
		getsNone(t, x, "z", 4, api.ErrNone)
	}
}

// Below its least Seq, the first that is not ahead is another key's: in the
// same block, in the next one, or nowhere.
func TestGetBelowTheLeastSeq(t *testing.T) {
	value := strings.Repeat("v", 60)
	l := []api.Entry{put("a", 5, value), put("b", 5, ""), put("c", 5, value), put("d", 5, value)}
	x, f := opened(t, made(t, l, setup(64, 10)))
	for i, c := range []struct {
		key  string
		read int
	}{{"a", 1}, {"b", 1}, {"c", 1}, {"d", 0}} {
		before, so := f.Ops(), x.Reads()
		getsNone(t, x, c.key, 4, api.ErrNone)
		took(t, c.key, f, before, c.read)
		reads(t, fmt.Sprint("behind Get ", i), x, so+c.read)
	}
}

func TestGetOfAKeyThatIsNotThere(t *testing.T) {
	l := rising(40)
	s := sheetOf(l, setup(64, 10))
	x, f := opened(t, s.file())
	filter := s.filter[8 : len(s.filter)-4]
	for i := range len(l) - 1 {
		ahead, behind := string(l[i].Key), string(l[i+1].Key)
		for _, key := range unknown(t, filter, ahead, behind, false, 3) {
			before, so := f.Ops(), x.Reads()
			getsNone(t, x, key, 9, api.ErrNone)
			took(t, "a key that the filter has not", f, before, 0)
			reads(t, "a key that the filter has not", x, so)
		}
		for _, key := range unknown(t, filter, ahead, behind, true, 1) {
			before, so := f.Ops(), x.Reads()
			getsNone(t, x, key, 9, api.ErrNone)
			took(t, "a key that the filter alone has", f, before, 1)
			reads(t, "a key that the filter alone has", x, so+1)
		}
	}
	// Ahead of all a block is read; behind all none is.
	for _, c := range []struct {
		ahead, behind string
		read          int
	}{{"a", "b", 1}, {"z", "zz", 0}} {
		for _, key := range unknown(t, filter, c.ahead, c.behind, true, 3) {
			before, so := f.Ops(), x.Reads()
			getsNone(t, x, key, 9, api.ErrNone)
			took(t, "a key beside all", f, before, c.read)
			reads(t, "a key beside all", x, so+c.read)
		}
	}
}

// Only the one block is read: whatever becomes of the others.
func TestGetReadsTheOneBlock(t *testing.T) {
	l := append(rising(30), ofOneKey("kez", 30)...)
	s := sheetOf(l, setup(64, 10))
	at := 0
	for i := range s.blocks {
		x, f := opened(t, s.file())
		for j, r := range s.rows {
			if j != i {
				fine(t, f.Turn("t", int(r.at)+9, 1))
			}
		}
		for range s.perBlock[i] {
			gets(t, x, string(l[at].Key), l[at].Seq, l[at])
			at++
		}
		for j, r := range s.rows {
			if j != i {
				getsNone(t, x, r.key, r.seq, api.ErrBad)
			}
		}
	}
	if at != len(l) {
		t.Errorf("%d entries of %d", at, len(l))
	}
}

// P10.3, From

func TestFromAsTold(t *testing.T) {
	for what, l := range lists() {
		if len(l) > 200 {
			continue
		}
		x, _ := opened(t, made(t, l, setup(64, 10)))
		for _, key := range asks(l) {
			want := slices.DeleteFunc(slices.Clone(l), func(e api.Entry) bool { return string(e.Key) < key })
			for _, n := range []int{-greatestInt - 1, -1, 0, 1, 2, 3, len(want) - 1, len(want), len(want) + 1, greatestInt} {
				some := want[:min(max(n, 0), len(want))]
				if got, e := x.From([]byte(key), n); !same(got, some) || e != api.OK {
					t.Fatalf("%s: From %s %d: %s, %d; want %s", what, shortly(key), n, shortly(told(got...)), e, shortly(told(some...)))
				}
			}
		}
	}
}

// No block is read, once there are enough.
func TestBlocksThatFromReads(t *testing.T) {
	l := append(rising(30), ofOneKey("kez", 30)...)
	s := sheetOf(l, setup(64, 10))
	if len(s.rows) < 6 {
		t.Fatalf("%d blocks", len(s.rows))
	}
	x, f := opened(t, s.file())
	for first, e := range l {
		if first > 0 && string(l[first-1].Key) == string(e.Key) {
			continue // the first one of its key counts
		}
		for n := -2; n < len(l)+3; n++ {
			// From first on, so many blocks till there are n.
			want, end := 0, 0
			for _, size := range s.perBlock {
				begin := end
				end += size
				if end > first && max(begin, first) < first+n {
					want++
				}
			}
			before, so := f.Ops(), x.Reads()
			tells(t, x, string(e.Key), n, l[first:min(first+max(n, 0), len(l))])
			took(t, fmt.Sprintf("From %q %d", e.Key, n), f, before, want)
			reads(t, fmt.Sprintf("From %q %d", e.Key, n), x, so+want)
		}
	}
	// Behind the last one there is no block to read.
	before, so := f.Ops(), x.Reads()
	for _, key := range []string{"kez\x00", "z", "\xff"} {
		tells(t, x, key, 5, nil)
	}
	took(t, "behind the last one", f, before, 0)
	reads(t, "behind the last one", x, so)
	// A key between two blocks is looked for in the one behind.
	tells(t, x, s.rows[0].key+"\x00", 1, l[s.perBlock[0]:s.perBlock[0]+1])
	reads(t, "between two blocks", x, so+1)
}

// A block that is bad counts only if it is read.
func TestFromOverBadBlocks(t *testing.T) {
	l := rising(60)
	s := sheetOf(l, setup(64, 10))
	ends := []int{0}
	for _, n := range s.perBlock {
		ends = append(ends, ends[len(ends)-1]+n)
	}
	for bad := range s.rows {
		x, f := opened(t, s.file())
		fine(t, f.Turn("t", int(s.rows[bad].at)+15, 4))
		for i := range s.rows {
			first := string(l[ends[i]].Key)
			so := x.Reads()
			if i <= bad {
				// Enough ahead of it, or one more.
				tells(t, x, first, ends[bad]-ends[i], l[ends[i]:ends[bad]])
				got, e := x.From([]byte(first), ends[bad]-ends[i]+1)
				tellsNone(t, "From", got, e, api.ErrBad)
				reads(t, "From", x, so+2*(bad-i)+1)
			} else {
				tells(t, x, first, 1000, l[ends[i]:])
				reads(t, "From", x, so+len(s.rows)-i)
			}
		}
		so := x.Reads()
		got, e := x.All()
		tellsNone(t, "All", got, e, api.ErrBad)
		reads(t, "All", x, so+bad+1)
	}
}

// P10.3, All and Reads

func TestAllAsTold(t *testing.T) {
	for what, l := range lists() {
		for _, s := range []api.TableSetup{setup(64, 10), setup(1000, 1), setup(65536, 32)} {
			want := sheetOf(l, s)
			x, f := opened(t, want.file())
			for i := range 3 {
				before := f.Ops()
				tellsAll(t, x, l)
				took(t, what, f, before, len(want.rows))
				reads(t, what, x, (i+1)*len(want.rows))
			}
		}
	}
}

func TestReadsCountsAllCalls(t *testing.T) {
	l := rising(60)
	s := sheetOf(l, setup(64, 10))
	x, f := opened(t, s.file())
	blocks := len(s.rows)
	reads(t, "at first", x, 0)
	gets(t, x, "key0003", 9, l[3])
	reads(t, "behind Get", x, 1)
	gets(t, x, "key0003", 9, l[3])
	reads(t, "behind the same again", x, 2)
	tells(t, x, "key0003", 1, l[3:4])
	reads(t, "behind From", x, 3)
	tellsAll(t, x, l)
	reads(t, "behind All", x, 3+blocks)
	// Those with an error count, whichever it is.
	fine(t, f.Fault(0, api.ErrIO))
	getsNone(t, x, "key0003", 9, api.ErrIO)
	reads(t, "behind a fault", x, 4+blocks)
	fine(t, f.Fault(1, api.ErrFull))
	got, e := x.All()
	tellsNone(t, "All", got, e, api.ErrFull)
	reads(t, "behind a fault of the second", x, 6+blocks)
	fine(t, f.Turn("t", 10, 255))
	getsNone(t, x, "key0000", 9, api.ErrBad)
	reads(t, "behind a bad block", x, 7+blocks)
	fine(t, f.Fuse(0))
	got, e = x.From([]byte("key0001"), 5)
	tellsNone(t, "From", got, e, api.ErrOff)
	reads(t, "when the fuse goes off", x, 8+blocks)
	getsNone(t, x, "key0003", 9, api.ErrOff)
	reads(t, "when the disk is off", x, 9+blocks)
	tells(t, x, "key0003", 0, nil)
	tells(t, x, "z", 9, nil)
	reads(t, "when nothing is read", x, 9+blocks)
}

// P10.3, errors

// bad are changes of one block's frame, at which Open does not look.
func bad(l []api.Entry) map[string]func(x *sheet) {
	// reframed puts another frame in the place of the block at 1.
	reframed := func(x *sheet, f string) {
		lost := len(x.blocks[1]) - len(f)
		x.blocks[1] = f
		x.rows[1].size -= uint64(lost)
		for i := 2; i < len(x.rows); i++ {
			x.rows[i].at -= uint64(lost)
		}
	}
	body := func(x *sheet) string { return x.blocks[1][8 : len(x.blocks[1])-4] }
	entries := func(x *sheet) []api.Entry { return slices.Clone(l[x.perBlock[0]:][:x.perBlock[1]]) }
	bads := map[string]func(x *sheet){
		"no bytes":               func(x *sheet) { reframed(x, "") },
		"a head alone":           func(x *sheet) { reframed(x, x.blocks[1][:8]) },
		"less than a head":       func(x *sheet) { reframed(x, x.blocks[1][:7]) },
		"a byte less":            func(x *sheet) { reframed(x, x.blocks[1][:len(x.blocks[1])-1]) },
		"a byte more":            func(x *sheet) { reframed(x, x.blocks[1]+"\x00") },
		"two frames":             func(x *sheet) { reframed(x, x.blocks[1]+framed(2, "")) },
		"a byte ahead":           func(x *sheet) { reframed(x, "\x00"+x.blocks[1]) },
		"a seam one back":        func(x *sheet) { x.rows[1].size--; x.rows[2].at--; x.rows[2].size++ },
		"a seam one on":          func(x *sheet) { x.rows[1].size++; x.rows[2].at++; x.rows[2].size-- },
		"a first sum":            func(x *sheet) { x.blocks[1] = x.blocks[1][:5] + "\x00\x00\x00" + x.blocks[1][8:] },
		"a second sum":           func(x *sheet) { x.blocks[1] = x.blocks[1][:len(x.blocks[1])-4] + "\x00\x00\x00\x00" },
		"an empty Body":          func(x *sheet) { reframed(x, framed(2, "")) },
		"a Body of no block":     func(x *sheet) { reframed(x, framed(2, "no block")) },
		"a block and a byte":     func(x *sheet) { reframed(x, framed(2, body(x)+"\x00")) },
		"a block, one byte less": func(x *sheet) { reframed(x, framed(2, body(x)[1:])) },
		"no entries":             func(x *sheet) { reframed(x, framed(2, "\x00\x00\x00\x00")) },
		"a block too long": func(x *sheet) {
			last := entries(x)[x.perBlock[1]-1]
			reframed(x, framed(2, blockOf([]api.Entry{put("a", 9, strings.Repeat("v", 65536)), put("b", 9, strings.Repeat("v", 65536)),
				put("c", 9, strings.Repeat("v", 65536)), put("d", 9, strings.Repeat("v", 65536)), last})))
		},
		"a frame too long": func(x *sheet) {
			s := strings.Repeat("x", 1<<20+1)
			reframed(x, headFor(2, len(s))+s+maskedSum(s))
		},
		"without the last entry": func(x *sheet) { reframed(x, framed(2, blockOf(entries(x)[:x.perBlock[1]-1]))) },
		"an entry more": func(x *sheet) {
			reframed(x, framed(2, blockOf(append(entries(x), put(x.rows[1].key+"\x00", 1, "")))))
		},
		"an older entry more": func(x *sheet) {
			l := entries(x)
			l[len(l)-1].Seq++
			reframed(x, framed(2, blockOf(l)))
		},
		"another last Key": func(x *sheet) {
			l := entries(x)
			l[len(l)-1].Key = append(slices.Clone(l[len(l)-1].Key), 0)
			reframed(x, framed(2, blockOf(l)))
		},
		"the next block's entries":   func(x *sheet) { reframed(x, x.blocks[2]) },
		"the block ahead":            func(x *sheet) { reframed(x, x.blocks[0]) },
		"another last Key told":      func(x *sheet) { x.rows[1].key += "\x00" },
		"a shorter last Key told":    func(x *sheet) { x.rows[1].key = x.rows[1].key[:6] + string(x.rows[1].key[6]-1) + "x" },
		"a greater last Seq told":    func(x *sheet) { x.rows[1].seq++ },
		"a lower last Seq told":      func(x *sheet) { x.rows[1].seq-- },
		"a last Seq far above told":  func(x *sheet) { x.rows[1].seq += 1 << 32 },
		"a last Seq above all told":  func(x *sheet) { x.rows[1].seq = greatest },
		"a last Seq that wraps told": func(x *sheet) { x.rows[1].seq += 1 << 56 },
		"entries not in order": func(x *sheet) {
			l := entries(x)
			l[0], l[1] = l[1], l[0]
			reframed(x, framed(2, blockOf(l)))
		},
		"an entry that may not be": func(x *sheet) {
			l := entries(x)
			l[0].Seq = 0
			reframed(x, framed(2, blockOf(l)))
		},
	}
	for _, kind := range []byte{0, 1, 3, 4, 5, 130, 255} {
		bads[fmt.Sprint("the Kind ", kind)] = func(x *sheet) { reframed(x, framed(kind, body(x))) }
	}
	return bads
}

func TestBadBlocks(t *testing.T) {
	l := rising(60)
	for what, change := range bad(l) {
		s := sheetOf(l, setup(64, 10))
		if len(s.rows) < 4 || s.perBlock[1] < 3 {
			t.Fatalf("blocks of %d", s.perBlock)
		}
		change(s)
		// What lies in the block is bad, and nothing else.
		from, to := s.perBlock[0], s.perBlock[0]+s.perBlock[1]
		x, _ := opened(t, s.file())
		if strings.HasPrefix(what, "a seam") {
			to += s.perBlock[2] // that one is not right either
		}
		for i, e := range l {
			so := x.Reads()
			switch {
			case i >= from && i < to-1:
				getsNone(t, x, string(e.Key), e.Seq, api.ErrBad)
			case i < from || i >= to:
				gets(t, x, string(e.Key), e.Seq, e)
			default:
				continue // by an index that tells it wrong it may be looked for in the next one
			}
			if t.Failed() {
				t.Fatalf("%s: entry %d", what, i)
			}
			reads(t, what, x, so+1)
		}
		tells(t, x, "", from, l[:from])
		tells(t, x, string(l[to].Key), 1000, l[to:])
		got, e := x.From(nil, from+1)
		tellsNone(t, what, got, e, api.ErrBad)
		got, e = x.All()
		tellsNone(t, what, got, e, api.ErrBad)
		agree(t, what, s.file(), asks(l), sound)
	}
}

// A fault, a fuse at each operation of some calls, and a disk that is off, held
// against a table by the chapter's words.
func TestErrorsOfTheFileSystem(t *testing.T) {
	l := append(rising(12), ofOneKey("kez", 12)...)
	s := sheetOf(l, setup(64, 10))
	keys := []string{"", "key0003", "kez", "key0009x", "z"}
	ops := agree(t, "sound", s.file(), keys, sound)
	if ops < 15 {
		t.Fatalf("%d operations", ops)
	}
	for n := range ops + 1 {
		for _, fault := range []api.Errno{api.ErrIO, api.ErrFull} {
			agree(t, fmt.Sprintf("a fault %d behind %d operations", fault, n), s.file(), keys, func(f *vfs.Fs) api.Errno { return f.Fault(n, fault) })
		}
		agree(t, fmt.Sprintf("a fuse behind %d operations", n), s.file(), keys, func(f *vfs.Fs) api.Errno { return f.Fuse(n) })
	}
}

// The file system's error comes ahead of what is bad, in a block too.
func TestErrorsOfTheFileSystemAreFirst(t *testing.T) {
	l := rising(30)
	x, f := opened(t, made(t, l, setup(64, 10)))
	fine(t, f.Turn("t", 9, 1), f.Fault(0, api.ErrIO))
	getsNone(t, x, "key0000", 9, api.ErrIO)
	getsNone(t, x, "key0000", 9, api.ErrBad)
	// A file that went, and one that was cut.
	fine(t, f.Rename("t", "u"))
	getsNone(t, x, "key0000", 9, api.ErrNone)
	got, e := x.All()
	tellsNone(t, "All", got, e, api.ErrNone)
	fine(t, f.Create("t"), f.Append("t", []byte("other bytes")))
	got, e = x.All()
	tellsNone(t, "All", got, e, api.ErrBad)
	// Info stays as it was read.
	if i := x.Info(); i.Entries != 30 {
		t.Errorf("Info: %s", toldInfo(i))
	}
}

// What is there again is read again: a call with an error spoils nothing.
func TestCallsGoOnBehindAnError(t *testing.T) {
	l := rising(30)
	x, f := opened(t, made(t, l, setup(64, 10)))
	for n := range 3 {
		fine(t, f.Fault(n, api.ErrIO))
		got, e := x.All()
		tellsNone(t, "All", got, e, api.ErrIO)
		tellsAll(t, x, l)
	}
	fine(t, f.Fuse(1))
	got, e := x.All()
	tellsNone(t, "All", got, e, api.ErrOff)
	fine(t, f.Crash(0, nil))
	tellsAll(t, x, l)
	gets(t, x, "key0003", 9, l[3])
	fine(t, f.Turn("t", 20, 1))
	getsNone(t, x, "key0000", 9, api.ErrBad)
	fine(t, f.Turn("t", 20, 1))
	gets(t, x, "key0000", 9, l[0])
}
