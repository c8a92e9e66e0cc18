package batch_test

import (
	"fmt"
	"testing"

	"bootprint/api"
	"bootprint/batch"
)

// mayBe tells what Check is to answer, by the chapter's words.
func mayBe(b api.Batch) api.Errno {
	arg, long := b.Seq == 0 || len(b.Writes) == 0, len(b.Writes) > 1024
	for i, w := range b.Writes {
		arg = arg || w.Kind != 1 && w.Kind != 2 || len(w.Key) < 1 || w.Kind == 2 && len(w.Value) != 0
		long = long || len(w.Key) > 4096 || len(w.Value) > 65536 || b.Seq > 1<<56-1-uint64(i)
	}
	switch {
	case arg:
		return api.ErrArg
	case long, length(b) > 1<<20:
		return api.ErrLong
	}
	return api.OK
}

// P6.1, Check

func TestCheckOfOrdinaryBatches(t *testing.T) {
	for _, b := range []api.Batch{
		of(1, put("a", "x")),
		of(1, put("a", "")),
		of(1, del("a")),
		of(7, put("a", "x"), del("b")),
		of(7, put("a", "x"), put("a", "x"), del("a"), del("a")),
		of(1<<40, put("\x00", "\x00"), del("\xff")),
		of(1, api.Write{Kind: 2, Key: []byte("a"), Value: []byte{}}),
	} {
		refused(t, told(b), batch.Check(b), api.OK)
	}
}

func TestCheckOfHowManyWrites(t *testing.T) {
	for _, w := range []api.Write{put("a", "x"), put("a", ""), del("a")} {
		for n, want := range map[int]api.Errno{
			0: api.ErrArg, 1: api.OK, 2: api.OK, 1023: api.OK, 1024: api.OK, 1025: api.ErrLong, 5000: api.ErrLong,
		} {
			refused(t, fmt.Sprint(n, " writes"), batch.Check(times(1, n, w)), want)
		}
	}
	refused(t, "nil writes", batch.Check(api.Batch{Seq: 1}), api.ErrArg)
	refused(t, "empty writes", batch.Check(api.Batch{Seq: 1, Writes: []api.Write{}}), api.ErrArg)
	refused(t, "writes in spare room", batch.Check(api.Batch{Seq: 1, Writes: []api.Write{put("a", "x")}[:0]}), api.ErrArg)
}

func TestCheckOfKinds(t *testing.T) {
	for kind, want := range map[int]api.Errno{
		0: api.ErrArg, 1: api.OK, 2: api.OK, 3: api.ErrArg, -1: api.ErrArg, -2: api.ErrArg,
		// Their lowest bytes are kinds; they are none.
		257: api.ErrArg, 258: api.ErrArg, 1<<32 + 1: api.ErrArg, -255: api.ErrArg, 1<<63 - 1: api.ErrArg,
	} {
		refused(t, fmt.Sprint("Kind ", kind), batch.Check(of(1, sized(kind, 1, 0))), want)
		refused(t, fmt.Sprint("Kind behind ", kind), batch.Check(of(1, del("a"), sized(kind, 1, 0), put("b", ""))), want)
	}
}

func TestCheckOfKeys(t *testing.T) {
	for n, want := range map[int]api.Errno{
		0: api.ErrArg, 1: api.OK, 127: api.OK, 128: api.OK, 4095: api.OK, 4096: api.OK, 4097: api.ErrLong, 1 << 20: api.ErrLong, 1<<20 + 1: api.ErrLong,
	} {
		for kind := 1; kind <= 2; kind++ {
			refused(t, fmt.Sprint("a Key of ", n), batch.Check(of(1, sized(kind, n, 0))), want)
			refused(t, fmt.Sprint("a Key behind of ", n), batch.Check(of(1, put("a", "x"), sized(kind, n, 0))), want)
		}
	}
	refused(t, "a Key in spare room", batch.Check(of(1, api.Write{Kind: 2, Key: []byte("a")[:0]})), api.ErrArg)
}

func TestCheckOfValues(t *testing.T) {
	for n, want := range map[int]api.Errno{
		0: api.OK, 1: api.OK, 65535: api.OK, 65536: api.OK, 65537: api.ErrLong, 1 << 20: api.ErrLong, 1<<20 + 1: api.ErrLong,
	} {
		refused(t, fmt.Sprint("a Value of ", n), batch.Check(of(1, sized(1, 1, n))), want)
		refused(t, fmt.Sprint("a Value behind of ", n), batch.Check(of(1, put("a", "x"), sized(1, 1, n))), want)
		if n > 0 {
			want = api.ErrArg
		}
		refused(t, fmt.Sprint("a Value of a delete of ", n), batch.Check(of(1, sized(2, 1, n))), want)
	}
}

func TestCheckOfSeqs(t *testing.T) {
	for _, c := range []struct {
		seq  uint64
		n    int
		want api.Errno
	}{
		{0, 1, api.ErrArg}, {0, 2, api.ErrArg}, {1, 1, api.OK}, {1, 1024, api.OK},
		{api.MaxSeq - 1, 1, api.OK}, {api.MaxSeq - 1, 2, api.OK}, {api.MaxSeq - 1, 3, api.ErrLong},
		{api.MaxSeq, 1, api.OK}, {api.MaxSeq, 2, api.ErrLong},
		{api.MaxSeq - 1023, 1024, api.OK}, {api.MaxSeq - 1022, 1024, api.ErrLong},
		{api.MaxSeq + 1, 1, api.ErrLong}, {api.MaxSeq + 1, 1024, api.ErrLong},
		{1 << 63, 1, api.ErrLong},
		// Here the last one's number wraps.
		{greatest, 1, api.ErrLong}, {greatest, 2, api.ErrLong}, {greatest, 3, api.ErrLong}, {greatest, 1024, api.ErrLong},
		{greatest - 1, 3, api.ErrLong}, {greatest - 1022, 1024, api.ErrLong}, {greatest - 1021, 1024, api.ErrLong},
	} {
		what := fmt.Sprint("Seq ", c.seq, " of ", c.n, " writes")
		refused(t, what, batch.Check(times(c.seq, c.n, put("a", "x"))), c.want)
		refused(t, what, batch.Check(times(c.seq, c.n, del("a"))), c.want)
	}
}

func TestCheckOfAllBytes(t *testing.T) {
	// Their numbers of bytes hang on how long Seq is, and how many writes there are.
	for _, seq := range []uint64{1, 127, 128, 1 << 14, api.MaxSeq - 1023} {
		for _, n := range []int{17, 127, 128, 1024} {
			for total, want := range map[int]api.Errno{
				api.MaxFrame - 1: api.OK, api.MaxFrame: api.OK, api.MaxFrame + 1: api.ErrLong, api.MaxFrame + 2: api.ErrLong,
			} {
				b := filled(t, seq, n, total)
				refused(t, fmt.Sprint(total, " bytes, Seq ", seq, ", ", n, " writes"), batch.Check(b), want)
			}
		}
	}
	b := filled(t, 1, 17, api.MaxFrame-3)
	refused(t, "with room for a delete", batch.Check(of(1, append(b.Writes, del("a"))...)), api.OK)
	refused(t, "without", batch.Check(of(1, append(b.Writes, del("ab"))...)), api.ErrLong)
	refused(t, "without, for a put", batch.Check(of(1, append(b.Writes, put("a", ""))...)), api.ErrLong)
	refused(t, "Keys alone, too many", batch.Check(times(1, 1024, sized(2, 4096, 0))), api.ErrLong)
	refused(t, "Keys alone", batch.Check(times(1, 255, sized(2, 4096, 0))), api.OK)
}

func TestCheckTellsErrArgFirst(t *testing.T) {
	long := map[string]api.Batch{
		"a Key":       of(1, sized(2, 4097, 0)),
		"a Value":     of(1, sized(1, 1, 65537)),
		"the writes":  times(1, 1025, del("a")),
		"all bytes":   times(1, 17, sized(1, 1, 65536)),
		"the numbers": of(api.MaxSeq, del("a"), del("b")),
		"Seq":         of(greatest, del("a")),
		"the wrap":    of(greatest, del("a"), del("b")),
	}
	wrong := map[string]api.Write{
		"Kind 0":              sized(0, 1, 0),
		"Kind 3":              sized(3, 1, 0),
		"no Key":              sized(1, 0, 1),
		"a delete's Value":    sized(2, 1, 1),
		"no Key, long Value":  sized(1, 0, 65537),
		"Kind 0, long Key":    sized(0, 4097, 0),
		"long delete's Value": sized(2, 1, 65537),
		"all at once":         sized(3, 0, 65537),
	}
	for name, b := range long {
		refused(t, name+" too long", batch.Check(b), api.ErrLong)
		for what, w := range wrong {
			behind := of(b.Seq, append(b.Writes[:len(b.Writes):len(b.Writes)], w)...)
			ahead := of(b.Seq, append([]api.Write{w}, b.Writes...)...)
			refused(t, what+" behind, "+name+" too long", batch.Check(behind), api.ErrArg)
			refused(t, what+" ahead, "+name+" too long", batch.Check(ahead), api.ErrArg)
		}
		refused(t, "Seq 0, "+name, batch.Check(of(0, b.Writes...)), api.ErrArg)
	}
	refused(t, "no writes, and a Seq too great", batch.Check(of(greatest)), api.ErrArg)
	refused(t, "no writes, and no Seq", batch.Check(of(0)), api.ErrArg)
}

func TestCheckAsTold(t *testing.T) {
	var writes []api.Write
	for _, kind := range []int{0, 1, 2, 3, 257} {
		for _, key := range []int{0, 1, 4096, 4097} {
			for _, value := range []int{0, 1, 65536, 65537} {
				writes = append(writes, sized(kind, key, value))
			}
		}
	}
	seqs := []uint64{0, 1, api.MaxSeq - 1, api.MaxSeq, api.MaxSeq + 1, greatest - 1, greatest}
	check := func(b api.Batch) {
		if e, want := batch.Check(b), mayBe(b); e != want {
			t.Fatalf("Check of %s: %d, want %d", shortly(told(b)), e, want)
		}
	}
	for _, seq := range seqs {
		for i, a := range writes {
			check(of(seq, a))
			for _, b := range writes[i%3:] {
				check(of(seq, a, b))
			}
		}
	}
	s := source(1)
	ordinary := []api.Write{sized(1, 2, 1), sized(1, 900, 0), sized(2, 30, 0), sized(1, 1, 65536)}
	for range 300 {
		b := of(seqs[s.below(len(seqs))])
		for range []int{0, 3, 15, 20, 1024, 1025}[s.below(6)] {
			b.Writes = append(b.Writes, ordinary[s.below(len(ordinary))])
		}
		check(b)
	}
}

// P6.1, Last

func TestLast(t *testing.T) {
	for _, c := range []struct {
		seq  uint64
		n    int
		want uint64
	}{
		{1, 1, 1}, {7, 2, 8}, {7, 1, 7}, {7, 0, 6}, {1, 0, 0},
		{0, 0, greatest}, {0, 1, 0}, {0, 2, 1},
		{1, 1024, 1024}, {1, 1025, 1025}, {100, 5000, 5099},
		{api.MaxSeq, 1, api.MaxSeq}, {api.MaxSeq, 2, api.MaxSeq + 1},
		{greatest, 0, greatest - 1}, {greatest, 1, greatest}, {greatest, 2, 0}, {greatest, 5, 3},
	} {
		// Of writes that may not be, too.
		for _, w := range []api.Write{put("a", "x"), {}} {
			if n := batch.Last(times(c.seq, c.n, w)); n != c.want {
				t.Errorf("Last of Seq %d with %d writes: %d, want %d", c.seq, c.n, n, c.want)
			}
		}
	}
	if n := batch.Last(api.Batch{Seq: 5, Writes: make([]api.Write, 1, 9)}); n != 5 {
		t.Errorf("Last of one write with spare room: %d", n)
	}
	if n := batch.Last(api.Batch{}); n != greatest {
		t.Errorf("Last of nothing: %d", n)
	}
}

// P6.1, CheckEntry

func TestCheckEntry(t *testing.T) {
	for kind, isOne := range map[int]bool{-1: false, 0: false, 1: true, 2: true, 3: false, 257: false, 258: false} {
		for _, key := range []int{0, 1, 2, 4095, 4096, 4097, 1<<20 + 1} {
			for _, value := range []int{0, 1, 65535, 65536, 65537, 1<<20 + 1} {
				for _, seq := range []uint64{0, 1, 2, api.MaxSeq - 1, api.MaxSeq, api.MaxSeq + 1, greatest} {
					w := sized(kind, key, value)
					e := api.Entry{Key: w.Key, Seq: seq, Kind: kind, Value: w.Value}
					want := api.OK
					switch {
					case !isOne, key == 0, kind == 2 && value > 0, seq == 0:
						want = api.ErrArg
					case key > 4096, value > 65536, seq > 1<<56-1:
						want = api.ErrLong
					}
					if got := batch.CheckEntry(e); got != want {
						t.Fatalf("CheckEntry of Kind %d, Key of %d, Value of %d, Seq %d: %d, want %d", kind, key, value, seq, got, want)
					}
				}
			}
		}
	}
	refused(t, "no entry", batch.CheckEntry(api.Entry{}), api.ErrArg)
}
