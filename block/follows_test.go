package block_test

import (
	"math/bits"
	"slices"
	"testing"

	"bootprint/api"
	"bootprint/block"
)

// P8.4

func TestParseOfAppendIsTheEntries(t *testing.T) {
	d := source(17)
	for n := range 300 {
		l := d.block(1 + n/2)
		p, e := block.Append(nil, l)
		fine(t, "Append", e)
		if got, e := block.Parse(p); told(got...) != told(l...) || e != api.OK {
			t.Fatalf("Parse of Append of %s: %s, %d", told(l...), told(got...), e)
		}
		if block.Size(l) != len(p) {
			t.Fatalf("Size of %s: %d, and %d bytes", told(l...), block.Size(l), len(p))
		}
		agree(t, string(p))
	}
}

// Other bytes that are a block's are another block's: turned at any place, by
// any byte.
func TestNoOtherBytesAreThatBlocks(t *testing.T) {
	d := source(19)
	for _, l := range [][]api.Entry{d.block(1), d.block(2), d.block(5), rising(17)} {
		p, e := block.Append(nil, l)
		fine(t, "Append", e)
		mine := told(l...)
		for i := range p {
			for c := range 255 {
				other := slices.Clone(p)
				other[i] += byte(c + 1)
				if got, e := block.Parse(other); e == api.OK && told(got...) == mine {
					t.Fatalf("%q and %q are both the block of %s", p, other, mine)
				}
			}
		}
	}
}

// All bytes of few letters and of a length: those that are read are told again
// by Append, and no two of them tell the same.
func TestAllShortBytes(t *testing.T) {
	seen := map[string]string{}
	letters := []byte{0, 1, 5, 6, 'a', 128}
	// A row of two entries without Values: 4 and a byte of a Key, 4 and none or
	// one; the places behind are as they must be.
	for _, length := range []int{5, 9, 10} {
		body := make([]byte, length)
		var fill func(int)
		fill = func(at int) {
			if at == length {
				s := string(body) + tail(0)
				l, e := block.Parse([]byte(s))
				if e != api.OK {
					return
				}
				if other, ok := seen[told(l...)]; ok {
					t.Fatalf("%q and %q tell the same: %s", s, other, told(l...))
				}
				seen[told(l...)] = s
				if p, e := block.Append(nil, l); string(p) != s || e != api.OK {
					t.Fatalf("Append of Parse of %q: %q, %d", s, p, e)
				}
				return
			}
			for _, c := range letters {
				// The first entry is a at 1, so that there are not too many.
				if length > 5 && at < 5 && c != []byte{0, 1, 5, 0, 'a'}[at] {
					continue
				}
				body[at] = c
				fill(at + 1)
			}
		}
		fill(0)
	}
	if len(seen) < 10 {
		t.Errorf("only %d of all short bytes are a block's", len(seen))
	}
}

// The entries that are looked at, each counted once, are no more than those of
// the halving and MaxRun; of those counted twice there are two at most: the
// restart that is gone on from, and the next one, if that is the one found.
func TestSeekLooksAtFew(t *testing.T) {
	d := source(23)
	blocks := [][]api.Entry{runs(1), runs(16), runs(17), runs(100), runs(999), d.block(60), d.block(400)}
	for _, l := range blocks {
		p := []byte(byWords(l))
		restarts := (len(l) + 15) / 16
		for i := range l {
			for _, seq := range []uint64{0, l[i].Seq, greatest} {
				if len(l) > 200 && (i*3+int(seq%3))%11 > 0 {
					continue
				}
				halving, onward, _ := looks(l, l[i].Key, seq)
				_, read, _ := block.Seek(p, l[i].Key, seq)
				once := slices.Compact(slices.Sorted(slices.Values(slices.Concat(halving, onward))))
				if read != len(halving)+len(onward) || len(once) > len(halving)+16 || read > len(once)+2 {
					t.Fatalf("Seek of entry %d of %d: %d looked at, %d by the words, %d of the halving", i, len(l), read, len(once), len(halving))
				}
				if len(halving) > bits.Len(uint(restarts-1)) || read > bits.Len(uint(restarts-1))+17 {
					t.Fatalf("Seek of entry %d of %d: %d looked at, with %d restarts", i, len(l), read, restarts)
				}
			}
		}
	}
}

func FuzzParse(f *testing.F) {
	for _, n := range []int{1, 2, 17} {
		f.Add([]byte(byWords(rising(n))))
	}
	f.Add([]byte(nil))
	f.Fuzz(func(t *testing.T, p []byte) {
		agree(t, string(p))
	})
}
