package table

import (
	"bytes"
	"math"
	"sort"

	"bootprint/api"
	"bootprint/batch"
	"bootprint/wire"
)

// place is where a block's frame stands, and the Key and the Seq of the
// block's last entry.
type place struct {
	at   int
	size int
	last api.Entry
}

func (p place) end() int {
	return p.at + p.size
}

// index is where a table's blocks stand, and what it tells of itself.
type index struct {
	places []place
	info   api.TableInfo
}

// end answers where the last block's frame ends.
func (x *index) end() int {
	if len(x.places) == 0 {
		return 0
	}
	return x.places[len(x.places)-1].end()
}

// note notes the frame of a block that stands behind all others.
func (x *index) note(size int, last api.Entry) {
	x.places = append(x.places, place{at: x.end(), size: size, last: last})
}

// complete notes what is known when all blocks are, of a table of that size.
func (x *index) complete(size int) {
	x.info.Blocks, x.info.Size = len(x.places), size
}

// find answers the first block whose last entry is not ahead of sought: how
// many there are, if there is none.
func (x *index) find(sought api.Entry) int {
	return sort.Search(len(x.places), func(i int) bool {
		return batch.Compare(x.places[i].last, sought) >= 0
	})
}

// body answers the index as it stands in its frame.
func (x *index) body() part {
	parts := []part{number(uint64(len(x.places)))}
	for _, p := range x.places {
		parts = append(parts, number(uint64(p.at)), number(uint64(p.size)), piece(p.last.Key), number(p.last.Seq))
	}
	parts = append(parts,
		number(uint64(x.info.Entries)), number(x.info.LeastSeq), number(x.info.MostSeq),
		piece(x.info.Least), piece(x.info.Most))
	return together(parts...)
}

// readIndex answers the index that stands in a frame at limit, and whether it
// is one: no block goes beyond limit.
func readIndex(body []byte, limit int) (x index, ok bool) {
	r := wire.New(body)
	for range r.Number() {
		if !x.readPlace(r, limit) {
			return index{}, false
		}
	}
	entries := r.Number()
	x.info = api.TableInfo{
		Entries:  int(entries),
		LeastSeq: r.Number(),
		MostSeq:  r.Number(),
		Least:    r.Piece(),
		Most:     r.Piece(),
	}
	if r.End() != api.OK || entries > math.MaxInt || !x.endsInMost() {
		return index{}, false
	}
	return x, true
}

// readPlace notes the block that r tells next, and answers whether it stands
// right behind the one ahead, by its bytes and by its entries.
func (x *index) readPlace(r *wire.Reader, limit int) bool {
	at, size, last := r.Number(), r.Number(), api.Entry{Key: r.Piece(), Seq: r.Number()}
	begin := x.end()
	if r.Err() != api.OK || at != uint64(begin) || size > uint64(limit-begin) {
		return false
	}
	if n := len(x.places); n > 0 && batch.Compare(x.places[n-1].last, last) >= 0 {
		return false
	}
	x.note(int(size), last)
	return true
}

// endsInMost answers whether there is a block, and the last one ends with the
// last Key, which the index tells twice.
func (x *index) endsInMost() bool {
	n := len(x.places)
	return n > 0 && bytes.Equal(x.places[n-1].last.Key, x.info.Most)
}
