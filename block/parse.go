package block

import (
	"bytes"
	"slices"

	"bootprint/api"
	"bootprint/batch"
	"bootprint/wire"
)

// Parse answers the entries of the block whose bytes p is.
func Parse(p []byte) ([]api.Entry, api.Errno) {
	l, _, e := parse(p)
	return l, e
}

// Restarts answers the places of the restarts in the block whose bytes p is.
func Restarts(p []byte) ([]int, api.Errno) {
	_, restarts, e := parse(p)
	return restarts, e
}

func parse(p []byte) (l []api.Entry, restarts []int, e api.Errno) {
	if len(p) > api.MaxBlock {
		return nil, nil, api.ErrLong
	}
	entries, places, ok := split(p)
	if !ok {
		return nil, nil, api.ErrBad
	}
	r := &reader{Reader: wire.New(entries)}
	for r.Left() > 0 {
		if !r.next() {
			return nil, nil, api.ErrBad
		}
	}
	if len(r.entries) == 0 || !inOrder(r.entries) || !slices.Equal(r.restarts, places) {
		return nil, nil, api.ErrBad
	}
	return r.entries, r.restarts, api.OK
}

// reader goes over the bytes of a block's entries, and gathers what they tell.
type reader struct {
	*wire.Reader
	key      []byte // the last entry's; the next one's is built up in its place
	entries  []api.Entry
	restarts []int
}

// next goes over an entry, and answers whether its bytes are those that Append
// would put for it. Whether it is in order is left open.
func (r *reader) next() bool {
	at, i := r.At(), len(r.entries)
	told, more, seqAndKind, length := r.Number(), r.Number(), r.Number(), r.Number()
	if told > uint64(len(r.key)) {
		return false
	}
	r.key = append(r.key[:told], r.take(more)...)
	e := api.Entry{Key: r.key, Seq: seqAndKind / kinds, Kind: int(seqAndKind % kinds), Value: r.take(length)}
	if r.Err() != api.OK || batch.CheckEntry(e) != api.OK {
		return false
	}
	e.Key = bytes.Clone(e.Key) // the next Key is written over it
	r.entries = append(r.entries, e)
	if isRestart(i) {
		r.restarts = append(r.restarts, at)
	}
	return told == uint64(shared(r.entries, i))
}

// take goes over n bytes. A number that no block has room for stays one when
// it is made an int.
func (r *reader) take(n uint64) []byte {
	return r.Fixed(int(min(n, api.MaxBlock+1)))
}
