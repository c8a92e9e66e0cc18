package table

import (
	"bytes"
	"math"
	"sort"

	"bootprint/api"
	"bootprint/batch"
	"bootprint/block"
	"bootprint/bloom"
)

// Get answers the newest entry of key at or below seq.
func (t *Table) Get(key []byte, seq uint64) (api.Entry, api.Errno) {
	if !t.made() {
		return api.Entry{}, api.ErrNil
	}
	if !bloom.Has(t.filter, key) {
		return api.Entry{}, api.ErrNone
	}
	sought := api.Entry{Key: key, Seq: seq}
	i := t.find(sought)
	if i == len(t.places) {
		return api.Entry{}, api.ErrNone
	}
	l, e := t.readBlock(i)
	if e != api.OK {
		return api.Entry{}, e
	}
	// The block's last entry is not ahead, so one is left at least.
	found := notAhead(l, sought)[0]
	if !bytes.Equal(found.Key, key) {
		return api.Entry{}, api.ErrNone
	}
	return found, api.OK
}

// From answers the first n of the entries whose Key is at or above key.
func (t *Table) From(key []byte, n int) ([]api.Entry, api.Errno) {
	if !t.made() {
		return nil, api.ErrNil
	}
	// No entry of key is ahead of one with the greatest number.
	sought := api.Entry{Key: key, Seq: math.MaxUint64}
	var l []api.Entry
	for i := t.find(sought); i < len(t.places) && len(l) < n; i++ {
		entries, e := t.readBlock(i)
		if e != api.OK {
			return nil, e
		}
		entries = notAhead(entries, sought)
		l = append(l, entries[:min(len(entries), n-len(l))]...)
	}
	return l, api.OK
}

// All answers all entries.
func (t *Table) All() ([]api.Entry, api.Errno) {
	return t.From(nil, math.MaxInt)
}

// readBlock answers the entries of the block at i.
func (t *Table) readBlock(i int) ([]api.Entry, api.Errno) {
	t.reads++
	p := t.places[i]
	body, e := t.readFrame(blockKind, p.at, p.end())
	if e != api.OK {
		return nil, e
	}
	l, e := block.Parse(body)
	if e != api.OK || batch.Compare(l[len(l)-1], p.last) != 0 {
		return nil, api.ErrBad
	}
	return l, api.OK
}

// notAhead answers l without the entries that are ahead of sought.
func notAhead(l []api.Entry, sought api.Entry) []api.Entry {
	first := sort.Search(len(l), func(i int) bool {
		return batch.Compare(l[i], sought) >= 0
	})
	return l[first:]
}
