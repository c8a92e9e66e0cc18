package skip

import (
	"bytes"
	"math"

	"bootprint/api"
)

// Get answers the newest entry of key at or below seq.
func (t *Table) Get(key []byte, seq uint64) (api.Entry, api.Errno) {
	if !t.made() {
		return api.Entry{}, api.ErrNil
	}
	// Of one key the newest is the first, so what is not ahead is at or below seq.
	w := t.look(key, seq).behind()
	if w == nil || !bytes.Equal(w.entry.Key, key) {
		return api.Entry{}, api.ErrNone
	}
	return clone(w.entry), api.OK
}

// Seek answers the first entry that is not ahead of one of key and seq, and
// whether there is one.
func (t *Table) Seek(key []byte, seq uint64) (api.Entry, bool) {
	if !t.made() {
		return api.Entry{}, false
	}
	w := t.look(key, seq).behind()
	if w == nil {
		return api.Entry{}, false
	}
	return clone(w.entry), true
}

// All answers all entries, in order.
func (t *Table) All() []api.Entry {
	return t.From(nil, t.Len())
}

// From answers the first n of the entries whose Key is at or above key.
func (t *Table) From(key []byte, n int) []api.Entry {
	if !t.made() {
		return nil
	}
	var l []api.Entry
	// No entry of key is ahead of one with the greatest number.
	for e := range t.look(key, math.MaxUint64).behind().onward() {
		if len(l) >= n {
			break
		}
		l = append(l, clone(e))
	}
	return l
}

// clone copies e: nobody else has the memory of what a table holds or answers.
func clone(e api.Entry) api.Entry {
	e.Key, e.Value = bytes.Clone(e.Key), bytes.Clone(e.Value)
	return e
}
