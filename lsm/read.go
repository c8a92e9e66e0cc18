package lsm

import (
	"bytes"
	"math"

	"bootprint/api"
	"bootprint/merge"
)

// Get answers what the key has at seq.
func (e *Engine) Get(key []byte, seq uint64) ([]byte, api.Errno) {
	if err := e.checkLook(seq); err != api.OK {
		return nil, err
	}
	x, err := e.find(key, seq)
	if err == api.OK && x.Kind == api.WriteDelete {
		err = api.ErrNone
	}
	if err != api.OK {
		return nil, err
	}
	return x.Value, api.OK
}

// checkLook answers whether one may look at seq: of other numbers than the last
// one and those that are noted, what they saw may be gone.
func (e *Engine) checkLook(seq uint64) api.Errno {
	switch {
	case !e.made():
		return api.ErrNil
	case seq != e.seq && e.noted[seq] == 0:
		return api.ErrArg
	}
	return api.OK
}

// find answers the newest entry of key at or below seq.
func (e *Engine) find(key []byte, seq uint64) (api.Entry, api.Errno) {
	for _, t := range e.tables() {
		if x, err := t.Get(key, seq); err != api.ErrNone {
			return x, err
		}
	}
	for f := range e.files() {
		if !hasBetween(f, key) {
			continue
		}
		if x, err := e.findIn(f, key, seq); err != api.ErrNone {
			return x, err
		}
	}
	return api.Entry{}, api.ErrNone
}

// findIn answers the newest entry of key at or below seq in a file.
func (d *onDisk) findIn(f api.File, key []byte, seq uint64) (api.Entry, api.Errno) {
	t := d.opened[f.Number]
	before := t.Reads()
	x, err := t.Get(key, seq)
	// Of a file that somebody took away the disk answers what a table answers of
	// a key that it has not: to go on would tell an older entry.
	if err == api.ErrNone && t.Reads() > before && d.disk.Size(tableName(f.Number)) < 0 {
		return api.Entry{}, api.ErrBad
	}
	return x, err
}

func hasBetween(f api.File, key []byte) bool {
	return bytes.Compare(f.Least, key) <= 0 && bytes.Compare(key, f.Most) <= 0
}

// Scan answers the first n of what is seen at seq from a key on, and below to.
func (e *Engine) Scan(from, to []byte, seq uint64, n int) ([]api.Entry, api.Errno) {
	if err := e.checkLook(seq); err != api.OK {
		return nil, err
	}
	rows := e.rowsFrom(from)
	for f := range e.files() {
		if !reachesInto(f, from, to) {
			continue
		}
		row, err := e.opened[f.Number].From(from, math.MaxInt)
		if err != api.OK {
			return nil, err
		}
		rows = append(rows, row)
	}
	l, err := merge.Between(rows, from, to, seq, n)
	if err != api.OK {
		return nil, api.ErrBad // a file has entries that are in no order
	}
	return l, api.OK
}

func reachesInto(f api.File, from, to []byte) bool {
	return bytes.Compare(f.Most, from) >= 0 && (len(to) == 0 || bytes.Compare(f.Least, to) < 0)
}
