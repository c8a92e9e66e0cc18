package lsm

import (
	"maps"
	"slices"

	"bootprint/api"
)

// Snapshot notes the last number, so that what is seen at it stays.
func (e *Engine) Snapshot() (seq uint64, err api.Errno) {
	if !e.made() {
		return 0, api.ErrNil
	}
	if e.noted[e.seq] == 0 && len(e.noted) >= api.MaxSnaps {
		return 0, api.ErrBusy
	}
	e.noted[e.seq]++
	return e.seq, api.OK
}

// Release notes seq once less.
func (e *Engine) Release(seq uint64) api.Errno {
	switch {
	case !e.made():
		return api.ErrNil
	case e.noted[seq] == 0:
		return api.ErrNone
	}
	e.noted[seq]--
	if e.noted[seq] == 0 {
		delete(e.noted, seq)
	}
	return api.OK
}

// Snapshots answers the numbers that are noted, rising.
func (e *Engine) Snapshots() []uint64 {
	if !e.made() {
		return nil
	}
	return slices.Sorted(maps.Keys(e.noted))
}
