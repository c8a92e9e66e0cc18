package block

import (
	"bootprint/api"
	"bootprint/batch"
)

// Seek answers the first entry of p's block that is not ahead of one of key
// and seq, and how many entries were looked at, also where there is none.
func Seek(p []byte, key []byte, seq uint64) (e api.Entry, read int, err api.Errno) {
	l, _, err := parse(p)
	if err != api.OK {
		return api.Entry{}, 0, err
	}
	s := &search{entries: l, sought: api.Entry{Key: key, Seq: seq}}
	for i := s.halve() * api.MaxRun; i < len(l); i++ {
		if !s.isAhead(i) {
			return l[i], s.read, api.OK
		}
	}
	return api.Entry{}, s.read, api.ErrNone
}

// search counts how many entries are looked at.
type search struct {
	entries []api.Entry
	sought  api.Entry
	read    int
}

// isAhead looks at the entry at i, and answers whether it is ahead of the one
// that is sought.
func (s *search) isAhead(i int) bool {
	s.read++
	return batch.Compare(s.entries[i], s.sought) < 0
}

// halve answers the last restart that is ahead, or else the first one, which
// is never looked at.
func (s *search) halve() int {
	lo, hi := 0, (len(s.entries)-1)/api.MaxRun
	for lo < hi {
		middle := (lo + hi + 1) / 2
		if s.isAhead(middle * api.MaxRun) {
			lo = middle
		} else {
			hi = middle - 1
		}
	}
	return lo
}
