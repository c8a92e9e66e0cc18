package merge

import (
	"bootprint/api"
)

// Merger goes through rows, if New made it.
type Merger struct {
	self  *Merger // a copy is not what New made: it would go through the same rows
	heads heads   // of rows in memory of the merger's own
	left  int
}

// New answers a merger of the rows.
func New(rows [][]api.Entry) (*Merger, api.Errno) {
	if e := checkEach(rows...); e != api.OK {
		return nil, e
	}
	m := &Merger{heads: headsOf(cloneEach(rows...)...)}
	m.self = m
	// How many are the same in several rows shows only when they are merged.
	for range merged(rows...) {
		m.left++
	}
	return m, api.OK
}

func (m *Merger) made() bool {
	return m != nil && m.self == m
}

// Next answers the next entry, and whether there is one.
func (m *Merger) Next() (api.Entry, bool) {
	if m.Left() == 0 {
		return api.Entry{}, false
	}
	m.left--
	return m.heads.next(), true // no copy: the merger does not come by it again
}

// Peek answers what Next would, and stays.
func (m *Merger) Peek() (api.Entry, bool) {
	if m.Left() == 0 {
		return api.Entry{}, false
	}
	return clone(m.heads.first()), true
}

// Left answers how many entries are left.
func (m *Merger) Left() int {
	if !m.made() {
		return 0
	}
	return m.left
}

func cloneEach(rows ...[]api.Entry) [][]api.Entry {
	own := make([][]api.Entry, len(rows))
	for i, row := range rows {
		own[i] = make([]api.Entry, len(row))
		for j, e := range row {
			own[i][j] = clone(e)
		}
	}
	return own
}
