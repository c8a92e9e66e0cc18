package lsm

import (
	"math"
	"math/bits"

	"bootprint/api"
	"bootprint/batch"
	"bootprint/skip"
)

// inMemory is what an engine has in memory: what a crash takes.
type inMemory struct {
	open   *skip.Table    // the table that takes what is written
	frozen *skip.Table    // one that was full; nil, if there is none
	seq    uint64         // the last number
	noted  map[uint64]int // how many times each number is noted by snapshots
}

// replay takes what the log's records tell beyond the version.
func (m *inMemory) replay(records []api.LogRecord, v api.Version) api.Errno {
	m.seq = v.Seq
	for _, r := range records {
		if r.Segment < v.Log {
			continue
		}
		b, err := batch.Parse(r.Body)
		switch {
		case err != api.OK:
			return api.ErrBad
		case batch.Last(b) <= v.Seq:
			continue // files have it
		case b.Seq != m.seq+1:
			return api.ErrBad
		}
		m.put(b)
	}
	return api.OK
}

// put takes a batch, which may be, and whose numbers are the next ones. So no
// entry of it is there, and nothing is refused.
func (m *inMemory) put(b api.Batch) {
	entries, _ := batch.Entries(b)
	for _, x := range entries {
		m.open.Insert(x, height(x.Seq))
	}
	m.seq = batch.Last(b)
}

// height answers how high the tower of that number is: every fourth one is
// higher by one.
func height(seq uint64) int {
	return min(1+bits.TrailingZeros64(seq)/2, api.MaxHeight)
}

// tables answers the tables in memory, the newest first.
func (m *inMemory) tables() []*skip.Table {
	if m.frozen == nil {
		return []*skip.Table{m.open}
	}
	return []*skip.Table{m.open, m.frozen}
}

// rowsFrom answers what the tables in memory have from a key on.
func (m *inMemory) rowsFrom(key []byte) [][]api.Entry {
	var rows [][]api.Entry
	for _, t := range m.tables() {
		rows = append(rows, t.From(key, math.MaxInt))
	}
	return rows
}

// freeze makes room for what is written next.
func (m *inMemory) freeze() {
	m.open, m.frozen = skip.New(), m.open
}
