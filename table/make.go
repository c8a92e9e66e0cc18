package table

import (
	"bytes"
	"iter"

	"bootprint/api"
	"bootprint/batch"
	"bootprint/block"
	"bootprint/bloom"
	"bootprint/wire"
)

// Make answers the bytes of l's table.
func Make(l []api.Entry, s api.TableSetup) ([]byte, api.Errno) {
	b, _, e := build(l, s)
	return b, e
}

// Info answers how l's table would tell itself.
func Info(l []api.Entry, s api.TableSetup) (api.TableInfo, api.Errno) {
	_, info, e := build(l, s)
	return info, e
}

func build(l []api.Entry, s api.TableSetup) ([]byte, api.TableInfo, api.Errno) {
	if e := check(l, s); e != api.OK {
		return nil, api.TableInfo{}, e
	}
	x := &index{info: infoOf(l)}
	blocks := x.lay(l, s.Block)
	filter := framed(filterKind, partOf(bloom.Make(keysOf(l), s.Bits)))
	ahead := together(blocks, filter)
	table := together(ahead, framed(indexKind, x.body()), endOf(len(ahead.bytes)))
	switch {
	case table.err != api.OK:
		return nil, api.TableInfo{}, table.err
	case len(table.bytes) > api.MaxTable:
		return nil, api.TableInfo{}, api.ErrLong
	}
	x.complete(len(table.bytes))
	return table.bytes, x.info, api.OK
}

// check answers whether l may be a table's entries, however many bytes they
// have.
func check(l []api.Entry, s api.TableSetup) api.Errno {
	if e := CheckSetup(s); e != api.OK {
		return e
	}
	for _, entry := range l {
		if e := batch.CheckEntry(entry); e != api.OK {
			return e
		}
	}
	if len(l) == 0 || !inOrder(l) {
		return api.ErrArg
	}
	return api.OK
}

// inOrder answers whether each entry of l is ahead of the next one: so none is
// there twice.
func inOrder(l []api.Entry) bool {
	for i := 1; i < len(l); i++ {
		if batch.Compare(l[i-1], l[i]) >= 0 {
			return false
		}
	}
	return true
}

// infoOf answers what l alone tells of its table.
func infoOf(l []api.Entry) api.TableInfo {
	first, last := l[0], l[len(l)-1]
	info := api.TableInfo{
		Entries:  len(l),
		Least:    bytes.Clone(first.Key),
		Most:     bytes.Clone(last.Key),
		LeastSeq: first.Seq,
		MostSeq:  first.Seq,
	}
	for _, e := range l {
		info.LeastSeq, info.MostSeq = min(info.LeastSeq, e.Seq), max(info.MostSeq, e.Seq)
	}
	return info
}

// lay answers the frames of l's blocks, and notes where they stand. It stops
// where they are too many: the entries may be far more than a table holds.
func (x *index) lay(l []api.Entry, full int) part {
	var frames []part
	for entries := range blocksOf(l, full) {
		f := framed(blockKind, partOf(block.Append(nil, entries)))
		frames = append(frames, f)
		x.note(len(f.bytes), entries[len(entries)-1])
		if x.end() > api.MaxTable {
			return partOf(nil, api.ErrLong)
		}
	}
	return together(frames...)
}

// blocksOf yields the entries of each block, in l's own memory.
func blocksOf(l []api.Entry, full int) iter.Seq[[]api.Entry] {
	return func(yield func([]api.Entry) bool) {
		for len(l) > 0 {
			n := firstBlock(l, full)
			if !yield(l[:n]) {
				return
			}
			l = l[n:]
		}
	}
}

// firstBlock answers how many entries of l the first block takes.
func firstBlock(l []api.Entry, full int) int {
	size := block.Size(nil)
	for i := range l {
		size += added(l, i)
		if size >= full {
			return i + 1
		}
	}
	return len(l)
}

// added answers how many bytes the entry at i adds to a block of l. No other
// entry than the one ahead counts for that: to reckon the whole block anew for
// each entry would take too long.
func added(l []api.Entry, i int) int {
	if i%api.MaxRun == 0 {
		return block.Size(l[i:i+1]) - block.Size(nil)
	}
	return block.Size(l[i-1:i+1]) - block.Size(l[i-1:i])
}

// keysOf answers all keys of l, each once, in l's own memory.
func keysOf(l []api.Entry) [][]byte {
	var keys [][]byte
	for i, e := range l {
		if i == 0 || !bytes.Equal(l[i-1].Key, e.Key) {
			keys = append(keys, e.Key)
		}
	}
	return keys
}

// endOf answers what stands behind an index whose frame is at that place.
func endOf(at int) part {
	return partOf(append(wire.Ordered(nil, uint64(at)), bootmark...), api.OK)
}
