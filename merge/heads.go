package merge

import (
	"cmp"
	"container/heap"
	"iter"

	"bootprint/api"
	"bootprint/batch"
)

// head is where a merge stands in a row.
type head struct {
	entries []api.Entry // those that are left, one at least
	number  int         // the row's, among the rows
}

// heads are a heap: the first of them is that of the row which has the next
// entry, the first such row, if several have it.
type heads []head

// headsOf answers the heads of the rows that have entries. The rows are read
// where they are.
func headsOf(rows ...[]api.Entry) heads {
	var h heads
	for i, row := range rows {
		if len(row) > 0 {
			heap.Push(&h, head{entries: row, number: i})
		}
	}
	return h
}

// merged yields the entries of all rows, merged.
func merged(rows ...[]api.Entry) iter.Seq[api.Entry] {
	return func(yield func(api.Entry) bool) {
		h := headsOf(rows...)
		for len(h) > 0 && yield(h.next()) {
		}
	}
}

// first answers the next entry of all; there must be one.
func (h heads) first() api.Entry {
	return h[0].entries[0]
}

// next answers the next entry of all, and goes by it in each row that has it;
// there must be one.
func (h *heads) next() api.Entry {
	e := h.first()
	for len(*h) > 0 && batch.Compare(h.first(), e) == 0 {
		h.advance()
	}
	return e
}

// advance goes by the first entry of the first row.
func (h *heads) advance() {
	first := &(*h)[0]
	if len(first.entries) == 1 {
		heap.Pop(h)
		return
	}
	first.entries = first.entries[1:]
	heap.Fix(h, 0)
}

// Len is heap's.
func (h heads) Len() int { return len(h) }

// Less is heap's.
func (h heads) Less(i, j int) bool {
	return cmp.Or(
		batch.Compare(h[i].entries[0], h[j].entries[0]),
		cmp.Compare(h[i].number, h[j].number),
	) < 0
}

// Swap is heap's.
func (h heads) Swap(i, j int) { h[i], h[j] = h[j], h[i] }

// Push is heap's.
func (h *heads) Push(x any) { *h = append(*h, x.(head)) }

// Pop is heap's.
func (h *heads) Pop() any {
	last := len(*h) - 1
	x := (*h)[last]
	(*h)[last] = head{} // so that its row is not kept
	*h = (*h)[:last]
	return x
}
