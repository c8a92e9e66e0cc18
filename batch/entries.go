package batch

import (
	"bytes"
	"cmp"
	"slices"

	"bootprint/api"
)

// Entries answers an entry for each write of b, in order.
func Entries(b api.Batch) ([]api.Entry, api.Errno) {
	if e := Check(b); e != api.OK {
		return nil, e
	}
	l := make([]api.Entry, len(b.Writes))
	for i, w := range b.Writes {
		l[i] = api.Entry{
			Key:   bytes.Clone(w.Key),
			Seq:   b.Seq + uint64(i),
			Kind:  w.Kind,
			Value: bytes.Clone(w.Value),
		}
	}
	slices.SortFunc(l, Compare)
	return l, api.OK
}

// Compare answers whether a is ahead of b (-1), behind it (1), or neither (0).
// Of one key the newest is the first: whoever looks for it meets it first.
func Compare(a, b api.Entry) int {
	return cmp.Or(
		bytes.Compare(a.Key, b.Key),
		cmp.Compare(b.Seq, a.Seq),
	)
}
