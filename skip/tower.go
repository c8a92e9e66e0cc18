package skip

import (
	"iter"

	"bootprint/api"
)

// tower is an entry's place in a table.
type tower struct {
	entry  api.Entry
	height int
	room   [api.MaxHeight]*tower // levels tells which part of it is used
}

// levels answers the next tower on each level that w has; nil, where w is the
// last one.
func (w *tower) levels() []*tower {
	return w.room[:w.height]
}

// onward yields the entries from w on; none, if w is nil.
func (w *tower) onward() iter.Seq[api.Entry] {
	return func(yield func(api.Entry) bool) {
		for at := w; at != nil; at = at.levels()[0] {
			if !yield(at.entry) {
				return
			}
		}
	}
}
