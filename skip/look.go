package skip

import (
	"bootprint/api"
	"bootprint/batch"
)

// path is where a search for a place came by.
type path struct {
	sought api.Entry
	ahead  [api.MaxHeight]*tower // on each level the last tower ahead of the place
	steps  int
}

// look looks for the place of an entry of that key and number.
func (t *Table) look(key []byte, seq uint64) path {
	p := path{sought: api.Entry{Key: key, Seq: seq}}
	w := t.beginning
	for level := api.MaxHeight - 1; level >= 0; level-- {
		for next := w.levels()[level]; next != nil && batch.Compare(next.entry, p.sought) < 0; next = w.levels()[level] {
			w = next
			p.steps++
		}
		p.ahead[level] = w
		p.steps++ // the one down
	}
	return p
}

// behind answers the first tower that is not ahead of the place; nil, if there
// is none.
func (p path) behind() *tower {
	return p.ahead[0].levels()[0]
}

// at answers the tower that stands at the place; nil, if none does.
func (p path) at() *tower {
	w := p.behind()
	if w == nil || batch.Compare(w.entry, p.sought) != 0 {
		return nil
	}
	return w
}

// raise puts w at the place, on each level that it has.
func (p path) raise(w *tower) {
	next := w.levels()
	for level := range next {
		ahead := p.ahead[level].levels()
		next[level], ahead[level] = ahead[level], w
	}
}
