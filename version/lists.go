package version

import (
	"bytes"
	"cmp"
	"slices"

	"bootprint/api"
)

// lists are a version's: files, level by level.
type lists struct {
	levels [][]api.File
}

// draft is a version that is being made.
type draft struct {
	lists
	next, seq, log uint64
}

// listsOf copies the lists, and the keys of their files.
func listsOf(levels ...[]api.File) lists {
	l := lists{levels: slices.Clone(levels)}
	for i, files := range levels {
		l.levels[i] = slices.Clone(files)
		for j, f := range files {
			l.levels[i][j] = clone(f)
		}
	}
	return l
}

// clone copies f: nobody else has the memory of what is answered.
func clone(f api.File) api.File {
	f.Least, f.Most = bytes.Clone(f.Least), bytes.Clone(f.Most)
	return f
}

// count answers how many files there are.
func (l lists) count() int {
	n := 0
	for _, files := range l.levels {
		n += len(files)
	}
	return n
}

// levelOf answers on which level each Number stands.
func (l lists) levelOf() map[uint64]int {
	m := make(map[uint64]int, l.count())
	for level, files := range l.levels {
		for _, f := range files {
			m[f.Number] = level
		}
	}
	return m
}

// hasTwice answers whether a Number stands twice.
func (l lists) hasTwice() bool {
	return len(l.levelOf()) < l.count()
}

// drop takes the files out that drops name.
func (l lists) drop(drops ...api.Drop) api.Errno {
	stay := l.levelOf()
	for _, d := range drops {
		if level, ok := stay[d.Number]; !ok || level != d.Level {
			return api.ErrNone
		}
		delete(stay, d.Number)
	}
	for level, files := range l.levels {
		l.levels[level] = slices.DeleteFunc(files, func(f api.File) bool {
			_, ok := stay[f.Number]
			return !ok
		})
	}
	return api.OK
}

// add puts files in, each to its place. A level that is none is told only
// where no Number is there: it is a fault of what would come.
func (l lists) add(adds ...api.Add) api.Errno {
	there := l.levelOf()
	for _, a := range adds {
		if _, ok := there[a.File.Number]; ok {
			return api.ErrThere
		}
		there[a.File.Number] = a.Level
	}
	for _, a := range adds {
		if !isLevel(a.Level) {
			return api.ErrArg
		}
		l.levels[a.Level] = append(l.levels[a.Level], clone(a.File))
	}
	l.sort()
	return api.OK
}

// sort puts the files of each level in order. Those that overlap, where they
// may not, come to stand side by side, and Check finds them.
func (l lists) sort() {
	for level, files := range l.levels {
		slices.SortFunc(files, func(a, b api.File) int {
			if level == 0 {
				return cmp.Compare(a.Number, b.Number)
			}
			return bytes.Compare(a.Least, b.Least)
		})
	}
}

// tell answers the version, if it may be.
func (d draft) tell() (api.Version, api.Errno) {
	v := api.Version{Levels: d.levels, Next: d.next, Seq: d.seq, Log: d.log}
	if err := Check(v); err != api.OK {
		return api.Version{}, err
	}
	return v, api.OK
}

// overlaps answers what tells whether a file has keys from least to most; a
// most without bytes is no bound.
func overlaps(least, most []byte) func(api.File) bool {
	return func(f api.File) bool {
		return bytes.Compare(f.Most, least) >= 0 &&
			(len(most) == 0 || bytes.Compare(f.Least, most) <= 0)
	}
}
