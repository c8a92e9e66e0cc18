package version

import (
	"bytes"
	"slices"

	"bootprint/api"
	"bootprint/wire"
)

// Append answers p with e's bytes behind.
func Append(p []byte, e api.Edit) ([]byte, api.Errno) {
	switch {
	case slices.ContainsFunc(e.Drops, isWrongDrop), slices.ContainsFunc(e.Adds, isWrongAdd):
		return nil, api.ErrArg
	case len(e.Drops) > api.MaxFiles, len(e.Adds) > api.MaxFiles:
		return nil, api.ErrLong
	}
	out := appendNumbers(bytes.Clone(p), e.Next, e.Seq, e.Log)
	out = appendNumbers(out, uint64(len(e.Drops)))
	for _, d := range e.Drops {
		out = appendNumbers(out, uint64(d.Level), d.Number)
	}
	out = appendNumbers(out, uint64(len(e.Adds)))
	for _, a := range e.Adds {
		out = appendNumbers(out, numbersOf(a)...)
		out = appendPieces(out, a.File.Least, a.File.Most)
	}
	return out, api.OK
}

// Whether a drop or an add may be is not asked, but whether it has bytes.

func isWrongDrop(d api.Drop) bool {
	return d.Level < 0
}

func isWrongAdd(a api.Add) bool {
	return a.Level < 0 || a.File.Size < 0 || a.File.Entries < 0 ||
		len(a.File.Least) > api.MaxPiece || len(a.File.Most) > api.MaxPiece
}

// numbersOf answers the numbers of an add, in the order of its bytes.
func numbersOf(a api.Add) []uint64 {
	return []uint64{uint64(a.Level), a.File.Number, uint64(a.File.Size), uint64(a.File.Entries), a.File.MostSeq}
}

// appendNumbers has wire make each number apart from out, since wire answers
// new memory, and would copy all of out for each number.
func appendNumbers(out []byte, numbers ...uint64) []byte {
	for _, x := range numbers {
		out = append(out, wire.Number(nil, x)...)
	}
	return out
}

func appendPieces(out []byte, pieces ...[]byte) []byte {
	for _, p := range pieces {
		out = append(appendNumbers(out, uint64(len(p))), p...)
	}
	return out
}

// wholeSize answers how many bytes the edit has that makes v of the first
// version, if v's numbers may be.
func wholeSize(v api.Version) int {
	drops, adds := 0, lists{levels: v.Levels}.count()
	n := numbersSize(v.Next, v.Seq, v.Log, uint64(drops), uint64(adds))
	for level, files := range v.Levels {
		for _, f := range files {
			n += numbersSize(numbersOf(api.Add{Level: level, File: f})...)
			n += numbersSize(uint64(len(f.Least)), uint64(len(f.Most))) + len(f.Least) + len(f.Most)
		}
	}
	return n
}

func numbersSize(numbers ...uint64) int {
	n := 0
	for _, x := range numbers {
		n += wire.Size(x)
	}
	return n
}
