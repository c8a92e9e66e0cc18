package version

import (
	"bytes"
	"slices"

	"bootprint/api"
)

// endOfNumbers is where the numbers of files and of the log's segments end:
// their names have room for 12 digits.
const endOfNumbers = 1_000_000_000_000

// Check answers whether v may be: first all that is wrong in itself, then
// whether there is too much of it.
func Check(v api.Version) api.Errno {
	switch {
	case isWrong(v):
		return api.ErrArg
	case isLong(v):
		return api.ErrLong
	}
	return api.OK
}

// isWrong answers whether v may not be, whatever bounds its files and bytes
// have together.
func isWrong(v api.Version) bool {
	switch {
	case v.Next < 1, v.Next > endOfNumbers, v.Seq > api.MaxSeq, v.Log >= endOfNumbers:
		return true
	case len(v.Levels) != api.MaxLevels:
		return true
	}
	isTooNew := func(f api.File) bool { return f.Number >= v.Next }
	for level, files := range v.Levels {
		if slices.ContainsFunc(files, isWrongFile) || slices.ContainsFunc(files, isTooNew) || !inOrder(level, files) {
			return true
		}
	}
	return lists{levels: v.Levels}.hasTwice()
}

// isLong answers whether v, which is not wrong, has too many files, or bytes.
func isLong(v api.Version) bool {
	return lists{levels: v.Levels}.count() > api.MaxFiles || wholeSize(v) > api.MaxFrame
}

func isLevel(level int) bool {
	return level >= 0 && level < api.MaxLevels
}

func isWrongFile(f api.File) bool {
	switch {
	case f.Number < 1, f.MostSeq > api.MaxSeq:
		return true
	case f.Size < 0, f.Size > api.MaxTable, f.Entries < 1, f.Entries > api.MaxTable:
		return true
	}
	return !isKey(f.Least) || !isKey(f.Most) || bytes.Compare(f.Least, f.Most) > 0
}

func isKey(key []byte) bool {
	return len(key) >= 1 && len(key) <= api.MaxKey
}

func inOrder(level int, files []api.File) bool {
	for i := 1; i < len(files); i++ {
		if !isAhead(level, files[i-1], files[i]) {
			return false
		}
	}
	return true
}

// isAhead answers whether a may be the one ahead of b. On level 0 files may
// overlap: there it counts which one is newer.
func isAhead(level int, a, b api.File) bool {
	if level == 0 {
		return a.Number < b.Number
	}
	return bytes.Compare(a.Most, b.Least) < 0
}
