package compact

import "bootprint/api"

const besides = 32 // what an entry counts beside its bytes, as in a table in memory

// cut answers the files into which the row l is cut: parts of it, without spare
// room, so that none of them reaches into the next one.
func cut(l []api.Entry, target int) [][]api.Entry {
	var files [][]api.Entry
	begin, size := 0, 0
	for i, e := range l {
		if size >= target && !sameKey(l[i-1], e) { // a target is 1 at least: one is taken
			files = append(files, l[begin:i:i])
			begin, size = i, 0
		}
		size += len(e.Key) + len(e.Value) + besides
	}
	if begin < len(l) {
		files = append(files, l[begin:len(l):len(l)])
	}
	return files
}
