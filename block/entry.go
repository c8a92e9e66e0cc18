package block

import (
	"bootprint/api"
	"bootprint/wire"
)

// kinds is what a Seq is multiplied by, so that a Kind has room beside it.
const kinds = 4

// shared answers how many bytes of its Key the entry at i leaves to the one
// ahead.
func shared(l []api.Entry, i int) int {
	if isRestart(i) {
		return 0
	}
	return alike(l[i-1].Key, l[i].Key)
}

// alike answers how many bytes a and b begin with that are the same.
func alike(a, b []byte) int {
	n := 0
	for n < len(a) && n < len(b) && a[n] == b[n] {
		n++
	}
	return n
}

// numbers answers what stands ahead of the bytes of e's Key and Value. They
// wrap, where e is none that may be: Size is told of such entries too.
func numbers(e api.Entry, shared int) [4]uint64 {
	return [4]uint64{
		uint64(shared),
		uint64(len(e.Key) - shared),
		e.Seq*kinds + uint64(e.Kind),
		uint64(len(e.Value)),
	}
}

func entrySize(e api.Entry, shared int) int {
	n := len(e.Key) - shared + len(e.Value)
	for _, x := range numbers(e, shared) {
		n += wire.Size(x)
	}
	return n
}

// appendEntry has wire make the numbers apart from out, since wire answers new
// memory, and would copy all of out for each number.
func appendEntry(out []byte, e api.Entry, shared int) []byte {
	for _, x := range numbers(e, shared) {
		out = append(out, wire.Number(nil, x)...)
	}
	out = append(out, e.Key[shared:]...)
	return append(out, e.Value...)
}
