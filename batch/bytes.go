package batch

import (
	"bootprint/api"
	"bootprint/wire"
)

// kindSize is how many bytes a write's Kind has.
const kindSize = 1

// Append answers p with b's bytes behind.
func Append(p []byte, b api.Batch) ([]byte, api.Errno) {
	if e := Check(b); e != api.OK {
		return nil, e
	}
	out := append(make([]byte, 0, len(p)+size(b)), p...)
	out = appendNumber(out, b.Seq)
	out = appendNumber(out, uint64(len(b.Writes)))
	for _, w := range b.Writes {
		out = appendWrite(out, w)
	}
	return out, api.OK
}

// Parse answers the batch whose bytes p is.
func Parse(p []byte) (api.Batch, api.Errno) {
	r := wire.New(p)
	seq, told := r.Number(), r.Number()
	// The list grows by what is read: the number that is told may be any.
	var writes []api.Write
	for range told {
		w, e := readWrite(r)
		if e != api.OK {
			return api.Batch{}, e
		}
		writes = append(writes, w)
	}
	if e := r.End(); e != api.OK {
		return api.Batch{}, e
	}
	b := batchOf(seq, writes...)
	if e := Check(b); e != api.OK {
		return api.Batch{}, e
	}
	return b, api.OK
}

// size answers how many bytes b has, if its writes may be.
func size(b api.Batch) int {
	n := wire.Size(b.Seq) + wire.Size(uint64(len(b.Writes)))
	for _, w := range b.Writes {
		n += kindSize + pieceSize(w.Key)
		if w.Kind == api.WritePut {
			n += pieceSize(w.Value)
		}
	}
	return n
}

func pieceSize(p []byte) int {
	return wire.Size(uint64(len(p))) + len(p)
}

func appendWrite(out []byte, w api.Write) []byte {
	out = append(out, byte(w.Kind))
	out = appendPiece(out, w.Key)
	if w.Kind == api.WritePut {
		out = appendPiece(out, w.Value)
	}
	return out
}

// appendNumber has wire make the number apart from out, since wire answers new
// memory, and would copy all of out for each number.
func appendNumber(out []byte, x uint64) []byte {
	return append(out, wire.Number(nil, x)...)
}

func appendPiece(out, p []byte) []byte {
	return append(appendNumber(out, uint64(len(p))), p...)
}

// readWrite goes over one write. A Kind that is none ends it where it stands:
// nobody knows what is behind.
func readWrite(r *wire.Reader) (api.Write, api.Errno) {
	kind := r.Fixed(kindSize)
	if e := r.Err(); e != api.OK {
		return api.Write{}, e
	}
	w := api.Write{Kind: int(kind[0])}
	if !isKind(w.Kind) {
		return api.Write{}, api.ErrBad
	}
	w.Key = r.Piece()
	if w.Kind == api.WritePut {
		w.Value = r.Piece()
	}
	return w, r.Err()
}
