package table

import (
	"bootprint/api"
	"bootprint/frame"
	"bootprint/wire"
)

// part is bytes that stand in a table, or why they can't be made.
type part struct {
	bytes []byte
	err   api.Errno
}

func partOf(b []byte, e api.Errno) part {
	return part{bytes: b, err: e}
}

func number(x uint64) part {
	return partOf(wire.Number(nil, x), api.OK)
}

func piece(p []byte) part {
	return partOf(wire.Piece(nil, p))
}

func framed(kind byte, body part) part {
	if body.err != api.OK {
		return body
	}
	return partOf(frame.Append(nil, api.Frame{Kind: kind, Body: body.bytes}))
}

// together answers all parts, one behind the other, or the first error that
// one has. Each is made apart ahead of it: the layers below answer new memory,
// and would copy all that stands ahead for each part.
func together(parts ...part) part {
	var out []byte
	for _, p := range parts {
		if p.err != api.OK {
			return partOf(nil, p.err)
		}
		out = append(out, p.bytes...)
	}
	return partOf(out, api.OK)
}
