package span

import (
	"bootprint/api"
	"bootprint/wire"
)

// fixedSize is how many bytes a Trace's halves, an ID and a Parent have each.
const fixedSize = 8

// Append answers b with s' bytes behind.
func Append(b []byte, s api.Span) ([]byte, api.Errno) {
	if e := Check(s); e != api.OK {
		return nil, e
	}
	out := append([]byte(nil), b...)
	for _, x := range [...]uint64{s.Trace.Hi, s.Trace.Lo, s.ID, s.Parent} {
		out = append(out, wire.Ordered(nil, x)...)
	}
	out = appendText(out, s.Service)
	out = appendText(out, s.Name)
	out = append(out, byte(s.Kind))
	out = appendNumber(out, uint64(s.Start))
	out = appendNumber(out, uint64(s.Length))
	out = append(out, bit(s.Fails))
	out = appendNumber(out, uint64(len(s.Tags)))
	for _, t := range s.Tags {
		out = appendText(out, t.Key)
		out = appendText(out, t.Value)
	}
	return out, api.OK
}

// appendNumber has wire make the number apart from out, since wire answers new
// memory, and would copy all of out for each number.
func appendNumber(out []byte, x uint64) []byte {
	return append(out, wire.Number(nil, x)...)
}

// appendText appends a text of a span that may be, so it has room in a piece.
func appendText(out []byte, s string) []byte {
	return append(appendNumber(out, uint64(len(s))), s...)
}
