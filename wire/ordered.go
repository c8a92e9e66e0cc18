package wire

import (
	"bytes"
	"strings"

	"bootprint/api"
)

const (
	orderedSize = 8   // bytes of a number in order
	zero        = 0   // in a text in order, zeroStays or textEnds is behind it
	zeroStays   = 255 // the byte 0 is the text's own
	textEnds    = 1   // below zeroStays: a text is ahead of all that go on with a byte 0
)

// Ordered answers b with x in order behind.
func Ordered(b []byte, x uint64) []byte {
	out := extend(b, orderedSize)
	for shift := 56; shift >= 0; shift -= 8 {
		out = append(out, byte(x>>shift))
	}
	return out
}

// OrderedText answers b with s in order behind.
func OrderedText(b []byte, s string) []byte {
	zeros := strings.Count(s, "\x00")
	out := extend(b, len(s)+zeros+2)
	for i := range len(s) {
		out = append(out, s[i])
		if s[i] == zero {
			out = append(out, zeroStays)
		}
	}
	return append(out, zero, textEnds)
}

// ReadOrdered answers the number in order that stands first in b, and how many
// bytes it takes.
func ReadOrdered(b []byte) (x uint64, n int, e api.Errno) {
	if len(b) < orderedSize {
		return 0, 0, api.ErrMore
	}
	for _, c := range b[:orderedSize] {
		x = x<<8 | uint64(c)
	}
	return x, orderedSize, api.OK
}

// ReadOrderedText answers the text in order that stands first in b, and how
// many bytes it takes.
func ReadOrderedText(b []byte) (s string, n int, e api.Errno) {
	var text []byte
	for i := 0; i < len(b); i++ {
		text = append(text, b[i])
		if b[i] != zero {
			continue
		}
		i++
		switch {
		case i == len(b):
			return "", 0, api.ErrMore
		case b[i] == textEnds:
			return string(text[:len(text)-1]), i + 1, api.OK
		case b[i] != zeroStays:
			return "", 0, api.ErrBad
		}
	}
	return "", 0, api.ErrMore
}

// After answers the least bytes above all that begin with p, if there are any.
func After(p []byte) ([]byte, bool) {
	n := len(p)
	for n > 0 && p[n-1] == 255 {
		n--
	}
	if n == 0 {
		return nil, false
	}
	after := bytes.Clone(p[:n])
	after[n-1]++
	return after, true
}
