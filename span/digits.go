package span

import (
	"strings"

	"bootprint/api"
)

const (
	digits    = "0123456789abcdef"
	digitBits = 4
	idDigits  = 16 // of a number of 64 bits
)

// TraceText answers the 32 digits of t.
func TraceText(t api.Trace) string {
	return IDText(t.Hi) + IDText(t.Lo)
}

// IDText answers the 16 digits of x.
func IDText(x uint64) string {
	var b [idDigits]byte
	for i := range b {
		b[idDigits-1-i] = digits[x%uint64(len(digits))]
		x >>= digitBits
	}
	return string(b[:])
}

// ParseTrace answers the trace whose text s is.
func ParseTrace(s string) (api.Trace, api.Errno) {
	if len(s) != 2*idDigits {
		return api.Trace{}, api.ErrArg
	}
	hi, isHi := parseDigits(s[:idDigits])
	lo, isLo := parseDigits(s[idDigits:])
	t := api.Trace{Hi: hi, Lo: lo}
	if !isHi || !isLo || t == (api.Trace{}) {
		return api.Trace{}, api.ErrArg
	}
	return t, api.OK
}

// parseDigits answers the number whose digits s is, and whether all are digits.
func parseDigits(s string) (x uint64, ok bool) {
	for i := range len(s) {
		d := strings.IndexByte(digits, s[i])
		if d < 0 {
			return 0, false
		}
		x = x<<digitBits | uint64(d)
	}
	return x, true
}
