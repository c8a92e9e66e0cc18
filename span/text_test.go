package span_test

import (
	"strings"
	"testing"

	"bootprint/api"
	"bootprint/span"
)

// P17.3: TraceText, IDText, ParseTrace

func TestTraceTextAndIDText(t *testing.T) {
	for _, c := range []struct {
		x    uint64
		want string
	}{
		{0, "0000000000000000"},
		{1, "0000000000000001"},
		{9, "0000000000000009"},
		{10, "000000000000000a"},
		{15, "000000000000000f"},
		{16, "0000000000000010"},
		{255, "00000000000000ff"},
		{0x0123456789abcdef, "0123456789abcdef"},
		{0xfedcba9876543210, "fedcba9876543210"},
		{1 << 63, "8000000000000000"},
		{greatest, "ffffffffffffffff"},
	} {
		if got := span.IDText(c.x); got != c.want {
			t.Errorf("IDText of %d: %q, want %q", c.x, got, c.want)
		}
		if got := span.TraceText(trace(c.x, 0xabc)); got != c.want+"0000000000000abc" {
			t.Errorf("TraceText of %d and 0xabc: %q", c.x, got)
		}
		if got := span.TraceText(trace(0xabc, c.x)); got != "0000000000000abc"+c.want {
			t.Errorf("TraceText of 0xabc and %d: %q", c.x, got)
		}
	}
	if got := span.TraceText(trace(0, 0)); got != strings.Repeat("0", 32) {
		t.Errorf("TraceText of no trace: %q", got)
	}
}

func TestParseTrace(t *testing.T) {
	zeros := strings.Repeat("0", 32)
	for _, c := range []struct {
		s    string
		want api.Trace
		e    api.Errno
	}{
		{"000000000000000100000000000000ff", trace(1, 255), api.OK},
		{"0123456789abcdeffedcba9876543210", trace(0x0123456789abcdef, 0xfedcba9876543210), api.OK},
		{strings.Repeat("f", 32), trace(greatest, greatest), api.OK},
		{zeros[1:] + "1", trace(0, 1), api.OK},
		{"1" + zeros[1:], trace(1<<60, 0), api.OK},
		{zeros[:15] + "1" + zeros[:16], trace(1, 0), api.OK},
		{zeros[:16] + "1" + zeros[:15], trace(0, 1<<60), api.OK},
		{zeros, api.Trace{}, api.ErrArg},
		{"", api.Trace{}, api.ErrArg},
		{"1", api.Trace{}, api.ErrArg},
		{strings.Repeat("1", 16), api.Trace{}, api.ErrArg},
		{strings.Repeat("1", 31), api.Trace{}, api.ErrArg},
		{strings.Repeat("1", 33), api.Trace{}, api.ErrArg},
		{"0" + zeros + "1", api.Trace{}, api.ErrArg},
		{strings.Repeat("1", 64), api.Trace{}, api.ErrArg},
		{strings.Repeat("F", 32), api.Trace{}, api.ErrArg},
		{zeros[1:] + "A", api.Trace{}, api.ErrArg},
		{"A" + zeros[1:], api.Trace{}, api.ErrArg},
		{"0x" + zeros[3:] + "1", api.Trace{}, api.ErrArg},
		{"+" + zeros[2:] + "1", api.Trace{}, api.ErrArg},
		{"-" + zeros[2:] + "1", api.Trace{}, api.ErrArg},
		{" " + zeros[2:] + "1", api.Trace{}, api.ErrArg},
		{zeros[2:] + "1 ", api.Trace{}, api.ErrArg},
		{zeros[2:] + "1\n", api.Trace{}, api.ErrArg},
		{zeros[:16] + "_" + zeros[18:] + "1", api.Trace{}, api.ErrArg},
		{"0000000000000001 00000000000000ff", api.Trace{}, api.ErrArg},
		{zeros[1:] + "g", api.Trace{}, api.ErrArg},
		{zeros[2:] + "\u00e9", api.Trace{}, api.ErrArg},
	} {
		got, e := span.ParseTrace(c.s)
		if got != c.want || e != c.e {
			t.Errorf("ParseTrace of %q: %v, %d, want %v, %d", c.s, got, e, c.want, c.e)
		}
	}
}

// Every byte in every place is a digit, or makes the text none.
func TestEachByteOfATrace(t *testing.T) {
	s := []byte("89abcdef0123456776543210fedcba98")
	for i := range s {
		was := s[i]
		for c := range 256 {
			s[i] = byte(c)
			digit := '0' <= c && c <= '9' || 'a' <= c && c <= 'f'
			x, e := span.ParseTrace(string(s))
			switch {
			case digit && (e != api.OK || span.TraceText(x) != string(s)):
				t.Errorf("ParseTrace of %q: %v, %d", s, x, e)
			case !digit && (e != api.ErrArg || x != api.Trace{}):
				t.Errorf("ParseTrace of %q: %v, %d, want ErrArg", s, x, e)
			}
		}
		s[i] = was
	}
}
