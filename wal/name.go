package wal

import (
	"strconv"
	"strings"
)

const (
	prefix  = "wal-"
	digits  = 12
	numbers = 1_000_000_000_000 // that have no more digits

	// draft is where a segment is written anew till it takes its name back.
	draft = "wal.tmp"
)

// Name answers the name of the segment n; nothing, if n has too many digits.
func Name(n uint64) string {
	if n >= numbers {
		return ""
	}
	s := strconv.FormatUint(n, 10)
	return prefix + strings.Repeat("0", digits-len(s)) + s
}

// ParseName answers the number of the segment whose name s is.
func ParseName(s string) (n uint64, ok bool) {
	n, err := strconv.ParseUint(strings.TrimPrefix(s, prefix), 10, 64)
	// A text that is read as a number may still be no name: it may have another
	// count of digits, or another first part.
	if err != nil || Name(n) != s {
		return 0, false
	}
	return n, true
}
