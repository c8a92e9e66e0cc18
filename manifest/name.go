package manifest

import (
	"strconv"
	"strings"
)

const (
	prefix  = "manifest-"
	digits  = 12
	numbers = 1_000_000_000_000 // that have no more digits

	// current is the file that says which manifest's file counts, draft where
	// it is written till it takes that name.
	current = "current"
	draft   = "current.tmp"

	lineEnd = "\n" // behind the name in current
)

// Name answers the name of the manifest's file n; nothing, if n has too many
// digits.
func Name(n uint64) string {
	if n >= numbers {
		return ""
	}
	s := strconv.FormatUint(n, 10)
	return prefix + strings.Repeat("0", digits-len(s)) + s
}

// ParseName answers the number of the manifest's file whose name s is.
func ParseName(s string) (n uint64, ok bool) {
	n, err := strconv.ParseUint(strings.TrimPrefix(s, prefix), 10, 64)
	// A text that is read as a number may still be no name: it may have another
	// count of digits, or another first part.
	if err != nil || Name(n) != s {
		return 0, false
	}
	return n, true
}
