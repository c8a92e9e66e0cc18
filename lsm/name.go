package lsm

import (
	"strconv"
	"strings"
)

const (
	prefix  = "table-"
	digits  = 12
	numbers = 1_000_000_000_000 // that have no more digits
)

// tableName answers the name of the table's file n; nothing, if n has too many
// digits.
func tableName(n uint64) string {
	if n >= numbers {
		return ""
	}
	s := strconv.FormatUint(n, 10)
	return prefix + strings.Repeat("0", digits-len(s)) + s
}

// parseTableName answers the Number of the table's file whose name s is.
func parseTableName(s string) (n uint64, ok bool) {
	n, err := strconv.ParseUint(strings.TrimPrefix(s, prefix), 10, 64)
	// A text that is read as a number may still be no name: it may have another
	// count of digits, or another first part.
	if err != nil || tableName(n) != s {
		return 0, false
	}
	return n, true
}
