package span

import (
	"cmp"
	"slices"
	"strings"

	"bootprint/api"
)

// Compare answers -1, 0, 1: a is ahead of b in the order of spans, the same,
// behind.
func Compare(a, b api.Span) int {
	return cmp.Or(
		cmp.Compare(a.Trace.Hi, b.Trace.Hi),
		cmp.Compare(a.Trace.Lo, b.Trace.Lo),
		cmp.Compare(a.ID, b.ID),
		cmp.Compare(a.Parent, b.Parent),
		cmp.Compare(a.Start, b.Start),
		cmp.Compare(a.Length, b.Length),
		strings.Compare(a.Service, b.Service),
		strings.Compare(a.Name, b.Name),
		cmp.Compare(a.Kind, b.Kind),
		cmp.Compare(bit(a.Fails), bit(b.Fails)),
		slices.CompareFunc(a.Tags, b.Tags, compareTags),
	)
}

// Same answers whether all fields of a and b are the same.
func Same(a, b api.Span) bool {
	return Compare(a, b) == 0
}

func compareTags(a, b api.Tag) int {
	return cmp.Or(strings.Compare(a.Key, b.Key), strings.Compare(a.Value, b.Value))
}

// bit answers Fails as it stands in bytes, and in the order: false is ahead.
func bit(fails bool) byte {
	if fails {
		return 1
	}
	return 0
}
