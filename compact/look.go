package compact

import (
	"slices"

	"bootprint/api"
)

// everybody answers the numbers of all who look: looks, and the greatest number
// there can be, if it is none of them.
func everybody(looks []uint64) []uint64 {
	if n := len(looks); n > 0 && looks[n-1] == api.MaxSeq {
		return looks
	}
	return append(slices.Clip(looks), api.MaxSeq) // clipped: looks' spare room is not ours
}

// visible answers of each entry of the row l whether it is seen at one of looks.
// From the last entry on the numbers of a Key rise, as looks do: so the first of
// looks at or above an entry's number is found from where that of the older one
// was, and sees the entry, unless it sees a newer one.
func visible(l []api.Entry, looks []uint64) []bool {
	seen := make([]bool, len(l))
	look := 0
	for i := len(l) - 1; i >= 0; i-- {
		oldest := i == len(l)-1 || !sameKey(l[i], l[i+1])
		newest := i == 0 || !sameKey(l[i-1], l[i])
		if oldest {
			look = 0
		}
		// A leap, since there may be many who look, and a Key for each entry.
		below, _ := slices.BinarySearch(looks[look:], l[i].Seq)
		look += below
		seen[i] = look < len(looks) && (newest || looks[look] < l[i-1].Seq)
	}
	return seen
}
