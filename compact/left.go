package compact

import (
	"slices"

	"bootprint/api"
)

// left answers what is left of the row l, which is changed in place.
func left(l []api.Entry, looks []uint64, bottom bool) []api.Entry {
	stays := visible(l, looks)
	if bottom {
		uncover(l, stays)
	}
	asked := 0 // how many entries were asked for: each is, once, in order
	return slices.DeleteFunc(l, func(api.Entry) bool {
		asked++
		return !stays[asked-1]
	})
}

// uncover takes out of stays the deletes that hide nothing at the bottom: those
// that have no older entry of their Key that stays.
func uncover(l []api.Entry, stays []bool) {
	older := false // whether one of the Key stays that is older
	for i := len(l) - 1; i >= 0; i-- {
		older = older && sameKey(l[i], l[i+1])
		if !older && l[i].Kind == api.WriteDelete {
			stays[i] = false
		}
		older = older || stays[i]
	}
}
