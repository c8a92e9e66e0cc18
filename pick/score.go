package pick

import (
	"slices"

	"bootprint/api"
	"bootprint/version"
)

// lastLevel has no bound: there is no level into which its files could go.
const lastLevel = api.MaxLevels - 1

// full is the score of a level that has just as much as its bound.
const full = 100

// scores answers the score of each level, where v and s may be.
func scores(v api.Version, s api.PickSetup) [api.MaxLevels]int {
	var l [api.MaxLevels]int
	for level := range l {
		l[level] = score(v, s, level)
	}
	return l
}

func score(v api.Version, s api.PickSetup, level int) int {
	switch level {
	case 0:
		return len(v.Levels[0]) * full / Bound(s, 0)
	case lastLevel:
		return 0
	}
	return version.Bytes(v, level) * full / Bound(s, level)
}

// due answers the level with the greatest score, of those the least; false, if
// that score is too little.
func due(scores [api.MaxLevels]int) (int, bool) {
	best := 0
	for _, x := range scores {
		best = max(best, x)
	}
	if best < full {
		return 0, false
	}
	return slices.Index(scores[:], best), true
}
