package pick_test

import (
	"math/big"

	"bootprint/api"
	"bootprint/version"
)

// By the chapter's words, without regard to how long it takes.

func plainCheckSetup(s api.PickSetup) api.Errno {
	if 1 <= s.Trigger && s.Trigger <= 100 && 1 <= s.Base && s.Base <= 1073741824 && 2 <= s.Factor && s.Factor <= 100 {
		return api.OK
	}
	return api.ErrArg
}

// plainBound reckons in numbers without bounds; nil: none.
func plainBound(s api.PickSetup, level int) *big.Int {
	if plainCheckSetup(s) != api.OK || level < 0 || level > 3 {
		return nil
	}
	if level == 0 {
		return big.NewInt(int64(s.Trigger))
	}
	power := new(big.Int).Exp(big.NewInt(int64(s.Factor)), big.NewInt(int64(level-1)), nil)
	n := power.Mul(power, big.NewInt(int64(s.Base)))
	if most := new(big.Int).Lsh(big.NewInt(1), 60); n.Cmp(most) > 0 {
		return most
	}
	return n
}

func plainScore(v api.Version, s api.PickSetup, level int) int {
	bound := plainBound(s, level)
	if bound == nil || version.Check(v) != api.OK {
		return 0
	}
	has := big.NewInt(0)
	for _, f := range v.Levels[level] {
		if level == 0 {
			has.Add(has, big.NewInt(1))
		} else {
			has.Add(has, big.NewInt(int64(f.Size)))
		}
	}
	has.Mul(has, big.NewInt(100))
	return int(has.Div(has, bound).Int64())
}

func plainRest(v api.Version, s api.PickSetup) bool {
	if version.Check(v) != api.OK || plainCheckSetup(s) != api.OK {
		return false
	}
	for level := range 5 {
		if plainScore(v, s, level) >= 100 {
			return false
		}
	}
	return true
}

func plainNext(v api.Version, s api.PickSetup) (api.Job, api.Errno) {
	if e := version.Check(v); e != api.OK {
		return api.Job{}, e
	}
	if e := plainCheckSetup(s); e != api.OK {
		return api.Job{}, e
	}
	if plainRest(v, s) {
		return api.Job{}, api.ErrNone
	}
	var j api.Job
	for level := range 5 {
		if plainScore(v, s, level) > plainScore(v, s, j.Level) {
			j.Level = level
		}
	}
	if j.Level == 0 {
		j.Upper = plainGathered(v.Levels[0])
	} else {
		j.Upper = files(plainOldest(v.Levels[j.Level]))
	}
	least, most := plainReach(j.Upper)
	j.Lower = plainOverlapping(v.Levels[j.Level+1], least, most)
	least, most = plainReach(append(append([]api.File{}, j.Upper...), j.Lower...))
	j.Least, j.Most, j.Bottom = []byte(least), []byte(most), true
	for deeper := j.Level + 2; deeper < 5; deeper++ {
		if len(plainOverlapping(v.Levels[deeper], least, most)) > 0 {
			j.Bottom = false
		}
	}
	return j, api.OK
}

func plainOldest(l []api.File) api.File {
	oldest := l[0]
	for _, f := range l {
		if f.Number < oldest.Number {
			oldest = f
		}
	}
	return oldest
}

// plainGathered takes all that overlap what was taken, till nothing comes.
func plainGathered(l []api.File) []api.File {
	taken := l[:1]
	for {
		least, most := plainReach(taken)
		more := plainOverlapping(l, least, most)
		if len(more) == len(taken) {
			return more
		}
		taken = more
	}
}

// plainReach answers the least and the greatest key.
func plainReach(l []api.File) (least, most string) {
	least, most = string(l[0].Least), string(l[0].Most)
	for _, f := range l {
		least, most = min(least, string(f.Least)), max(most, string(f.Most))
	}
	return least, most
}

func plainOverlapping(l []api.File, least, most string) []api.File {
	var m []api.File
	for _, f := range l {
		below := string(f.Most) < least
		above := string(f.Least) > most
		if !below && !above {
			m = append(m, f)
		}
	}
	return m
}
