package pick

import (
	"bytes"
	"cmp"
	"slices"

	"bootprint/api"
	"bootprint/version"
)

// jobOf answers what is put together of a level that is due: it has a file, and
// there is a next level.
func jobOf(v api.Version, level int) api.Job {
	up := upper(v.Levels[level], level)
	job := api.Job{
		Level: level,
		Upper: version.Overlap(v, level, up.least, up.most),
		Lower: version.Overlap(v, level+1, up.least, up.most),
	}
	all := up
	for _, f := range job.Lower {
		all = all.with(f)
	}
	job.Least, job.Most = bytes.Clone(all.least), bytes.Clone(all.most)
	job.Bottom = version.Deepest(v, level+1, all.least, all.most)
	return job
}

// upper answers the keys of the files that go down from a level. Its files that
// overlap these keys are just those that go, also of a level whose files don't
// overlap one another.
func upper(files []api.File, level int) keys {
	if level == 0 {
		return gather(files)
	}
	return keysOf(slices.MinFunc(files, func(a, b api.File) int {
		return cmp.Compare(a.Number, b.Number)
	}))
}

// gather answers the keys of the first file of level 0 and of all that are put
// together with it. Each file that widens the keys may bring others within
// them, whatever their place: therefore all are gone over again.
func gather(files []api.File) keys {
	k := keysOf(files[0])
again:
	for {
		for _, f := range files {
			if k.overlap(f) && !k.hold(f) {
				k = k.with(f)
				continue again
			}
		}
		return k
	}
}

// keys are all from least to most.
type keys struct {
	least, most []byte
}

func keysOf(f api.File) keys {
	return keys{least: f.Least, most: f.Most}
}

func (k keys) overlap(f api.File) bool {
	return bytes.Compare(f.Most, k.least) >= 0 && bytes.Compare(f.Least, k.most) <= 0
}

func (k keys) hold(f api.File) bool {
	return bytes.Compare(f.Least, k.least) >= 0 && bytes.Compare(f.Most, k.most) <= 0
}

// with answers the keys that reach over f's too.
func (k keys) with(f api.File) keys {
	if bytes.Compare(f.Least, k.least) < 0 {
		k.least = f.Least
	}
	if bytes.Compare(f.Most, k.most) > 0 {
		k.most = f.Most
	}
	return k
}
