package manifest_test

import (
	"encoding/binary"
	"fmt"
	"testing"

	"bootprint/api"
	"bootprint/version"
)

// P13.2

func TestAppend(t *testing.T) {
	m, f := begun(t)
	row := rowOf(beginning())
	for i, e := range some() {
		ops := f.Ops()
		fine(t, m.Append(e))
		took(t, "Append", f, ops, 2)
		row += rowOf(e)
		v := made(t, some()[:i+1]...)
		tells(t, "appended", m, f, v, 1)
		named(t, f, "current", first)
		holds(t, f, first, row)
		if m.Size() != len(row) {
			t.Errorf("Size: %d, want %d", m.Size(), len(row))
		}
		// Open anew, the same is told, and the one before goes on.
		opened(t, "anew", f, v, 1)
		if i%2 == 0 {
			m = opened(t, "anew, to go on with", f, v, 1)
		}
	}
	fine(t, f.Crash(0, nil))
	opened(t, "crashed", f, made(t, some()...), 1)
	holds(t, f, first, row)
}

func TestRoll(t *testing.T) {
	m, f := begun(t)
	number := uint64(1)
	for i := range len(some()) + 1 {
		v := made(t, some()[:i]...)
		for range i%3 + 1 {
			ops := f.Ops()
			fine(t, m.Roll())
			took(t, "Roll", f, ops, 10)
			number++
			tells(t, "rolled", m, f, v, number)
			name := fmt.Sprintf("manifest-%012d", number)
			named(t, f, "current", name)
			holds(t, f, name, wholeRow(v))
			holds(t, f, "current", name+"\n")
			if m.Size() != len(wholeRow(v)) {
				t.Errorf("Size: %d, want %d", m.Size(), len(wholeRow(v)))
			}
			opened(t, "anew", f, v, number)
		}
		if i < len(some()) {
			fine(t, m.Append(some()[i]))
			row := wholeRow(v) + rowOf(some()[i])
			if m.Size() != len(row) || m.Number() != number {
				t.Errorf("Number %d, Size %d; want %d, %d", m.Number(), m.Size(), number, len(row))
			}
		}
	}
	fine(t, f.Crash(0, nil))
	opened(t, "crashed", f, made(t, some()...), number)
}

// What an earlier crash left is in the way.
func TestRollWithFilesLeft(t *testing.T) {
	for _, left := range []string{"", "left", wholeRow(made(t, some()...))} {
		m, f := begun(t, adds(2))
		put(t, f, second, left)
		put(t, f, "current.tmp", left+"y")
		put(t, f, third, left)
		ops := f.Ops()
		fine(t, m.Roll())
		took(t, "Roll", f, ops, 12)
		tells(t, "rolled", m, f, made(t, adds(2)), 2)
		named(t, f, "current", second, third)
		holds(t, f, second, wholeRow(made(t, adds(2))))
		holds(t, f, third, left)
		fine(t, m.Append(adds(3)))
		opened(t, "anew", f, made(t, adds(2), adds(3)), 2)
	}
}

// wrongEdits tells edits that can't be applied to what adds(2) makes, with the
// errors of version.
func wrongEdits() map[string]struct {
	e    api.Edit
	want api.Errno
} {
	type c = struct {
		e    api.Edit
		want api.Errno
	}
	with := func(level int, f api.File) api.Edit { return api.Edit{Next: 9, Adds: []api.Add{add(level, f)}} }
	key := func(n int) string { return string(make([]byte, n)) }
	return map[string]c{
		"nothing":                   {api.Edit{}, api.ErrArg},
		"a Next that is too low":    {api.Edit{Next: 1}, api.ErrArg},
		"a Next that is too great":  {api.Edit{Next: trillion + 1}, api.ErrArg},
		"the greatest Next":         {api.Edit{Next: greatest}, api.ErrArg},
		"a Seq that is too great":   {api.Edit{Next: 2, Seq: 1 << 56}, api.ErrArg},
		"a Log that is too great":   {api.Edit{Next: 2, Log: trillion}, api.ErrArg},
		"a drop of none":            {api.Edit{Next: 2, Drops: []api.Drop{drop(0, 2)}}, api.ErrNone},
		"a drop of another level":   {api.Edit{Next: 2, Drops: []api.Drop{drop(1, 1)}}, api.ErrNone},
		"a drop of a level below 0": {api.Edit{Next: 2, Drops: []api.Drop{drop(-1, 1)}}, api.ErrNone},
		"a drop twice":              {api.Edit{Next: 2, Drops: []api.Drop{drop(0, 1), drop(0, 1)}}, api.ErrNone},
		"a drop and a wrong add":    {api.Edit{Drops: []api.Drop{drop(0, 2)}, Adds: []api.Add{add(0, file(1, "a", "b"))}}, api.ErrNone},
		"an add of what is there":   {adds(2), api.ErrThere},
		"an add twice":              {api.Edit{Next: 9, Adds: []api.Add{add(0, file(2, "a", "b")), add(1, file(2, "a", "b"))}}, api.ErrThere},
		"an add on no level":        {with(5, file(2, "a", "b")), api.ErrArg},
		"an add on a level below 0": {with(-1, file(2, "a", "b")), api.ErrArg},
		"a file without a number":   {with(0, file(0, "a", "b")), api.ErrArg},
		"a file at Next":            {with(0, file(9, "a", "b")), api.ErrArg},
		"a file without keys":       {with(0, file(2, "", "")), api.ErrArg},
		"a file with keys turned":   {with(0, file(2, "b", "a")), api.ErrArg},
		"a file with a long key":    {with(0, file(2, "", key(4097))), api.ErrArg},
		"a file with a huge key":    {with(0, file(2, key(1<<20+1), key(1<<20+1))), api.ErrArg},
		"a file of a size below 0":  {with(0, api.File{Number: 2, Size: -1, Least: []byte("a"), Most: []byte("b"), Entries: 1}), api.ErrArg},
		"a file without entries":    {with(0, api.File{Number: 2, Least: []byte("a"), Most: []byte("b")}), api.ErrArg},
		"too many files":            {api.Edit{Next: trillion, Adds: rising(2, 10000, 4)}, api.ErrLong},
		"too many bytes":            {api.Edit{Next: trillion, Adds: rising(2, 200, 4096)}, api.ErrLong},
	}
}

// rising answers so many adds on level 1, from a number on, with keys of so many
// bytes.
func rising(from uint64, n, size int) []api.Add {
	l := make([]api.Add, n)
	for i := range l {
		least, most := make([]byte, size), make([]byte, size)
		binary.BigEndian.PutUint32(least, uint32(2*i))
		binary.BigEndian.PutUint32(most, uint32(2*i+1))
		l[i] = add(1, file(from+uint64(i), string(least), string(most)))
	}
	return l
}

// Errors of version are told, spoil nothing, and do nothing to the disk.
func TestAppendOfEditsThatCanNotBeApplied(t *testing.T) {
	m, f := begun(t, adds(2))
	v, row := made(t, adds(2)), rowOf(beginning(), adds(2))
	for what, c := range wrongEdits() {
		ops := f.Ops()
		refused(t, what, m.Append(c.e), c.want)
		took(t, what, f, ops, 0)
		tells(t, what, m, f, v, 1)
		holds(t, f, first, row)
		if _, e := version.Apply(v, c.e); e != c.want {
			t.Fatalf("%s: Apply: %d, want %d", what, e, c.want)
		}
	}
	fine(t, m.Roll())
	for what, c := range wrongEdits() {
		refused(t, what+", rolled", m.Append(c.e), c.want)
		tells(t, what+", rolled", m, f, v, 2)
	}
	fine(t, m.Append(adds(3)), m.Roll(), m.Append(adds(4)))
	opened(t, "anew", f, made(t, adds(2), adds(3), adds(4)), 3)
}

// The version of the most files, and of the most bytes, has room in one frame.
func TestGreatestVersions(t *testing.T) {
	var most api.Edit
	for n := 2; n < 40; n++ {
		e := api.Edit{Next: trillion, Adds: rising(1, 127, 4096)}
		e.Adds = append(e.Adds, rising(128, n, 4096)[n-1])
		e.Adds[127].Level = 2
		e.Adds[127].File.Least = e.Adds[127].File.Least[:100*n]
		e.Adds[127].File.Most = e.Adds[127].File.Most[:100*n]
		if _, err := version.Apply(version.First(), e); err == api.OK {
			most = e
		}
	}
	for _, e := range []api.Edit{{Next: 10001, Adds: rising(1, 10000, 4)}, most} {
		m, f := begun(t)
		v := made(t, e)
		fine(t, m.Append(e))
		tells(t, "appended", m, f, v, 1)
		opened(t, "anew", f, v, 1)
		fine(t, m.Roll())
		tells(t, "rolled", m, f, v, 2)
		opened(t, "rolled, anew", f, v, 2)
		holds(t, f, second, wholeRow(v))
	}
}

// swap answers a version with many small files, and an edit that drops them all
// and adds others: what comes may be, but the edit's bytes are so many.
func swap(t *testing.T, size int) (ahead, e api.Edit) {
	t.Helper()
	ahead = api.Edit{Next: 10001, Adds: rising(1, 10000, 4)}
	e = api.Edit{Next: trillion, Adds: rising(10001, 127, 4096)}
	for n := range 10000 {
		e.Drops = append(e.Drops, drop(1, uint64(n+1)))
	}
	excess := len(editBytes(e)) - size
	for i := 0; excess > 0; i++ {
		cut := min(2000, excess)
		e.Adds[i].File.Most = e.Adds[i].File.Most[:4096-cut]
		excess -= cut
	}
	if n := len(editBytes(e)); n != size {
		t.Fatalf("an edit of %d bytes has %d", size, n)
	}
	return ahead, e
}

// An edit that has no room in a frame can't be appended, though what would come
// may be; that spoils nothing.
func TestEditWithoutRoomInAFrame(t *testing.T) {
	ahead, e := swap(t, 1<<20)
	m, f := begun(t, ahead)
	fine(t, m.Append(e))
	tells(t, "appended", m, f, made(t, ahead, e), 1)
	opened(t, "anew", f, made(t, ahead, e), 1)

	_, e = swap(t, 1<<20+1)
	m, f = begun(t, ahead)
	v := made(t, ahead)
	if _, err := version.Apply(v, e); err != api.OK {
		t.Fatalf("Apply: %d", err)
	}
	ops := f.Ops()
	refused(t, "Append", m.Append(e), api.ErrLong)
	took(t, "Append", f, ops, 0)
	tells(t, "refused", m, f, v, 1)
	fine(t, m.Append(api.Edit{Next: 10001, Seq: 1}), m.Roll())
	tells(t, "rolled", m, f, made(t, ahead, api.Edit{Next: 10001, Seq: 1}), 2)
}
