package lsm

import (
	"slices"

	"bootprint/api"
	"bootprint/compact"
	"bootprint/pick"
)

// step is a step of work.
type step struct {
	what int
	due  func() bool
	do   func() api.Errno
}

// steps answers the steps of work in the order in which they are tried.
func (e *Engine) steps() []step {
	return []step{
		{api.WorkFreeze, e.mustFreeze, e.freezeOpen},
		{api.WorkFlush, e.mustFlush, e.flushFrozen},
		{api.WorkCompact, e.mustCompact, e.compactNext},
	}
}

// Work does the first step that is due, and answers which one it was.
func (e *Engine) Work() (what int, err api.Errno) {
	if err := e.fault(); err != api.OK {
		return api.WorkNone, err
	}
	for _, s := range e.steps() {
		if !s.due() {
			continue
		}
		if err := s.do(); err != api.OK {
			return api.WorkNone, e.stop(err)
		}
		return s.what, api.OK
	}
	return api.WorkNone, api.OK
}

// Idle answers whether there is nothing that Work would do.
func (e *Engine) Idle() bool {
	return e.fault() != api.OK || !slices.ContainsFunc(e.steps(), func(s step) bool { return s.due() })
}

func (e *Engine) mustFreeze() bool {
	return e.frozen == nil && e.open.Size() >= e.setup.Buffer
}

func (e *Engine) mustFlush() bool {
	return e.frozen != nil
}

func (e *Engine) mustCompact() bool {
	return !pick.Rest(e.version, e.setup.Pick)
}

// freezeOpen freezes the table in memory. What is written from then on stands
// in another segment, so that the segments ahead can go when it is flushed.
func (e *Engine) freezeOpen() api.Errno {
	if err := e.log.Begin(e.log.Number() + 1); err != api.OK {
		return err
	}
	e.freeze()
	return api.OK
}

// flushFrozen makes files of the frozen table, of which the log is rid then.
func (e *Engine) flushFrozen() api.Errno {
	row := e.frozen.All()
	files, err := e.putTogether([][]api.Entry{row}, false)
	if err != api.OK {
		return err
	}
	edit := e.adding(0, files)
	edit.Seq, edit.Log = greatestSeq(row), e.log.Number()
	if err := e.change(edit, files); err != api.OK {
		return asBad(err)
	}
	if err := e.log.Drop(edit.Log); err != api.OK {
		return err
	}
	e.frozen = nil
	return api.OK
}

func greatestSeq(row []api.Entry) uint64 {
	var seq uint64
	for _, x := range row {
		seq = max(seq, x.Seq)
	}
	return seq
}

// compactNext puts the files together that are next, one level down.
func (e *Engine) compactNext() api.Errno {
	job, err := pick.Next(e.version, e.setup.Pick)
	if err != api.OK {
		return err
	}
	rows, err := e.rowsOf(newestFirst(job))
	if err != api.OK {
		return err
	}
	files, err := e.putTogether(rows, job.Bottom)
	if err != api.OK {
		return err
	}
	edit := e.adding(job.Level+1, files)
	edit.Drops = dropsOf(job)
	if err := e.change(edit, files); err != api.OK {
		return asBad(err)
	}
	return e.remove(namesOf(edit.Drops))
}

// newestFirst answers the job's files in the order of what is newer of a key.
func newestFirst(job api.Job) []api.File {
	l := slices.Clone(job.Upper)
	slices.Reverse(l)
	return append(l, job.Lower...)
}

// dropsOf answers that the job's files go.
func dropsOf(job api.Job) []api.Drop {
	var l []api.Drop
	for _, f := range job.Upper {
		l = append(l, api.Drop{Level: job.Level, Number: f.Number})
	}
	for _, f := range job.Lower {
		l = append(l, api.Drop{Level: job.Level + 1, Number: f.Number})
	}
	return l
}

func namesOf(drops []api.Drop) []string {
	var l []string
	for _, d := range drops {
		l = append(l, tableName(d.Number))
	}
	return l
}

// putTogether makes files of what rows have that somebody may still look at.
func (e *Engine) putTogether(rows [][]api.Entry, bottom bool) ([]newFile, api.Errno) {
	cut, err := compact.Run(rows, e.Snapshots(), bottom, e.setup.Target)
	if err != api.OK {
		return nil, asBad(err)
	}
	files, err := e.makeFiles(cut, e.setup.Table)
	return files, asBad(err)
}

// asBad answers ErrBad for the errors that the disk has not: those of entries
// and files that can't be put together so.
func asBad(err api.Errno) api.Errno {
	switch err {
	case api.ErrArg, api.ErrLong:
		return api.ErrBad
	}
	return err
}
