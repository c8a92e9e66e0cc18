package lsm

import (
	"iter"
	"slices"

	"bootprint/api"
	"bootprint/manifest"
	"bootprint/table"
	"bootprint/vfs"
	"bootprint/wal"
)

// onDisk is what an engine has on disk.
type onDisk struct {
	disk     *vfs.Fs
	manifest *manifest.Manifest
	log      *wal.Log
	version  api.Version             // the manifest's, which would copy it for each look
	opened   map[uint64]*table.Table // of the version's files, by their Numbers
}

// newFile is a table's file that no version knows yet.
type newFile struct {
	file  api.File
	table *table.Table
}

// record puts a batch's bytes into the log, where they stay behind a crash.
func (d *onDisk) record(body []byte) api.Errno {
	if err := d.log.Append(body); err != api.OK {
		return err
	}
	return d.log.Sync()
}

// files yields the version's files in the order in which they are looked at:
// what is newer of a key comes first.
func (d *onDisk) files() iter.Seq[api.File] {
	return func(yield func(api.File) bool) {
		for _, f := range slices.Backward(d.version.Levels[0]) {
			if !yield(f) {
				return
			}
		}
		for _, level := range d.version.Levels[1:] {
			for _, f := range level {
				if !yield(f) {
					return
				}
			}
		}
	}
}

// rowsOf answers all entries of each file.
func (d *onDisk) rowsOf(files []api.File) ([][]api.Entry, api.Errno) {
	var rows [][]api.Entry
	for _, f := range files {
		row, err := d.opened[f.Number].All()
		if err != api.OK {
			return nil, err
		}
		rows = append(rows, row)
	}
	return rows, api.OK
}

// makeFiles makes a file of each row. All of them, and their names, are synced
// ahead of what makes them known.
func (d *onDisk) makeFiles(rows [][]api.Entry, s api.TableSetup) ([]newFile, api.Errno) {
	for i, row := range rows {
		if err := d.writeTable(d.number(i), row, s); err != api.OK {
			return nil, err
		}
	}
	if len(rows) > 0 {
		if err := d.disk.SyncDir(); err != api.OK {
			return nil, err
		}
	}
	var files []newFile
	for i := range rows {
		t, err := d.openTable(d.number(i))
		if err != api.OK {
			return nil, err
		}
		files = append(files, newFile{file: fileOf(d.number(i), t.Info()), table: t})
	}
	return files, api.OK
}

// number answers the Number of the file that is made behind i others.
func (d *onDisk) number(i int) uint64 {
	return d.version.Next + uint64(i)
}

// writeTable makes a file of a row.
func (d *onDisk) writeTable(number uint64, row []api.Entry, s api.TableSetup) api.Errno {
	b, err := table.Make(row, s)
	if err != api.OK {
		return err
	}
	name := tableName(number)
	return inTurn(
		func() api.Errno { return d.disk.Create(name) },
		func() api.Errno { return d.disk.Append(name, b) },
		func() api.Errno { return d.disk.Sync(name) },
	)
}

// openTable opens the table of a file that must be there.
func (d *onDisk) openTable(number uint64) (*table.Table, api.Errno) {
	t, err := table.Open(d.disk, tableName(number))
	if err == api.ErrNone {
		return nil, api.ErrBad
	}
	return t, err
}

// fileOf answers how a version tells of the table's file.
func fileOf(number uint64, info api.TableInfo) api.File {
	return api.File{
		Number:  number,
		Size:    info.Size,
		Least:   info.Least,
		Most:    info.Most,
		Entries: info.Entries,
		MostSeq: info.MostSeq,
	}
}

// adding answers the edit that adds files to a level.
func (d *onDisk) adding(level int, files []newFile) api.Edit {
	e := api.Edit{Next: d.number(len(files)), Seq: d.version.Seq, Log: d.version.Log}
	for _, m := range files {
		e.Adds = append(e.Adds, api.Add{Level: level, File: m.file})
	}
	return e
}

// change changes the version by an edit, whose Adds are these files. From then
// on it is they that are looked at.
func (d *onDisk) change(e api.Edit, files []newFile) api.Errno {
	if err := d.manifest.Append(e); err != api.OK {
		return err
	}
	d.version = d.manifest.Version()
	for _, drop := range e.Drops {
		delete(d.opened, drop.Number)
	}
	for _, m := range files {
		d.opened[m.file.Number] = m.table
	}
	return api.OK
}

// remove removes files, in this order.
func (d *onDisk) remove(names []string) api.Errno {
	for _, name := range names {
		if err := d.disk.Remove(name); err != api.OK {
			return err
		}
	}
	if len(names) == 0 {
		return api.OK
	}
	return d.disk.SyncDir()
}

// inTurn does one step after the other, till one has an error.
func inTurn(steps ...func() api.Errno) api.Errno {
	for _, step := range steps {
		if err := step(); err != api.OK {
			return err
		}
	}
	return api.OK
}
