package lsm

import (
	"bootprint/api"
	"bootprint/manifest"
	"bootprint/skip"
	"bootprint/table"
	"bootprint/vfs"
	"bootprint/wal"
)

// mostManifest is how many bytes a manifest's file may have when it is opened,
// and stay.
const mostManifest = 1 << 16

// The names under which the manifest and the log write what takes another name
// then. What has them still was left by a crash.
const (
	manifestDraft = "current.tmp"
	logDraft      = "wal.tmp"
)

// Open opens the engine of a file system, or makes the first one.
func Open(f *vfs.Fs, s api.Setup) (*Engine, api.Errno) {
	if isNone(f) {
		return nil, api.ErrNil
	}
	if err := CheckSetup(s); err != api.OK {
		return nil, err
	}
	e := &Engine{
		setup:    s,
		onDisk:   onDisk{disk: f, opened: map[uint64]*table.Table{}},
		inMemory: inMemory{open: skip.New(), noted: map[uint64]int{}},
	}
	err := inTurn(e.openManifest, e.openLog, e.beginSegment, e.removeOthers, e.openTables)
	if err != api.OK {
		return nil, err
	}
	e.self = e
	return e, api.OK
}

// isNone answers whether f is no file system. No file has a name without
// bytes, so nothing is done to one that is.
func isNone(f *vfs.Fs) bool {
	return f.Sync("") == api.ErrNil
}

// openManifest opens the manifest, and sees to it that its file does not grow
// from one time to the next.
func (d *onDisk) openManifest() api.Errno {
	m, err := manifest.Open(d.disk)
	if err != api.OK {
		return err
	}
	if m.Size() > mostManifest {
		if err := m.Roll(); err != api.OK {
			return err
		}
	}
	d.manifest, d.version = m, m.Version()
	return api.OK
}

// openLog opens the log, and takes what only it has.
func (e *Engine) openLog() api.Errno {
	l, records, err := wal.Open(e.disk)
	if err != api.OK {
		return err
	}
	e.log = l
	return e.replay(records, e.version)
}

// beginSegment begins the segment that takes what is written now.
func (d *onDisk) beginSegment() api.Errno {
	return d.log.Begin(max(d.log.Number()+1, d.version.Log))
}

// removeOthers removes the files that steps of work have left which had no end.
func (d *onDisk) removeOthers() api.Errno {
	there := map[uint64]int{} // how many times the version has each Number
	for f := range d.files() {
		there[f.Number]++
	}
	var others []string
	for _, name := range d.disk.Names() { // they rise
		file, isTable := parseTableName(name)
		number, isManifest := manifest.ParseName(name)
		switch {
		case isTable && there[file] == 0,
			isManifest && number != d.manifest.Number(),
			name == manifestDraft, name == logDraft:
			others = append(others, name)
		}
	}
	return d.remove(others)
}

// openTables opens the table of each file that the version has.
func (d *onDisk) openTables() api.Errno {
	for _, files := range d.version.Levels {
		for _, f := range files {
			t, err := d.openTable(f.Number)
			if err != api.OK {
				return err
			}
			d.opened[f.Number] = t
		}
	}
	return api.OK
}
