package wal_test

import (
	"regexp"
	"slices"

	"bootprint/api"
	"bootprint/frame"
	"bootprint/vfs"
	"bootprint/wal"
)

// logger is what a log and a plain one have in common.
type logger interface {
	Append(b []byte) api.Errno
	Sync() api.Errno
	Begin(n uint64) api.Errno
	Drop(n uint64) api.Errno
	Number() uint64
	Segments() []uint64
}

// plain is a log by the chapter's words, with its operations written out one
// after the other.
type plain struct {
	f       *vfs.Fs
	numbers []uint64
	spoilt  api.Errno
}

// openPlain opens the log of f by the chapter's words.
func openPlain(f *vfs.Fs) (logger, []api.LogRecord, api.Errno) {
	p := &plain{f: f}
	var names []string
	for _, name := range f.Names() {
		if regexp.MustCompile(`^wal-[0-9]{12}$`).MatchString(name) {
			names = append(names, name)
		}
	}
	var records []api.LogRecord
	for i, name := range names {
		b, e := f.Read(name, 0, api.MaxDisk)
		if e != api.OK {
			return nil, nil, e
		}
		number, bodies, whole, e := readPlain(name, b)
		isLast := i == len(names)-1
		if e != api.OK || whole < len(b) && !isLast || whole == 0 && !isLast {
			return nil, nil, api.ErrBad
		}
		for _, body := range bodies {
			records = append(records, api.LogRecord{Segment: number, Body: body})
		}
		if whole > 0 {
			p.numbers = append(p.numbers, number)
		}
		if isLast {
			if e := p.mend(name, b, whole); e != api.OK {
				return nil, nil, e
			}
		}
	}
	return p, records, api.OK
}

// readPlain tells a segment's records, and how many of its bytes are whole.
func readPlain(name string, b []byte) (number uint64, bodies [][]byte, whole int, e api.Errno) {
	for _, c := range name[len("wal-"):] {
		number = number*10 + uint64(c-'0')
	}
	for whole < len(b) {
		f, n, e := frame.Read(b[whole:])
		if e == api.ErrMore {
			break
		}
		if e != api.OK {
			return 0, nil, 0, api.ErrBad
		}
		if whole == 0 {
			if f.Kind != 0 || string(f.Body) != short(number) {
				return 0, nil, 0, api.ErrBad
			}
		} else {
			if f.Kind != 1 {
				return 0, nil, 0, api.ErrBad
			}
			bodies = append(bodies, f.Body)
		}
		whole += n
	}
	return number, bodies, whole, api.OK
}

func (p *plain) mend(name string, b []byte, whole int) api.Errno {
	if whole == 0 {
		if e := p.f.Remove(name); e != api.OK {
			return e
		}
		return p.f.SyncDir()
	}
	if whole == len(b) {
		return p.f.Sync(name)
	}
	if slices.Contains(p.f.Names(), "wal.tmp") {
		if e := p.f.Remove("wal.tmp"); e != api.OK {
			return e
		}
	}
	if e := p.f.Create("wal.tmp"); e != api.OK {
		return e
	}
	if e := p.f.Append("wal.tmp", b[:whole]); e != api.OK {
		return e
	}
	if e := p.f.Sync("wal.tmp"); e != api.OK {
		return e
	}
	if e := p.f.Rename("wal.tmp", name); e != api.OK {
		return e
	}
	return p.f.SyncDir()
}

func (p *plain) Append(b []byte) api.Errno {
	if len(b) > api.MaxFrame {
		return api.ErrLong
	}
	if len(p.numbers) == 0 {
		return api.ErrNone
	}
	if p.spoilt == api.OK {
		p.spoilt = p.f.Append(wal.Name(p.Number()), []byte(framed(1, string(b))))
	}
	return p.spoilt
}

func (p *plain) Sync() api.Errno {
	if len(p.numbers) == 0 {
		return api.ErrNone
	}
	if p.spoilt == api.OK {
		p.spoilt = p.f.Sync(wal.Name(p.Number()))
	}
	return p.spoilt
}

func (p *plain) Begin(n uint64) api.Errno {
	if n <= p.Number() || n >= 1e12 {
		return api.ErrArg
	}
	name := wal.Name(n)
	if slices.Contains(p.f.Names(), name) {
		if e := p.f.Remove(name); e != api.OK {
			return e
		}
	}
	if e := p.f.Create(name); e != api.OK {
		return e
	}
	if e := p.f.Append(name, []byte(segmentOf(n))); e != api.OK {
		return e
	}
	if e := p.f.Sync(name); e != api.OK {
		return e
	}
	if e := p.f.SyncDir(); e != api.OK {
		return e
	}
	p.numbers = append(p.numbers, n)
	p.spoilt = api.OK
	return api.OK
}

func (p *plain) Drop(n uint64) api.Errno {
	count := 0
	for _, number := range slices.Clone(p.numbers) {
		if number >= n || number == p.Number() {
			continue
		}
		if e := p.f.Remove(wal.Name(number)); e != api.OK {
			return e
		}
		p.numbers = p.numbers[1:]
		count++
	}
	if count == 0 {
		return api.OK
	}
	return p.f.SyncDir()
}

func (p *plain) Number() uint64 {
	if len(p.numbers) == 0 {
		return 0
	}
	return p.numbers[len(p.numbers)-1]
}

func (p *plain) Segments() []uint64 {
	return slices.Clone(p.numbers)
}
