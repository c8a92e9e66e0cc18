package version_test

import (
	"math/big"
	"slices"
	"sort"

	"bootprint/api"
)

// By the chapter's words, without regard to how long it takes.

// plainFile tells whether a file may be.
func plainFile(f api.File) bool {
	isKey := func(k []byte) bool { return 1 <= len(k) && len(k) <= 4096 }
	return 1 <= f.Number &&
		0 <= f.Size && f.Size <= 1<<24 &&
		isKey(f.Least) && isKey(f.Most) && string(f.Least) <= string(f.Most) &&
		1 <= f.Entries && f.Entries <= 1<<24 &&
		f.MostSeq <= 1<<56-1
}

func plainCheck(v api.Version) api.Errno {
	if len(v.Levels) != 5 || v.Next < 1 || v.Next > trillion || v.Seq > 1<<56-1 || v.Log >= trillion {
		return api.ErrArg
	}
	var all []api.File
	for level, l := range v.Levels {
		for i, f := range l {
			if !plainFile(f) || f.Number >= v.Next {
				return api.ErrArg
			}
			for _, g := range all {
				if g.Number == f.Number {
					return api.ErrArg
				}
			}
			all = append(all, f)
			for _, behind := range l[i+1:] {
				if level == 0 && f.Number >= behind.Number || level > 0 && string(f.Most) >= string(behind.Least) {
					return api.ErrArg
				}
			}
		}
	}
	if len(all) > 10000 || len(plainWhole(v)) > 1<<20 {
		return api.ErrLong
	}
	return api.OK
}

// plainApply goes over all files for each drop and each add, and puts each add
// ahead of the first file that is behind it.
func plainApply(v api.Version, e api.Edit) (api.Version, api.Errno) {
	if err := plainCheck(v); err != api.OK {
		return api.Version{}, err
	}
	w := api.Version{Levels: make([][]api.File, 5), Next: e.Next, Seq: e.Seq, Log: e.Log}
	for i, l := range v.Levels {
		w.Levels[i] = slices.Clone(l)
	}
	for _, d := range e.Drops {
		if d.Level < 0 || d.Level >= 5 {
			return api.Version{}, api.ErrNone
		}
		l := w.Levels[d.Level]
		i := slices.IndexFunc(l, func(f api.File) bool { return f.Number == d.Number })
		if i < 0 {
			return api.Version{}, api.ErrNone
		}
		w.Levels[d.Level] = slices.Delete(l, i, i+1)
	}
	var there []uint64
	for _, l := range w.Levels {
		for _, f := range l {
			there = append(there, f.Number)
		}
	}
	for _, a := range e.Adds {
		if slices.Contains(there, a.File.Number) {
			return api.Version{}, api.ErrThere
		}
		there = append(there, a.File.Number)
	}
	for _, a := range e.Adds {
		if a.Level < 0 || a.Level >= 5 {
			return api.Version{}, api.ErrArg
		}
		l := w.Levels[a.Level]
		i := sort.Search(len(l), func(i int) bool {
			if a.Level == 0 {
				return l[i].Number > a.File.Number
			}
			return string(l[i].Least) > string(a.File.Least)
		})
		w.Levels[a.Level] = slices.Insert(l, i, a.File)
	}
	if err := plainCheck(w); err != api.OK {
		return api.Version{}, err
	}
	return w, api.OK
}

// plainWhole answers the bytes of the edit that makes v of the first version.
func plainWhole(v api.Version) []byte {
	e := api.Edit{Next: v.Next, Seq: v.Seq, Log: v.Log}
	for level, l := range v.Levels {
		for _, f := range l {
			e.Adds = append(e.Adds, add(level, f))
		}
	}
	return encode(parts(e)...)
}

func plainOverlap(v api.Version, level int, least, most string) []api.File {
	var l []api.File
	if plainCheck(v) != api.OK || level < 0 || level > 4 {
		return l
	}
	for _, f := range v.Levels[level] {
		below := string(f.Most) < least
		above := most != "" && string(f.Least) > most
		if !below && !above {
			l = append(l, f)
		}
	}
	return l
}

func plainDeepest(v api.Version, level int, least, most string) bool {
	if level < 0 {
		return true
	}
	for deeper := range 5 {
		if deeper > level && len(plainOverlap(v, deeper, least, most)) > 0 {
			return false
		}
	}
	return true
}

// The bytes

// part is a number of an edit's bytes, or a piece; in its place bytes may stand
// that are told.
type part struct {
	number  uint64
	isCount bool
	piece   []byte
	isPiece bool
	raw     []byte
}

// parts answers the parts of which e's bytes are.
func parts(e api.Edit) []part {
	number := func(x uint64) part { return part{number: x} }
	count := func(n int) part { return part{number: uint64(n), isCount: true} }
	piece := func(p []byte) part { return part{piece: p, isPiece: true} }
	l := []part{number(e.Next), number(e.Seq), number(e.Log), count(len(e.Drops))}
	for _, d := range e.Drops {
		l = append(l, number(uint64(d.Level)), number(d.Number))
	}
	l = append(l, count(len(e.Adds)))
	for _, a := range e.Adds {
		f := a.File
		l = append(l, number(uint64(a.Level)), number(f.Number), number(uint64(f.Size)), number(uint64(f.Entries)), number(f.MostSeq), piece(f.Least), piece(f.Most))
	}
	return l
}

// short answers a short number, reckoned in numbers without bounds.
func short(x uint64) []byte {
	var b []byte
	rest, base := new(big.Int).SetUint64(x), big.NewInt(128)
	for {
		digit := new(big.Int)
		rest.DivMod(rest, base, digit)
		b = append(b, byte(digit.Int64()))
		if rest.Sign() == 0 {
			return b
		}
		b[len(b)-1] += 128
	}
}

func encode(l ...part) []byte {
	var b []byte
	for _, p := range l {
		switch {
		case p.raw != nil:
			b = append(b, p.raw...)
		case p.isPiece:
			b = append(append(b, short(uint64(len(p.piece)))...), p.piece...)
		default:
			b = append(b, short(p.number)...)
		}
	}
	return b
}

// plainReader goes over bytes till the first fault.
type plainReader struct {
	b     []byte
	fault api.Errno
}

func (r *plainReader) short() uint64 {
	x := new(big.Int)
	for i := 0; r.fault == api.OK; i++ {
		switch {
		case i == 10:
			r.fault = api.ErrBad
		case i == len(r.b):
			r.fault = api.ErrMore
		case i > 0 && r.b[i] == 0:
			r.fault = api.ErrBad
		default:
			digit := big.NewInt(int64(r.b[i] & 127))
			x.Or(x, digit.Lsh(digit, uint(7*i)))
			if x.BitLen() > 64 {
				r.fault = api.ErrBad
			} else if r.b[i] < 128 {
				r.b = r.b[i+1:]
				return x.Uint64()
			}
		}
	}
	return 0
}

func (r *plainReader) number() uint64 {
	x := r.short()
	if r.fault == api.OK && x > 1<<62 {
		r.fault = api.ErrBad
	}
	return x
}

func (r *plainReader) count() int {
	x := r.number()
	if r.fault == api.OK && x > 10000 {
		r.fault = api.ErrLong
	}
	if r.fault != api.OK {
		return 0
	}
	return int(x)
}

func (r *plainReader) piece() []byte {
	n := r.short()
	switch {
	case r.fault != api.OK:
	case n > 1<<20:
		r.fault = api.ErrLong
	case int(n) > len(r.b):
		r.fault = api.ErrMore
	default:
		p := r.b[:n]
		r.b = r.b[n:]
		return p
	}
	return nil
}

func plainParse(p []byte) (api.Edit, api.Errno) {
	r := &plainReader{b: p}
	var e api.Edit
	e.Next = r.number()
	e.Seq = r.number()
	e.Log = r.number()
	for n := r.count(); n > 0 && r.fault == api.OK; n-- {
		level := r.number()
		e.Drops = append(e.Drops, drop(int(level), r.number()))
	}
	for n := r.count(); n > 0 && r.fault == api.OK; n-- {
		var a api.Add
		a.Level = int(r.number())
		a.File.Number = r.number()
		a.File.Size = int(r.number())
		a.File.Entries = int(r.number())
		a.File.MostSeq = r.number()
		a.File.Least = r.piece()
		a.File.Most = r.piece()
		e.Adds = append(e.Adds, a)
	}
	if r.fault == api.OK && len(r.b) > 0 {
		r.fault = api.ErrBad
	}
	if r.fault != api.OK {
		return api.Edit{}, r.fault
	}
	return e, api.OK
}
