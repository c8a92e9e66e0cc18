package table_test

import (
	"fmt"
	"slices"
	"strings"
	"testing"

	"bootprint/api"
	"bootprint/table"
	"bootprint/vfs"
)

// A table written by the chapter's words, without search or haste. It reads the
// disk in the chapter's order, so that it and a table of the package do the
// same to disks that fail.

// plain is such a table.
type plain struct {
	disk   *vfs.Fs
	sheet  *sheet
	size   int
	filter string
	reads  int
}

// openPlain is Open.
func openPlain(f *vfs.Fs, name string) (*plain, api.Errno) {
	size := f.Size(name)
	if size < 0 {
		return nil, api.ErrNone
	}
	p := &plain{disk: f, size: size}
	end, e := p.read(max(size-16, 0), 16)
	if e != api.OK {
		return nil, e
	}
	if size < 16 || size > 16777216 || end[8:] != "bootmark" {
		return nil, api.ErrBad
	}
	at := 0
	for i := range 8 {
		if at > 16777216 {
			return nil, api.ErrBad
		}
		at = at*256 + int(end[i])
	}
	if at > size-16 {
		return nil, api.ErrBad
	}
	s, e := p.read(at, size-16-at)
	if e != api.OK {
		return nil, e
	}
	body, ok := unframed(4, s)
	if !ok {
		return nil, api.ErrBad
	}
	if p.sheet, ok = plainIndex(body, at); !ok {
		return nil, api.ErrBad
	}
	from := 0
	for _, r := range p.sheet.rows {
		from += int(r.size)
	}
	if s, e = p.read(from, at-from); e != api.OK {
		return nil, e
	}
	if p.filter, ok = unframed(3, s); !ok {
		return nil, api.ErrBad
	}
	return p, api.OK
}

func (p *plain) read(at, n int) (string, api.Errno) {
	b, e := p.disk.Read("t", at, n)
	return string(b), e
}

// plainReader reads what stands next, as far as it can be read.
type plainReader struct {
	s   string
	bad bool
}

func (r *plainReader) number() uint64 {
	x := uint64(0)
	for i := 0; i < len(r.s) && i < 10; i++ {
		x += uint64(r.s[i]%128) << (7 * i)
		if r.s[i] < 128 {
			r.s = r.s[i+1:]
			return x
		}
	}
	r.bad = true
	return 0
}

func (r *plainReader) take(n uint64) string {
	if n > uint64(len(r.s)) {
		r.bad = true
		return ""
	}
	s := r.s[:n]
	r.s = r.s[n:]
	return s
}

// plainIndex reads whatever can be read, and holds the bytes of an index of
// that against body: no others are its.
func plainIndex(body string, at int) (*sheet, bool) {
	r := &plainReader{s: body}
	x := &sheet{count: r.number()}
	for i := uint64(0); i < x.count && !r.bad; i++ {
		x.rows = append(x.rows, row{r.number(), r.number(), r.take(r.number()), r.number()})
	}
	x.entries, x.least, x.most = r.number(), r.number(), r.number()
	x.first, x.last = r.take(r.number()), r.take(r.number())
	if r.bad || x.index() != body || x.count == 0 || x.entries >= 1<<63 {
		return nil, false
	}
	next := uint64(0)
	for i, w := range x.rows {
		if w.at != next || w.size > uint64(at)-next {
			return nil, false
		}
		next += w.size
		if i > 0 && !isAhead(api.Entry{Key: []byte(x.rows[i-1].key), Seq: x.rows[i-1].seq}, w.key, w.seq) {
			return nil, false
		}
	}
	return x, x.last == x.rows[len(x.rows)-1].key
}

// plainBlock reads whatever can be read, and holds the bytes of a block of that
// against s: no others are its.
func plainBlock(s string) ([]api.Entry, bool) {
	if len(s) < 4 || len(s) > 1<<18 {
		return nil, false
	}
	count := int(s[len(s)-4]) + int(s[len(s)-3])*256 + int(s[len(s)-2])*65536 + int(s[len(s)-1])*16777216
	r := &plainReader{s: s[:max(len(s)-4-4*count, 0)]}
	var l []api.Entry
	ahead := ""
	for r.s != "" {
		shared, more, seqAndKind, length := r.number(), r.number(), r.number(), r.number()
		if r.bad || shared > uint64(len(ahead)) {
			return nil, false
		}
		ahead = ahead[:shared] + r.take(more)
		e := api.Entry{Key: []byte(ahead), Seq: seqAndKind / 4, Kind: int(seqAndKind % 4), Value: []byte(r.take(length))}
		if r.bad || !plainEntry(e) || len(l) > 0 && !isAhead(l[len(l)-1], ahead, e.Seq) {
			return nil, false
		}
		l = append(l, e)
	}
	return l, len(l) > 0 && blockOf(l) == s
}

// plainEntry tells whether an entry may be.
func plainEntry(e api.Entry) bool {
	return (e.Kind == 1 && len(e.Value) <= 65536 || e.Kind == 2 && len(e.Value) == 0) &&
		len(e.Key) >= 1 && len(e.Key) <= 4096 && e.Seq >= 1 && e.Seq < 1<<56
}

func (p *plain) block(i int) ([]api.Entry, api.Errno) {
	p.reads++
	w := p.sheet.rows[i]
	s, e := p.read(int(w.at), int(w.size))
	if e != api.OK {
		return nil, e
	}
	body, ok := unframed(2, s)
	if !ok {
		return nil, api.ErrBad
	}
	l, ok := plainBlock(body)
	if !ok || string(l[len(l)-1].Key) != w.key || l[len(l)-1].Seq != w.seq {
		return nil, api.ErrBad
	}
	return l, api.OK
}

// get is Get.
func (p *plain) get(key string, seq uint64) (api.Entry, api.Errno) {
	if !filterHas(p.filter, key) {
		return api.Entry{}, api.ErrNone
	}
	for i, w := range p.sheet.rows {
		if isAhead(api.Entry{Key: []byte(w.key), Seq: w.seq}, key, seq) {
			continue
		}
		l, e := p.block(i)
		if e != api.OK {
			return api.Entry{}, e
		}
		l = slices.DeleteFunc(l, func(e api.Entry) bool { return isAhead(e, key, seq) })
		if string(l[0].Key) != key {
			return api.Entry{}, api.ErrNone
		}
		return l[0], api.OK
	}
	return api.Entry{}, api.ErrNone
}

// from is From.
func (p *plain) from(key string, n int) ([]api.Entry, api.Errno) {
	var l []api.Entry
	for i, w := range p.sheet.rows {
		if w.key < key || len(l) >= n {
			continue
		}
		block, e := p.block(i)
		if e != api.OK {
			return nil, e
		}
		for _, x := range block {
			if string(x.Key) >= key && len(l) < n {
				l = append(l, x)
			}
		}
	}
	return l, api.OK
}

func (p *plain) info() string {
	return toldInfo(api.TableInfo{
		Entries: int(p.sheet.entries), Blocks: len(p.sheet.rows), Size: p.size, Least: []byte(p.sheet.first), Most: []byte(p.sheet.last),
		LeastSeq: p.sheet.least, MostSeq: p.sheet.most,
	})
}

// caller is what both tables can be asked, and answers a text.
type caller interface {
	open(f *vfs.Fs) string
	get(key string, seq uint64) string
	from(key string, n int) string
	all() string
	tell() string
}

type realCaller struct{ x *table.Table }

func (c *realCaller) open(f *vfs.Fs) string {
	x, e := table.Open(f, "t")
	if (x == nil) != (e != api.OK) {
		return "a table with an error, or none without"
	}
	c.x = x
	return fmt.Sprint("Open: ", e)
}

func (c *realCaller) get(key string, seq uint64) string {
	x, e := c.x.Get([]byte(key), seq)
	return fmt.Sprint("Get: ", told(x), e)
}

func (c *realCaller) from(key string, n int) string {
	l, e := c.x.From([]byte(key), n)
	return fmt.Sprint("From: ", told(l...), e)
}

func (c *realCaller) all() string {
	l, e := c.x.All()
	return fmt.Sprint("All: ", told(l...), e)
}

func (c *realCaller) tell() string {
	return fmt.Sprint(toldInfo(c.x.Info()), c.x.Reads())
}

type plainCaller struct{ x *plain }

func (c *plainCaller) open(f *vfs.Fs) string {
	var e api.Errno
	c.x, e = openPlain(f, "t")
	return fmt.Sprint("Open: ", e)
}

func (c *plainCaller) get(key string, seq uint64) string {
	x, e := c.x.get(key, seq)
	return fmt.Sprint("Get: ", told(x), e)
}

func (c *plainCaller) from(key string, n int) string {
	l, e := c.x.from(key, n)
	return fmt.Sprint("From: ", told(l...), e)
}

func (c *plainCaller) all() string {
	l, e := c.x.from("", greatestInt)
	return fmt.Sprint("All: ", told(l...), e)
}

func (c *plainCaller) tell() string {
	return fmt.Sprint(c.x.info(), c.x.reads)
}

// agree fails unless a table of these bytes and a plain one answer the same to
// some calls, and do the same to their disks, which fail in the same way. It
// answers how many operations there were.
func agree(t *testing.T, what, s string, keys []string, fail func(f *vfs.Fs) api.Errno) int {
	t.Helper()
	f, g := stored(t, s), stored(t, s)
	fine(t, fail(f), fail(g))
	before := f.Ops()
	c, d := &realCaller{}, &plainCaller{}
	alike := func(call, got, want string) {
		t.Helper()
		if got != want {
			t.Fatalf("%s: %s: %s, want %s", what, call, shortly(got), shortly(want))
		}
		if f.Ops() != g.Ops() || f.On() != g.On() {
			t.Fatalf("%s: %s: %d operations, on %t; want %d, %t", what, call, f.Ops(), f.On(), g.Ops(), g.On())
		}
	}
	alike("Open", c.open(f), d.open(g))
	if d.x == nil {
		return f.Ops() - before
	}
	for i, key := range keys {
		for _, seq := range []uint64{0, 1, 3, uint64(i), api.MaxSeq, greatest} {
			alike(fmt.Sprintf("Get %q %d", key, seq), c.get(key, seq), d.get(key, seq))
		}
		n := []int{-1, 0, 1, 2, 3, 5, 8, 20, greatestInt}[i%9]
		alike(fmt.Sprintf("From %q %d", key, n), c.from(key, n), d.from(key, n))
		alike("Info, Reads", c.tell(), d.tell())
	}
	alike("All", c.all(), d.all())
	alike("Info, Reads", c.tell(), d.tell())
	return f.Ops() - before
}

// sound lets the disk be.
func sound(*vfs.Fs) api.Errno { return api.OK }

// The plain table is not wrong itself: it tells what was put into the bytes.
func TestPlainTable(t *testing.T) {
	l := rising(20)
	p, e := openPlain(stored(t, sheetOf(l, setup(64, 10)).file()), "t")
	fine(t, e)
	got, e := p.from("", greatestInt)
	if told(got...) != told(l...) || e != api.OK || p.reads != len(p.sheet.rows) || p.reads < 3 {
		t.Fatalf("All: %s, %d, %d blocks", told(got...), e, p.reads)
	}
	for _, x := range l {
		if got, e := p.get(string(x.Key), 9); told(got) != told(x) || e != api.OK {
			t.Errorf("Get %q: %s, %d", x.Key, told(got), e)
		}
	}
	if !strings.HasPrefix(p.info(), "20 entries") {
		t.Error(p.info())
	}
}
