package table_test

import (
	"bytes"
	"encoding/binary"
	"fmt"
	"hash/crc32"
	"hash/fnv"
	"math/bits"
	"slices"
	"strings"
	"testing"

	"bootprint/api"
	"bootprint/table"
	"bootprint/vfs"
)

const (
	greatest    = 1<<64 - 1
	greatestInt = 1<<63 - 1
)

func put(key string, seq uint64, value string) api.Entry {
	return api.Entry{Key: []byte(key), Seq: seq, Kind: api.WritePut, Value: []byte(value)}
}

func del(key string, seq uint64) api.Entry {
	return api.Entry{Key: []byte(key), Seq: seq, Kind: api.WriteDelete}
}

// rising answers n entries, in order, each with a key of its own, of seven
// bytes.
func rising(n int) []api.Entry {
	var l []api.Entry
	for i := range n {
		l = append(l, put(fmt.Sprintf("key%04d", i), uint64(i%7+1), strings.Repeat("v", i%5)))
	}
	return l
}

// ofOneKey answers n entries of one key, the newest first.
func ofOneKey(key string, n int) []api.Entry {
	var l []api.Entry
	for i := range n {
		l = append(l, put(key, uint64(n-i), fmt.Sprint("value ", n-i)))
	}
	return l
}

func setup(block, bits int) api.TableSetup {
	return api.TableSetup{Block: block, Bits: bits}
}

// The bytes, as the chapters say them

// short tells a short number.
func short(n uint64) string {
	var b []byte
	for ; n >= 128; n /= 128 {
		b = append(b, byte(n%128+128))
	}
	return string(append(b, byte(n)))
}

// pieceOf tells a piece.
func pieceOf(s string) string {
	return short(uint64(len(s))) + s
}

// inOrder tells a number in order.
func inOrder(n uint64) string {
	return string(binary.BigEndian.AppendUint64(nil, n))
}

// maskedSum tells the masked sum of s as four bytes, by the library's sum.
func maskedSum(s string) string {
	m := bits.RotateLeft32(crc32.Checksum([]byte(s), crc32.MakeTable(crc32.Castagnoli)), 17) + 0xA282EAD8
	return string([]byte{byte(m), byte(m >> 8), byte(m >> 16), byte(m >> 24)})
}

// headFor tells a frame's head with its sum, of whatever length it says.
func headFor(kind byte, length int) string {
	s := string([]byte{kind, byte(length), byte(length >> 8), byte(length >> 16)})
	return s + maskedSum(s)
}

// framed tells a frame.
func framed(kind byte, body string) string {
	return headFor(kind, len(body)) + body + maskedSum(body)
}

// unframed tells the body of the frame of a kind whose bytes s is, all of them.
func unframed(kind byte, s string) (body string, ok bool) {
	if len(s) < 12 || len(s) > 12+1<<20 {
		return "", false
	}
	body = s[8 : len(s)-4]
	return body, s == framed(kind, body)
}

// four tells a number in four bytes, the lowest first.
func four(n int) string {
	return string(binary.LittleEndian.AppendUint32(nil, uint32(n)))
}

// alike tells how many bytes two keys have in common.
func alike(a, b []byte) int {
	for n := min(len(a), len(b)); n > 0; n-- {
		if string(a[:n]) == string(b[:n]) {
			return n
		}
	}
	return 0
}

// blockOf tells a block.
func blockOf(l []api.Entry) string {
	var s strings.Builder
	tail := ""
	for i, e := range l {
		n := 0
		if i%16 == 0 {
			tail += four(s.Len())
		} else {
			n = alike(l[i-1].Key, e.Key)
		}
		s.WriteString(short(uint64(n)) + short(uint64(len(e.Key)-n)) + short(e.Seq*4+uint64(e.Kind)) + short(uint64(len(e.Value))))
		s.Write(e.Key[n:])
		s.Write(e.Value)
	}
	return s.String() + tail + four(len(tail)/4)
}

// probes tells the probes of a key for n bits and k.
func probes(key string, n, k int) []int {
	hash := fnv.New64a()
	hash.Write([]byte(key))
	x := hash.Sum64()
	x = (x ^ x>>33) * 0xFF51AFD7ED558CCD
	x = (x ^ x>>33) * 0xC4CEB9FE1A85EC53
	x ^= x >> 33
	low, high := x%(1<<32), x/(1<<32)|1
	var l []int
	for i := range uint64(k) {
		l = append(l, int((low+i*high)%(1<<32)%uint64(n)))
	}
	return l
}

// filterOf tells the filter of keys with so many bits for each.
func filterOf(keys []string, each int) string {
	n := max(len(keys)*each, 64)
	for n%8 != 0 {
		n++
	}
	k := min(max(each*69/100, 1), 30)
	f := make([]byte, n/8+1)
	for _, key := range keys {
		for _, at := range probes(key, n, k) {
			f[at/8] |= 1 << (at % 8)
		}
	}
	f[n/8] = byte(k)
	return string(f)
}

// filterHas tells whether a filter has a key.
func filterHas(f, key string) bool {
	if len(f) < 2 || len(f) > 1<<20+1 || f[len(f)-1] < 1 || f[len(f)-1] > 30 {
		return true
	}
	for _, at := range probes(key, 8*(len(f)-1), int(f[len(f)-1])) {
		if f[at/8]>>(at%8)%2 == 0 {
			return false
		}
	}
	return true
}

// row is what an index tells of a block.
type row struct {
	at, size uint64
	key      string
	seq      uint64
}

// sheet is what stands in a table's file, part by part, so that a test may
// change any of it ahead of putting it together.
type sheet struct {
	blocks      []string // as frames
	filter      string   // as a frame
	count       uint64
	rows        []row
	entries     uint64
	least, most uint64
	first, last string
	more        string // behind the index's last piece
	kind        byte   // of the index's frame
	between     string // the filter's frame and the index's
	behind      string // the index's frame, ahead of the end
	moved       uint64 // what is added to the index's place
	mark        string
	perBlock    []int // how many entries each block has
}

// sheetOf tells the table of l as the chapter says it.
func sheetOf(l []api.Entry, s api.TableSetup) *sheet {
	x := &sheet{kind: 4, mark: "bootmark", entries: uint64(len(l)), least: greatest}
	var keys []string
	for rest := l; len(rest) > 0; {
		n := 1
		for n < len(rest) && len(blockOf(rest[:n])) < s.Block {
			n++
		}
		x.add(rest[:n])
		rest = rest[n:]
	}
	for _, e := range l {
		keys = append(keys, string(e.Key))
		x.least, x.most = min(x.least, e.Seq), max(x.most, e.Seq)
	}
	x.first, x.last = keys[0], keys[len(keys)-1]
	x.filter = framed(3, filterOf(slices.Compact(keys), s.Bits))
	return x
}

// add puts a block of these entries behind the others.
func (x *sheet) add(l []api.Entry) {
	at := uint64(len(strings.Join(x.blocks, "")))
	f := framed(2, blockOf(l))
	x.blocks = append(x.blocks, f)
	x.count++
	x.perBlock = append(x.perBlock, len(l))
	e := l[len(l)-1]
	x.rows = append(x.rows, row{at, uint64(len(f)), string(e.Key), e.Seq})
	x.last = string(e.Key)
}

// index tells the index's Body.
func (x *sheet) index() string {
	var s strings.Builder
	s.WriteString(short(x.count))
	for _, r := range x.rows {
		s.WriteString(short(r.at) + short(r.size) + pieceOf(r.key) + short(r.seq))
	}
	s.WriteString(short(x.entries) + short(x.least) + short(x.most) + pieceOf(x.first) + pieceOf(x.last) + x.more)
	return s.String()
}

// file tells all bytes.
func (x *sheet) file() string {
	return x.with(x.index())
}

// with tells all bytes with another index's Body.
func (x *sheet) with(index string) string {
	ahead := strings.Join(x.blocks, "") + x.filter + x.between
	return ahead + framed(x.kind, index) + x.behind + inOrder(uint64(len(ahead))+x.moved) + x.mark
}

// isAhead tells the order of entries.
func isAhead(a api.Entry, key string, seq uint64) bool {
	if string(a.Key) != key {
		return string(a.Key) < key
	}
	return a.Seq > seq
}

// told writes entries as a text, so that they are compared whole.
func told(l ...api.Entry) string {
	var s strings.Builder
	for _, e := range l {
		fmt.Fprintf(&s, "%q at %d: %d %q; ", e.Key, e.Seq, e.Kind, e.Value)
	}
	return s.String()
}

// same tells whether two lists have the same entries.
func same(a, b []api.Entry) bool {
	return slices.EqualFunc(a, b, func(x, y api.Entry) bool {
		return bytes.Equal(x.Key, y.Key) && x.Seq == y.Seq && x.Kind == y.Kind && bytes.Equal(x.Value, y.Value)
	})
}

// toldInfo writes an info as a text.
func toldInfo(i api.TableInfo) string {
	return fmt.Sprintf("%d entries, %d blocks, %d bytes, %q to %q, %d to %d", i.Entries, i.Blocks, i.Size, i.Least, i.Most, i.LeastSeq, i.MostSeq)
}

// info tells what the sheet's table is to tell of itself.
func (x *sheet) info() string {
	return toldInfo(api.TableInfo{
		Entries: int(x.entries), Blocks: len(x.rows), Size: len(x.file()), Least: []byte(x.first), Most: []byte(x.last), LeastSeq: x.least, MostSeq: x.most,
	})
}

// shortly tells what a text begins with.
func shortly(s string) string {
	if len(s) > 80 {
		return fmt.Sprintf("%.80q.. (%d bytes)", s, len(s))
	}
	return fmt.Sprintf("%q", s)
}

// Files

// fine fails unless every error is OK.
func fine(t *testing.T, errors ...api.Errno) {
	t.Helper()
	for i, e := range errors {
		if e != api.OK {
			t.Fatalf("call %d: %d, want OK", i, e)
		}
	}
}

// stored answers a file system with a file t of these bytes.
func stored(t *testing.T, s string) *vfs.Fs {
	t.Helper()
	f, e := vfs.New(1 << 26)
	fine(t, e, f.Create("t"), f.Append("t", []byte(s)), f.Sync("t"), f.SyncDir())
	return f
}

// opened opens the table of a file of these bytes.
func opened(t *testing.T, s string) (*table.Table, *vfs.Fs) {
	t.Helper()
	f := stored(t, s)
	x, e := table.Open(f, "t")
	if x == nil || e != api.OK {
		t.Fatalf("Open of %s: %v, %d", shortly(s), x, e)
	}
	return x, f
}

// notOpened fails unless Open of these bytes answers that error, and nothing
// else.
func notOpened(t *testing.T, what, s string, want api.Errno) {
	t.Helper()
	if x, e := table.Open(stored(t, s), "t"); x != nil || e != want {
		t.Errorf("%s: Open: %v, %d; want none, %d", what, x, e, want)
	}
}

// made makes a table's bytes.
func made(t *testing.T, l []api.Entry, s api.TableSetup) string {
	t.Helper()
	b, e := table.Make(l, s)
	if e != api.OK {
		t.Fatalf("Make of %d entries, %v: %d", len(l), s, e)
	}
	return string(b)
}

// notMade fails unless Make and Info answer that error, and nothing else.
func notMade(t *testing.T, what string, l []api.Entry, s api.TableSetup, want api.Errno) {
	t.Helper()
	if b, e := table.Make(l, s); len(b) != 0 || e != want {
		t.Errorf("%s: Make: %d bytes, %d; want none, %d", what, len(b), e, want)
	}
	i, e := table.Info(l, s)
	if toldInfo(i) != toldInfo(api.TableInfo{}) || e != want {
		t.Errorf("%s: Info: %s, %d; want nothing, %d", what, toldInfo(i), e, want)
	}
}

// gets fails unless Get answers that entry.
func gets(t *testing.T, x *table.Table, key string, seq uint64, want api.Entry) {
	t.Helper()
	if got, e := x.Get([]byte(key), seq); !same([]api.Entry{got}, []api.Entry{want}) || e != api.OK {
		t.Errorf("Get %s %d: %s%d; want %s", shortly(key), seq, shortly(told(got)), e, shortly(told(want)))
	}
}

// getsNone fails unless Get answers that error, and nothing else.
func getsNone(t *testing.T, x *table.Table, key string, seq uint64, want api.Errno) {
	t.Helper()
	got, e := x.Get([]byte(key), seq)
	if got.Key != nil || got.Value != nil || got.Seq != 0 || got.Kind != 0 || e != want {
		t.Errorf("Get %s %d: %s%d; want nothing, %d", shortly(key), seq, shortly(told(got)), e, want)
	}
}

// tells fails unless From answers these entries.
func tells(t *testing.T, x *table.Table, key string, n int, want []api.Entry) {
	t.Helper()
	if l, e := x.From([]byte(key), n); !same(l, want) || e != api.OK {
		t.Errorf("From %s %d: %s, %d; want %s", shortly(key), n, shortly(told(l...)), e, shortly(told(want...)))
	}
}

// tellsAll fails unless All answers these entries.
func tellsAll(t *testing.T, x *table.Table, want []api.Entry) {
	t.Helper()
	if l, e := x.All(); !same(l, want) || e != api.OK {
		t.Errorf("All: %d entries, %s, %d; want %d, %s", len(l), shortly(told(l...)), e, len(want), shortly(told(want...)))
	}
}

// tellsNone fails unless From and All answer that error, and nothing else.
func tellsNone(t *testing.T, what string, l []api.Entry, e, want api.Errno) {
	t.Helper()
	if len(l) != 0 || e != want {
		t.Errorf("%s: %s, %d; want nothing, %d", what, shortly(told(l...)), e, want)
	}
}

// reads fails unless so many blocks were read so far.
func reads(t *testing.T, when string, x *table.Table, want int) {
	t.Helper()
	if n := x.Reads(); n != want {
		t.Errorf("%s: %d blocks were read, want %d", when, n, want)
	}
}

// took fails unless there were so many operations since before.
func took(t *testing.T, what string, f *vfs.Fs, before, want int) {
	t.Helper()
	if n := f.Ops() - before; n != want {
		t.Errorf("%s: %d operations, want %d", what, n, want)
	}
}

// Keys that are not there

// unknown tells keys between two that a filter has, or has not.
func unknown(t *testing.T, filter, ahead, behind string, has bool, n int) []string {
	t.Helper()
	var l []string
	for i := 0; len(l) < n; i++ {
		key := fmt.Sprint(ahead, " ", i)
		if key >= behind || i > 1e6 {
			t.Fatalf("no key behind %q: %q", ahead, l)
		}
		if filterHas(filter, key) == has {
			l = append(l, key)
		}
	}
	return l
}

// Drawn entries

// source draws numbers, the same ones each time.
type source uint64

func (s *source) below(n int) int {
	*s = source(bits.RotateLeft64(uint64(*s)*6364136223846793005+1442695040888963407, 23))
	return int(uint64(*s) >> 11 % uint64(n))
}

// key draws one of few letters, so that many are alike, or begin alike.
func (s *source) key() []byte {
	b := make([]byte, 1+s.below(6))
	for i := range b {
		b[i] = []byte{0, 1, 'a', 255}[s.below(4)]
	}
	return b
}

// entries draws n entries at most, in order.
func (s *source) entries(n int) []api.Entry {
	var l []api.Entry
	for range n {
		e := api.Entry{Kind: api.WriteDelete, Key: s.key(), Seq: 1 + uint64(s.below(api.MaxSeq))>>s.below(56)}
		if s.below(3) > 0 {
			e.Kind, e.Value = api.WritePut, bytes.Repeat([]byte{byte(s.below(256))}, s.below(4)*s.below(70))
		}
		if len(l) > 0 && s.below(3) == 0 {
			e.Key = bytes.Clone(l[s.below(len(l))].Key)
		}
		l = append(l, e)
	}
	slices.SortFunc(l, func(a, b api.Entry) int {
		if isAhead(a, string(b.Key), b.Seq) {
			return -1
		} else if isAhead(b, string(a.Key), a.Seq) {
			return 1
		}
		return 0
	})
	return slices.CompactFunc(l, func(a, b api.Entry) bool {
		return string(a.Key) == string(b.Key) && a.Seq == b.Seq
	})
}

// asks are keys that are worth being asked for: the entries' own, and such as
// are just beside.
func asks(l []api.Entry) []string {
	keys := []string{"", "\x00", "\xff", strings.Repeat("\xff", 5000)}
	for _, e := range l {
		key := string(e.Key)
		keys = append(keys, key, key+"\x00", key[:len(key)-1])
	}
	slices.Sort(keys)
	return slices.Compact(keys)
}
