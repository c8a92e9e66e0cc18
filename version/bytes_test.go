package version_test

import (
	"bytes"
	"fmt"
	"slices"
	"testing"

	"bootprint/api"
	"bootprint/version"
)

// mixed is an edit with all that an edit has, and its bytes.
func mixed() (api.Edit, []byte) {
	e := api.Edit{
		Next: 300, Seq: 128, Log: 2,
		Drops: []api.Drop{drop(1, 5), drop(0, 16384)},
		Adds: []api.Add{
			add(2, api.File{Number: 299, Size: 100, Least: []byte("a"), Most: []byte("bc"), Entries: 3, MostSeq: 200}),
			add(4, api.File{Number: 1, Size: 0, Least: []byte{0}, Most: []byte{255, 0}, Entries: 127, MostSeq: 0}),
		},
	}
	return e, []byte{
		172, 2, 128, 1, 2,
		2, 1, 5, 0, 128, 128, 1,
		2, 2, 171, 2, 100, 3, 200, 1, 1, 'a', 2, 'b', 'c', 4, 1, 0, 127, 0, 1, 0, 2, 255, 0,
	}
}

// edits are of several kinds; Append takes them all.
func edits() map[string]api.Edit {
	e, _ := mixed()
	return map[string]api.Edit{
		"mixed":      e,
		"zero":       {},
		"nothing":    {Next: 1},
		"numbers":    {Next: 1 << 40, Seq: 1<<56 - 1, Log: 1 << 62},
		"greatest":   {Next: 1 << 62, Seq: 1 << 62, Log: 1 << 62, Drops: []api.Drop{drop(1<<62, 1<<62)}, Adds: []api.Add{add(1<<62, api.File{Number: 1 << 62, Size: 1 << 62, Entries: 1 << 62, MostSeq: 1 << 62})}},
		"drops":      {Drops: []api.Drop{drop(0, 0), drop(4, 1), drop(5, 2), drop(1, 1), drop(1, 1)}},
		"adds":       {Adds: []api.Add{{}, add(1, file(1, "a", "b")), add(1, file(1, "a", "b")), add(9, file(1, "b", "a"))}},
		"long keys":  {Adds: []api.Add{add(0, file(1, string(key(127, 1)), string(key(128, 2)))), add(0, file(2, string(key(4096, 1)), string(key(4097, 2))))}},
		"empty keys": {Adds: []api.Add{add(0, file(1, "", "")), add(3, file(1, "", "x")), add(3, file(1, "x", ""))}},
	}
}

// P12.2, Append

func TestAppend(t *testing.T) {
	e, want := mixed()
	for _, ahead := range []string{"", "p", "\x00\xff", string(make([]byte, 300))} {
		p := appended(t, ahead, e)
		if string(p) != ahead+string(want) {
			t.Errorf("Append behind %q: %v, want %v", ahead, p, want)
		}
		if p := appended(t, ahead, api.Edit{}); string(p) != ahead+"\x00\x00\x00\x00\x00" {
			t.Errorf("Append of the zero edit: %v", p)
		}
	}
	for what, e := range edits() {
		if p := appended(t, "ahead", e); string(p) != "ahead"+string(encode(parts(e)...)) {
			t.Errorf("Append of %s: %v", what, p)
		}
	}
	// Twice.
	p := appended(t, string(appended(t, "", e)), e)
	if string(p) != string(want)+string(want) {
		t.Errorf("Append twice: %v", p)
	}
}

// Nothing says that Append refuses numbers that Parse does not take.
func TestAppendOfNumbersAboveWhatParseTakes(t *testing.T) {
	for _, x := range []uint64{1<<62 + 1, 1 << 63, greatest} {
		f := file(1, "a", "b")
		f.MostSeq = x
		for i, e := range []api.Edit{
			{Next: x}, {Seq: x}, {Log: x}, drops(1, drop(0, x)), adds(1, add(0, file(x, "a", "b"))), adds(1, add(0, f)),
		} {
			p := appended(t, "", e)
			if string(p) != string(encode(parts(e)...)) {
				t.Errorf("Append of %s: %v", toldEdit(e), p)
			}
			unread(t, fmt.Sprintf("%d at the place %d", x, i), p, api.ErrBad)
		}
	}
	e := drops(1, drop(greatestInt, 1))
	p := appended(t, "", e)
	unread(t, "the greatest level", p, api.ErrBad)
}

func TestAppendOfNumbersBelow0(t *testing.T) {
	for _, x := range []int{-1, -2, -1 << 32, leastInt} {
		size, entries := file(1, "a", "b"), file(1, "a", "b")
		size.Size, entries.Entries = x, x
		for what, e := range map[string]api.Edit{
			"a drop's level": drops(1, drop(x, 1)),
			"an add's level": adds(1, add(x, file(1, "a", "b"))),
			"a Size":         adds(1, add(0, size)),
			"Entries":        adds(1, add(0, entries)),
			"the last ones":  {Drops: []api.Drop{drop(0, 1), drop(0, 2)}, Adds: []api.Add{add(0, file(1, "a", "b")), add(0, entries)}},
			"the last drop":  {Drops: []api.Drop{drop(0, 1), drop(x, 2)}, Adds: []api.Add{add(0, file(1, "a", "b"))}},
		} {
			noBytes(t, fmt.Sprint(what, " of ", x), e, api.ErrArg)
		}
	}
	zero := adds(0, add(0, api.File{}))
	if p := appended(t, "", zero); string(p) != "\x00\x09\x03\x00\x01\x00\x00\x00\x00\x00\x00\x00" {
		t.Errorf("Append of numbers of 0: %v", p)
	}
}

func TestAppendOfLongKeys(t *testing.T) {
	for n, want := range map[int]api.Errno{4097: api.OK, 1<<20 - 1: api.OK, 1 << 20: api.OK, 1<<20 + 1: api.ErrArg, 1<<20 + 2: api.ErrArg} {
		for what, f := range map[string]api.File{
			"Least": {Least: make([]byte, n)}, "Most": {Most: make([]byte, n)}, "both": {Least: make([]byte, n), Most: make([]byte, n)},
		} {
			what = fmt.Sprintf("a %s of %d", what, n)
			e := adds(1, add(0, file(1, "a", "b")), add(0, f))
			if want != api.OK {
				noBytes(t, what, e, want)
				continue
			}
			p := appended(t, "", e)
			if !bytes.Equal(p, encode(parts(e)...)) {
				t.Errorf("Append of %s: other bytes", what)
			}
			if back := parsed(t, p); toldEdit(back) != toldEdit(e) {
				t.Errorf("Parse of %s: another edit", what)
			}
			for _, cut := range []int{0, 1, 5, 20, len(p) / 2, len(p) - n, len(p) - n - 1, len(p) - 2, len(p) - 1} {
				unread(t, fmt.Sprintf("%s, cut at %d", what, cut), p[:max(cut, 0)], api.ErrMore)
			}
		}
	}
}

func many(nDrops, nAdds int) api.Edit {
	e := api.Edit{Next: 1, Drops: make([]api.Drop, nDrops), Adds: make([]api.Add, nAdds)}
	for i := range e.Drops {
		e.Drops[i] = drop(i%5, uint64(i))
	}
	for i := range e.Adds {
		e.Adds[i] = add(i%5, file(uint64(i), "a", "b"))
	}
	return e
}

func TestAppendOfMany(t *testing.T) {
	for _, c := range []struct {
		drops, adds int
		want        api.Errno
	}{
		{9999, 9999, api.OK}, {10000, 0, api.OK}, {0, 10000, api.OK}, {10000, 10000, api.OK},
		{10001, 0, api.ErrLong}, {0, 10001, api.ErrLong}, {10001, 10001, api.ErrLong}, {10000, 10001, api.ErrLong}, {10001, 10000, api.ErrLong},
		{50000, 0, api.ErrLong},
	} {
		what := fmt.Sprintf("%d drops and %d adds", c.drops, c.adds)
		e := many(c.drops, c.adds)
		p := encode(parts(e)...)
		if c.want != api.OK {
			noBytes(t, what, e, c.want)
			unread(t, what, p, api.ErrLong)
			continue
		}
		if !bytes.Equal(appended(t, "", e), p) {
			t.Errorf("Append of %s: other bytes", what)
		}
		if toldEdit(parsed(t, p)) != toldEdit(e) {
			t.Errorf("Parse of %s: another edit", what)
		}
		for cut := 0; cut < len(p); cut += 1 + len(p)/31 {
			unread(t, fmt.Sprintf("%s, cut at %d", what, cut), p[:cut], api.ErrMore)
		}
		unread(t, what+", cut at the end", p[:len(p)-1], api.ErrMore)
		unread(t, what+", and a byte", append(p, 0), api.ErrBad)
	}
}

// Rule 1: ErrArg is told ahead of ErrLong.
func TestAppendTellsErrArgFirst(t *testing.T) {
	e := many(10001, 10001)
	for what, change := range map[string]func(){
		"a drop's level": func() { e.Drops[10000].Level = -1 },
		"an add's level": func() { e.Adds[10000].Level = -1 },
		"a Size":         func() { e.Adds[0].File.Size = -1 },
		"Entries":        func() { e.Adds[5000].File.Entries = -1 },
		"a Least":        func() { e.Adds[10000].File.Least = make([]byte, 1<<20+1) },
		"a Most":         func() { e.Adds[10000].File.Most = make([]byte, 1<<20+1) },
	} {
		e = many(10001, 10001)
		noBytes(t, "too many", e, api.ErrLong)
		change()
		noBytes(t, "too many, and "+what, e, api.ErrArg)
		e.Adds = e.Adds[:10000]
		if what == "a drop's level" || what == "a Size" || what == "Entries" {
			noBytes(t, "too many drops, and "+what, e, api.ErrArg)
		}
	}
}

// P12.2, Parse

func TestParse(t *testing.T) {
	e, p := mixed()
	if got := parsed(t, p); toldEdit(got) != toldEdit(e) {
		t.Errorf("Parse: %s, want %s", toldEdit(got), toldEdit(e))
	}
	for what, e := range edits() {
		if got := parsed(t, encode(parts(e)...)); toldEdit(got) != toldEdit(e) {
			t.Errorf("Parse of %s: %s, want %s", what, toldEdit(got), toldEdit(e))
		}
	}
	unread(t, "nothing", nil, api.ErrMore)
	unread(t, "no bytes", []byte{}, api.ErrMore)
}

func TestParseOfBytesThatAreCut(t *testing.T) {
	for what, e := range edits() {
		p := encode(parts(e)...)
		for cut := range p {
			unread(t, fmt.Sprintf("%s, cut at %d", what, cut), p[:cut], api.ErrMore)
		}
	}
}

func TestParseOfBytesThatAreLeft(t *testing.T) {
	for what, e := range edits() {
		p := encode(parts(e)...)
		for _, behind := range [][]byte{{0}, {1}, {127}, {128}, {255}, {0, 0, 0}, p, make([]byte, 1000)} {
			unread(t, fmt.Sprintf("%s, and %d bytes", what, len(behind)), append(slices.Clone(p), behind...), api.ErrBad)
		}
	}
}

// fault is what stands in place of a part, and what is told of it.
type fault struct {
	what string
	raw  []byte
	want api.Errno
}

// faults answers those that may stand in place of p, with bytes behind.
func faults(p part) []fault {
	wrong := []fault{
		{"a needless 0", []byte{129, 0}, api.ErrBad},
		{"a needless 0 of 0", []byte{128, 0}, api.ErrBad},
		{"above 64 bits", []byte{255, 255, 255, 255, 255, 255, 255, 255, 255, 2}, api.ErrBad},
		{"too many bytes", []byte{255, 255, 255, 255, 255, 255, 255, 255, 255, 255, 1}, api.ErrBad},
	}
	if p.isPiece {
		for _, n := range []uint64{1<<20 + 1, 1 << 40, 1<<62 + 1, greatest} {
			wrong = append(wrong, fault{fmt.Sprint("a length of ", n), short(n), api.ErrLong})
		}
		return wrong
	}
	for _, n := range []uint64{1<<62 + 1, 1 << 63, greatest} {
		wrong = append(wrong, fault{fmt.Sprint("a number of ", n), short(n), api.ErrBad})
	}
	if p.isCount {
		for _, n := range []uint64{10001, 10002, 1 << 32, 1<<62 - 1, 1 << 62} {
			wrong = append(wrong, fault{fmt.Sprint("a count of ", n), short(n), api.ErrLong})
		}
	}
	return wrong
}

func TestParseOfAFaultAnywhere(t *testing.T) {
	e, _ := mixed()
	l := parts(e)
	for i, p := range l {
		for _, f := range faults(p) {
			what := fmt.Sprintf("%s at the part %d", f.what, i)
			wrong := slices.Clone(l)
			wrong[i].raw = f.raw
			unread(t, what, encode(wrong...), f.want)
			unread(t, what+", and bytes", append(encode(wrong...), 1, 2, 3), f.want)
			// Nothing need be behind it.
			unread(t, what+", at the end", encode(wrong[:i+1]...), f.want)
			for _, pad := range []byte{0, 128, 255} {
				unread(t, what+", and others", append(encode(wrong[:i+1]...), bytes.Repeat([]byte{pad}, 50)...), f.want)
			}
		}
	}
}

// Of two faults the first from the left is told.
func TestParseTellsTheFirstFault(t *testing.T) {
	e, _ := mixed()
	l := parts(e)
	for i := range l {
		for _, f := range faults(l[i]) {
			for j := i + 1; j < len(l); j++ {
				for _, g := range faults(l[j]) {
					wrong := slices.Clone(l)
					wrong[i].raw, wrong[j].raw = f.raw, g.raw
					unread(t, fmt.Sprintf("%s at %d, then %s at %d", f.what, i, g.what, j), encode(wrong...), f.want)
				}
			}
			// A cut behind it, and one ahead of it.
			wrong := slices.Clone(l)
			wrong[i].raw = f.raw
			b := encode(wrong...)
			at := len(encode(wrong[:i]...))
			for cut := range b {
				want := api.ErrMore
				if cut >= at+len(f.raw) {
					want = f.want
				}
				if cut > at && cut < at+len(f.raw) {
					continue // what is left of the fault may be another one
				}
				unread(t, fmt.Sprintf("%s at %d, cut at %d", f.what, i, cut), b[:cut], want)
			}
		}
	}
}

func TestParseOfTheBounds(t *testing.T) {
	e, _ := mixed()
	l := parts(e)
	for i, p := range l {
		if p.isPiece || p.isCount {
			continue
		}
		for _, n := range []uint64{0, 1, 127, 128, 1 << 24, 1<<24 + 1, 1 << 56, 1<<62 - 1, 1 << 62} {
			right := slices.Clone(l)
			right[i].number = n
			b := encode(right...)
			if got := parsed(t, b); string(encode(parts(got)...)) != string(b) {
				t.Errorf("%d at the part %d: %s", n, i, toldEdit(got))
			}
		}
	}
	// A count of more than there is.
	for i, p := range l {
		if p.isCount {
			for _, n := range []uint64{3, 4, 9999, 10000} {
				wrong := slices.Clone(l)
				wrong[i].number = n
				if _, err := version.Parse(encode(wrong...)); err == api.OK || err == api.ErrLong {
					t.Errorf("a count of %d at the part %d: %d", n, i, err)
				}
			}
		}
	}
	unread(t, "a count of 10,000 drops, and none", []byte{1, 1, 1, 144, 78}, api.ErrMore)
	unread(t, "a count of 10,001 drops, and none", []byte{1, 1, 1, 145, 78}, api.ErrLong)
	unread(t, "a count of 10,000 adds, and none", []byte{1, 1, 1, 0, 144, 78}, api.ErrMore)
	unread(t, "a count of 10,001 adds, and none", []byte{1, 1, 1, 0, 145, 78}, api.ErrLong)
	unread(t, "a piece without all its bytes", []byte{1, 1, 1, 0, 1, 0, 1, 1, 1, 1, 3, 'a', 'b'}, api.ErrMore)
}

// drawn draws an edit of any numbers that Parse takes.
func (s *source) drawn() api.Edit {
	number := func() uint64 { return uint64(s.below(1<<62)) >> s.below(62) }
	e := api.Edit{Next: number(), Seq: number(), Log: number()}
	for range s.below(4) {
		e.Drops = append(e.Drops, drop(int(number()), number()))
	}
	for range s.below(4) {
		e.Adds = append(e.Adds, add(int(number()), api.File{
			Number: number(), Size: int(number()), Entries: int(number()), MostSeq: number(),
			Least: make([]byte, s.below(3)*s.below(100)), Most: s.key(),
		}))
	}
	return e
}

func TestParseAsTold(t *testing.T) {
	s := source(3)
	count := map[api.Errno]int{}
	for range 20000 {
		p := encode(parts(s.drawn())...)
		for range s.below(4) {
			i := s.below(len(p))
			switch s.below(4) {
			case 0:
				p[i] ^= 1 << s.below(8)
			case 1:
				p[i] = []byte{0, 1, 127, 128, 255}[s.below(5)]
			case 2:
				p = slices.Insert(p, i, byte(s.below(256)))
			case 3:
				p = slices.Delete(p, i, min(len(p), i+1+s.below(3)))
			}
			if len(p) == 0 {
				break
			}
		}
		got, e := version.Parse(p)
		want, wantErr := plainParse(p)
		if toldEdit(got) != toldEdit(want) || e != wantErr {
			t.Fatalf("Parse of %v: %s, %d, want %s, %d", p, toldEdit(got), e, toldEdit(want), wantErr)
		}
		count[e]++
	}
	for _, e := range []api.Errno{api.OK, api.ErrLong, api.ErrBad, api.ErrMore} {
		if count[e] < 100 {
			t.Errorf("what was drawn is one-sided: %v", count)
		}
	}
}
