package pick_test

import (
	"fmt"
	"testing"

	"bootprint/api"
	"bootprint/pick"
)

// roomy answers a version all of whose lists have spare room, and the bytes in
// which all Keys are. What stands in the lists' spare room, and behind each
// Key, would make another job, or a version that may not be. Level has so much
// that it is due: 0 or 1.
func roomy(level int) (api.Version, []byte) {
	text := []byte("..b~~d~~a~~c~~x~~z~~m~~p~~q~~" + "......................................................................")
	k := func(i int) []byte { return text[i : i+1] }
	f := func(number uint64, least, most []byte) api.File {
		return api.File{Number: number, Size: 10, Least: least, Most: most, Entries: 1, MostSeq: 1}
	}
	list := func(l ...api.File) []api.File {
		return append(append(make([]api.File, 0, 9), l...), file(1, 1<<24, "a", "z"), file(0, 1, "room", "spare"))[:len(l)]
	}
	v := api.Version{Next: 12, Seq: 5, Log: 2, Levels: append(make([][]api.File, 0, 9),
		list(f(5, k(2), k(5)), f(7, k(8), k(11)), f(9, k(14), k(17))),  // b to d, a to c, x to z
		list(f(4, k(5), k(5)), f(3, k(20), k(23)), f(6, k(14), k(14))), // d, m to p, x
		list(f(8, k(2), k(2)), f(10, k(20), k(20))),                    // b, m
		list(f(2, k(23), k(26))),                                       // p to q
		list(),
		files(file(0, 1, "spare", "room")),
	)[:5]}
	if level == 1 {
		v.Levels[1][1].Size = 1 << 20
	}
	return v, text
}

// image writes a version and bytes, their spare room too.
func image(v api.Version, text []byte) string {
	s := string(text[:cap(text)]) + fmt.Sprint(len(v.Levels), cap(v.Levels), v.Next, v.Seq, v.Log)
	for _, l := range v.Levels[:cap(v.Levels)] {
		s += fmt.Sprint(len(l), cap(l), toldFiles(l[:cap(l)]), "\n")
	}
	return s
}

// spoil overwrites all lists of a job, their spare room too, each with a mark
// of its own, and fails if two of them share memory.
func spoil(t *testing.T, j api.Job) {
	t.Helper()
	keys := [][]byte{j.Least, j.Most}
	lists := [][]api.File{j.Upper, j.Lower}
	for _, l := range lists {
		for _, f := range l {
			keys = append(keys, f.Least, f.Most)
		}
	}
	for i, k := range keys {
		for at := range k[:cap(k)] {
			k[:cap(k)][at] = byte(i)
		}
	}
	for i, l := range lists {
		for at := range l[:cap(l)] {
			l[:cap(l)][at] = api.File{Number: uint64(1000 + i)}
		}
	}
	for i, k := range keys {
		for _, c := range k[:cap(k)] {
			if c != byte(i) {
				t.Fatal("two Keys share memory")
			}
		}
	}
	for i, l := range lists {
		for _, f := range l[:cap(l)] {
			if f.Number != uint64(1000+i) {
				t.Fatal("Upper and Lower share memory")
			}
		}
	}
}

// Rule 4

func TestAnswersAreNewMemory(t *testing.T) {
	for level, want := range []string{"0: 5 7 | 4, a to d", "1: 3 | 10, m to p"} {
		v, text := roomy(level)
		before := image(v, text)
		first, second := next(t, v, usual), next(t, v, usual)
		if shortJob(first) != want+[]string{"", ""}[level] {
			t.Fatalf("level %d: %s, want %s", level, shortJob(first), want)
		}
		whole := told(first)
		if image(v, text) != before {
			t.Fatal("Next changes what was handed in")
		}
		if told(second) != whole {
			t.Fatalf("%s, then %s", whole, told(second))
		}
		spoil(t, first)
		if image(v, text) != before {
			t.Fatal("who writes to the answer changes what was handed in")
		}
		if told(second) != whole {
			t.Fatalf("two answers share memory: %s", told(second))
		}
		for _, l := range v.Levels[:cap(v.Levels)] {
			clear(l[:cap(l)])
		}
		clear(v.Levels[:cap(v.Levels)])
		for i := range text {
			text[i] = 0x55
		}
		if told(second) != whole {
			t.Fatalf("the answer follows what was handed in: %s", told(second))
		}
	}
}

func TestOtherCallsLeaveWhatIsHandedIn(t *testing.T) {
	for level := range 2 {
		v, text := roomy(level)
		before := image(v, text)
		for _, s := range append(wrongSetups(), usual, never) {
			pick.Rest(v, s)
			pick.Next(v, s)
			for level := -1; level <= 5; level++ {
				pick.Score(v, s, level)
			}
		}
		scored(t, "roomy", v, usual, [5]int{150, []int{30, 1048596}[level], 2, 0, 0})
		if image(v, text) != before {
			t.Error("what was handed in is changed")
		}
	}
}

// Nothing is kept from call to call, behind an error neither.
func TestCallsDoNotHangOnOthers(t *testing.T) {
	s := source(5)
	type asked struct {
		v     api.Version
		setup api.PickSetup
		told  string
	}
	ask := func(v api.Version, setup api.PickSetup) string {
		j, e := pick.Next(v, setup)
		text := fmt.Sprint(told(j), e, pick.Rest(v, setup), pick.CheckSetup(setup))
		for level := -1; level <= 5; level++ {
			text += fmt.Sprint(" ", pick.Score(v, setup, level), pick.Bound(setup, level))
		}
		return text
	}
	var l []asked
	for range 500 {
		v, setup := s.version(), s.setup()
		l = append(l, asked{v, setup, ask(v, setup)})
	}
	for i := range l {
		a := l[len(l)-1-i]
		if got := ask(a.v, a.setup); got != a.told {
			t.Fatalf("%s, then %s", a.told, got)
		}
	}
}

// Rule 6

func TestNilAndEmptyAreTheSame(t *testing.T) {
	for _, none := range [][]api.File{nil, {}, files(file(1, 1<<24, "a", "z"))[:0]} {
		v := api.Version{Levels: [][]api.File{none, none, none, none, none}, Next: 9}
		scored(t, "no files", v, usual, [5]int{})
		noNext(t, "no files", v, usual, api.ErrNone)
		v.Levels[0] = ranges("a-c", "c-d")
		isNext(t, "level 0 alone", v, usual, "0: 1 2 | , a to d, bottom")
		v.Levels[0], v.Levels[2] = none, files(file(2, 1000, "b", "b"))
		isNext(t, "level 2 alone", v, usual, "2: 2 | , b to b, bottom")
	}
	for _, none := range [][]byte{nil, {}, []byte("a")[:0]} {
		v := at(1, api.File{Number: 1, Size: 900, Least: none, Most: []byte("a"), Entries: 1})
		noNext(t, "no Least", v, usual, api.ErrArg)
	}
}
