package lsm

import (
	"testing"

	"bootprint/api"
	"bootprint/vfs"
)

// What no call tells: the heights of towers in memory.
func TestHeights(t *testing.T) {
	for seq, want := range map[uint64]int{
		1: 1, 2: 1, 3: 1, 4: 2, 5: 1, 6: 1, 8: 2, 12: 2, 16: 3, 20: 2, 32: 3, 48: 3, 64: 4, 1 << 20: 11, 1 << 21: 11, 1 << 22: 12, 1 << 23: 12, 1 << 24: 12, 1 << 55: 12, api.MaxSeq: 1,
	} {
		if n := height(seq); n != want {
			t.Errorf("height of %d: %d, want %d", seq, n, want)
		}
	}
	f, x := vfs.New(1 << 20)
	if x != api.OK {
		t.Fatal(x)
	}
	s := api.Setup{Buffer: 1 << 20, Pick: api.PickSetup{Trigger: 1, Base: 1, Factor: 2}, Table: api.TableSetup{Block: 64, Bits: 1}, Target: 64}
	for round := range 2 { // the second time from the log
		e, x := Open(f, s)
		if x != api.OK {
			t.Fatal(x)
		}
		if round == 0 {
			for i := range 70 {
				w := api.Write{Kind: api.WritePut, Key: []byte{byte(i + 1)}}
				if _, x := e.Write([]api.Write{w}); x != api.OK {
					t.Fatal(x)
				}
			}
		}
		for i := range 70 {
			seq := uint64(i + 1)
			if n := e.open.Height([]byte{byte(seq)}, seq); n != height(seq) {
				t.Errorf("round %d: the tower of %d has the height %d, want %d", round, seq, n, height(seq))
			}
		}
	}
}
