package vfs_test

import (
	"testing"

	"bootprint/api"
)

// P4.4, Fuse

func TestFuseGoesOffBehindN(t *testing.T) {
	for n := range 10 {
		f := fresh(t, 10)
		fine(t, f.Create("a"), f.Fuse(n))
		for range n {
			fine(t, f.Sync("a"))
			if !f.On() {
				t.Fatalf("Fuse(%d): off too soon", n)
			}
		}
		for range 3 {
			refused(t, "Append with a fuse", f.Append("a", []byte("x")), api.ErrOff)
			if f.On() || f.Size("a") != 0 {
				t.Fatalf("Fuse(%d): On %t, Size %d", n, f.On(), f.Size("a"))
			}
		}
	}
}

func TestFuseCountsWhatFails(t *testing.T) {
	f := fresh(t, 10)
	fine(t, f.Fuse(3), f.Fault(1, api.ErrIO))
	refused(t, "the first", f.Sync("none"), api.ErrNone)
	refused(t, "no operation", f.Sync("A"), api.ErrArg)
	refused(t, "no operation", f.Turn("none", 0, 1), api.ErrNone)
	refused(t, "the second", f.Create("a"), api.ErrIO)
	fine(t, f.Create("a"))
	refused(t, "the fourth", f.Create("b"), api.ErrOff)
	named(t, f, "a")
}

func TestFuseSetAnew(t *testing.T) {
	f := fresh(t, 10)
	fine(t, f.Create("a"), f.Fuse(0), f.Fuse(2), f.Sync("a"), f.Fuse(1), f.Sync("a"))
	refused(t, "the fuse that was set last", f.Sync("a"), api.ErrOff)
}

func TestFuseTakenAway(t *testing.T) {
	for _, n := range []int{-1, -2, least} {
		f := fresh(t, 10)
		fine(t, f.Fuse(n), f.Create("a"), f.Fuse(0), f.Fuse(n))
		for range 5 {
			fine(t, f.Sync("a"))
		}
		if !f.On() {
			t.Errorf("Fuse(%d): off", n)
		}
	}
}

func TestFuseFarAway(t *testing.T) {
	f := fresh(t, 10)
	fine(t, f.Create("a"), f.Sync("a"), f.Fuse(greatest), f.Fault(greatest, api.ErrIO))
	for range 5 {
		fine(t, f.Sync("a"))
	}
	if !f.On() {
		t.Error("off")
	}
}

func TestDiskStaysOffTillACrash(t *testing.T) {
	f := fresh(t, 10)
	fine(t, f.Create("a"), f.SyncDir(), f.Fuse(0))
	refused(t, "the fuse", f.Sync("a"), api.ErrOff)
	fine(t, f.Fuse(-1))
	refused(t, "taken away when the disk is off", f.Sync("a"), api.ErrOff)
	fine(t, f.Fuse(5), f.Fault(0, api.ErrIO))
	refused(t, "set anew when the disk is off", f.Sync("a"), api.ErrOff)
	fine(t, f.Fuse(0), f.Crash(0, nil))
	if !f.On() {
		t.Error("off behind a crash")
	}
	for range 8 {
		fine(t, f.Sync("a")) // there is no fuse and no fault
	}
}

// P4.4, Fault

func TestFaultStrikesOnceBehindN(t *testing.T) {
	for _, e := range []api.Errno{api.ErrFull, api.ErrIO} {
		for n := range 10 {
			f := fresh(t, 100)
			fine(t, f.Create("a"), f.Fault(n, e))
			for range n {
				fine(t, f.Append("a", []byte("x")))
			}
			refused(t, "Append with a fault", f.Append("a", []byte("x")), e)
			if !f.On() || f.Size("a") != n {
				t.Fatalf("Fault(%d): On %t, Size %d", n, f.On(), f.Size("a"))
			}
			for range 12 {
				fine(t, f.Append("a", []byte("x")))
			}
		}
	}
}

func TestFaultRefuses(t *testing.T) {
	f := fresh(t, 10)
	fine(t, f.Create("a"), f.Fault(1, api.ErrIO))
	for e := api.Errno(-3); e < 30; e++ {
		if e == api.ErrFull || e == api.ErrIO {
			continue
		}
		for _, n := range []int{0, 1, 5, -1} {
			refused(t, "Fault with another error", f.Fault(n, e), api.ErrArg)
		}
	}
	// The one that is set stays.
	fine(t, f.Sync("a"))
	refused(t, "the fault", f.Sync("a"), api.ErrIO)
	fine(t, f.Sync("a"))
}

func TestFaultSetAnew(t *testing.T) {
	f := fresh(t, 10)
	fine(t, f.Create("a"), f.Fault(0, api.ErrIO), f.Fault(1, api.ErrFull), f.Sync("a"))
	refused(t, "the fault that was set last", f.Sync("a"), api.ErrFull)
	fine(t, f.Sync("a"), f.Fault(0, api.ErrIO))
	refused(t, "one behind the other", f.Sync("a"), api.ErrIO)
}

func TestFaultTakenAway(t *testing.T) {
	for _, n := range []int{-1, -2, least} {
		f := fresh(t, 10)
		fine(t, f.Fault(n, api.ErrIO), f.Create("a"), f.Fault(0, api.ErrIO), f.Fault(n, api.ErrFull))
		for range 5 {
			fine(t, f.Sync("a"))
		}
	}
}

func TestFaultAndFuseCountApart(t *testing.T) {
	for fuse := range 5 {
		for fault := range 5 {
			f := fresh(t, 10)
			fine(t, f.Create("a"), f.Fault(fault, api.ErrFull), f.Fuse(fuse))
			for i := range 8 {
				want := api.OK
				switch {
				case i >= fuse: // where both strike, the fuse does
					want = api.ErrOff
				case i == fault:
					want = api.ErrFull
				}
				refused(t, "Sync", f.Sync("a"), want)
			}
			if f.Ops() != 2+fuse {
				t.Errorf("Fuse(%d), Fault(%d): Ops %d", fuse, fault, f.Ops())
			}
		}
	}
}

func TestNoFuseAndNoFaultBehindACrash(t *testing.T) {
	f := fresh(t, 10)
	fine(t, f.Create("a"), f.SyncDir(), f.Fuse(0), f.Fault(1, api.ErrIO), f.Crash(0, nil))
	for range 4 {
		fine(t, f.Sync("a"))
	}
}

// P4.4, Turn

func TestTurn(t *testing.T) {
	f := fresh(t, 10)
	fine(t, f.Create("a"), f.Create("b"), f.Append("b", []byte("abcd")), f.Append("a", []byte{0, 0xff, 'x', 'y'}))
	fine(t, f.Turn("a", 0, 0x81), f.Turn("a", 1, 0x0f), f.Turn("a", 2, 0), f.Turn("a", 3, 0xff))
	holds(t, f, "a", "\x81\xf0x\x86")
	fine(t, f.Turn("a", 3, 0xff), f.Turn("a", 0, 0x80))
	holds(t, f, "a", "\x01\xf0xy")
	holds(t, f, "b", "abcd")
	takes(t, f, 8)
}

func TestTurnOfBytesSyncedAndNot(t *testing.T) {
	f := fresh(t, 10)
	fine(t, f.Create("a"), f.SyncDir(), f.Append("a", []byte("ab")), f.Sync("a"), f.Append("a", []byte("cd")))
	fine(t, f.Turn("a", 0, 1), f.Turn("a", 2, 1))
	holds(t, f, "a", "`bbd")
	// A byte that was synced is so still, another is not.
	fine(t, f.Crash(0, []int{1}))
	holds(t, f, "a", "`bb")
	fine(t, f.Append("a", []byte("e")), f.Turn("a", 3, 1), f.Turn("a", 2, 1), f.Crash(0, nil))
	holds(t, f, "a", "`bc")
}

func TestTurnRefuses(t *testing.T) {
	f := fresh(t, 10)
	fine(t, f.Create("a"), f.Create("b"), f.Append("a", []byte("abc")))
	for _, at := range []int{-1, -3, least, 3, 4, greatest} {
		refused(t, "Turn of no such byte", f.Turn("a", at, 1), api.ErrArg)
	}
	for _, at := range []int{-1, 0, 1} {
		refused(t, "Turn of a file without bytes", f.Turn("b", at, 1), api.ErrArg)
		for _, name := range []string{"c", "", "A", "a/b"} {
			refused(t, "Turn of no file", f.Turn(name, at, 1), api.ErrNone)
		}
	}
	holds(t, f, "a", "abc")
}

func TestTurnIsNoOperation(t *testing.T) {
	f := fresh(t, 10)
	fine(t, f.Create("a"), f.Append("a", []byte("abc")), f.Sync("a"), f.SyncDir(), f.Fuse(0), f.Fault(0, api.ErrIO))
	fine(t, f.Turn("a", 0, 1))
	if f.Ops() != 4 || !f.On() {
		t.Errorf("Ops %d, On %t", f.Ops(), f.On())
	}
	refused(t, "Sync", f.Sync("a"), api.ErrOff)
	fine(t, f.Turn("a", 1, 1)) // with the disk off, too
	refused(t, "Turn of no file", f.Turn("b", 1, 1), api.ErrNone)
	fine(t, f.Crash(0, nil))
	holds(t, f, "a", "`cc")
}
