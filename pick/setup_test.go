package pick_test

import (
	"testing"

	"bootprint/api"
	"bootprint/pick"
)

// P14.1, CheckSetup

func TestCheckSetup(t *testing.T) {
	for _, trigger := range []int{1, 2, 4, 99, 100} {
		for _, base := range []int{1, 2, 100, 1 << 20, 1<<30 - 1, 1 << 30} {
			for _, factor := range []int{2, 3, 10, 99, 100} {
				s := api.PickSetup{Trigger: trigger, Base: base, Factor: factor}
				if e := pick.CheckSetup(s); e != api.OK {
					t.Errorf("CheckSetup of %v: %d", s, e)
				}
			}
		}
	}
	for _, s := range wrongSetups() {
		if e := pick.CheckSetup(s); e != api.ErrArg {
			t.Errorf("CheckSetup of %v: %d, want ErrArg", s, e)
		}
	}
}

// P14.1, Bound

func TestBound(t *testing.T) {
	for _, c := range []struct {
		setup api.PickSetup
		want  [5]int
	}{
		{usual, [5]int{2, 100, 1000, 10000, 0}},
		{api.PickSetup{Trigger: 1, Base: 1, Factor: 2}, [5]int{1, 1, 2, 4, 0}},
		{api.PickSetup{Trigger: 4, Base: 10 << 20, Factor: 10}, [5]int{4, 10 << 20, 100 << 20, 1000 << 20, 0}},
		{api.PickSetup{Trigger: 100, Base: 7, Factor: 100}, [5]int{100, 7, 700, 70000, 0}},
		{api.PickSetup{Trigger: 3, Base: 1 << 30, Factor: 2}, [5]int{3, 1 << 30, 1 << 31, 1 << 32, 0}},
		// The greatest of all, which is still below 2^60.
		{never, [5]int{100, 1073741824, 107374182400, 10737418240000, 0}},
	} {
		for level, want := range c.want {
			if got := pick.Bound(c.setup, level); got != want {
				t.Errorf("Bound of %v, level %d: %d, want %d", c.setup, level, got, want)
			}
		}
		for _, level := range noLevels {
			if got := pick.Bound(c.setup, level); got != 0 {
				t.Errorf("Bound of %v, level %d: %d, want 0", c.setup, level, got)
			}
		}
	}
}

// Among the wrong setups are such whose Base times the power of Factor comes to
// 2^60, above it, and above what an int holds.
func TestBoundOfASetupThatMayNotBe(t *testing.T) {
	wrong := append(wrongSetups(),
		api.PickSetup{Trigger: 2, Base: 1 << 30, Factor: 1 << 15},
		api.PickSetup{Trigger: 2, Base: 1 << 58, Factor: 2},
		api.PickSetup{Trigger: 2, Base: 1 << 61, Factor: 2},
	)
	for _, s := range wrong {
		for level := -1; level <= 5; level++ {
			if n := pick.Bound(s, level); n != 0 {
				t.Errorf("Bound of %v, level %d: %d, want 0", s, level, n)
			}
		}
		for _, level := range noLevels {
			if n := pick.Bound(s, level); n != 0 {
				t.Errorf("Bound of %v, level %d: %d, want 0", s, level, n)
			}
		}
	}
}

func TestBoundAsTold(t *testing.T) {
	for _, trigger := range []int{0, 1, 50, 100, 101} {
		for _, base := range []int{0, 1, 3, 1 << 15, 1<<30 - 1, 1 << 30, 1<<30 + 1} {
			for factor := range 103 {
				s := api.PickSetup{Trigger: trigger, Base: base, Factor: factor}
				if got, want := pick.CheckSetup(s), plainCheckSetup(s); got != want {
					t.Fatalf("CheckSetup of %v: %d, want %d", s, got, want)
				}
				for level := -1; level <= 5; level++ {
					want := 0
					if n := plainBound(s, level); n != nil {
						want = int(n.Int64())
					}
					if got := pick.Bound(s, level); got != want {
						t.Fatalf("Bound of %v, level %d: %d, want %d", s, level, got, want)
					}
				}
			}
		}
	}
}
