package lsm_test

import (
	"math"
	"testing"

	"bootprint/api"
	"bootprint/lsm"
)

// P16.1, CheckSetup

// bounds tells of each number of a setup where it stands, the least and the
// greatest that may be.
func bounds() map[string]struct {
	of    func(s *api.Setup) *int
	least int
	most  int
} {
	type bound = struct {
		of    func(s *api.Setup) *int
		least int
		most  int
	}
	return map[string]bound{
		"Buffer":  {func(s *api.Setup) *int { return &s.Buffer }, 64, 1 << 20},
		"Target":  {func(s *api.Setup) *int { return &s.Target }, 64, 1 << 19},
		"Trigger": {func(s *api.Setup) *int { return &s.Pick.Trigger }, 1, 100},
		"Base":    {func(s *api.Setup) *int { return &s.Pick.Base }, 1, 1 << 30},
		"Factor":  {func(s *api.Setup) *int { return &s.Pick.Factor }, 2, 100},
		"Block":   {func(s *api.Setup) *int { return &s.Table.Block }, 64, 1 << 16},
		"Bits":    {func(s *api.Setup) *int { return &s.Table.Bits }, 1, 32},
	}
}

func TestSetupsThatMayBe(t *testing.T) {
	refused(t, "the examples' setup", lsm.CheckSetup(small()), api.OK)
	var least, most api.Setup
	for name, b := range bounds() {
		*b.of(&least), *b.of(&most) = b.least, b.most
		for _, n := range []int{b.least, b.least + 1, b.most - 1, b.most} {
			s := small()
			*b.of(&s) = n
			refused(t, name, lsm.CheckSetup(s), api.OK)
			e, f := begun(t, s)
			writes(t, e, set("a", "x"))
			gets(t, opened(t, name, f, s), 1, "a", "x")
		}
	}
	for _, s := range []api.Setup{least, most} {
		refused(t, "all at a bound", lsm.CheckSetup(s), api.OK)
		e, _ := begun(t, s)
		writes(t, e, set("a", "x"))
		rest(t, e)
		gets(t, e, 1, "a", "x")
	}
}

func TestSetupsThatMayNotBe(t *testing.T) {
	refused(t, "nothing", lsm.CheckSetup(api.Setup{}), api.ErrArg)
	for name, b := range bounds() {
		for _, n := range []int{b.least - 1, b.most + 1, 0, -1, math.MinInt, math.MaxInt, -b.least, b.most << 8} {
			s := small()
			*b.of(&s) = n
			refused(t, name, lsm.CheckSetup(s), api.ErrArg)
			f := fresh(t)
			notOpened(t, name, f, s, api.ErrArg)
			took(t, name, f, 0, 0)
			// The rest being at a bound does not help.
			for other, o := range bounds() {
				if other != name {
					*o.of(&s) = o.most
				}
			}
			refused(t, name+", the rest at most", lsm.CheckSetup(s), api.ErrArg)
		}
	}
}
