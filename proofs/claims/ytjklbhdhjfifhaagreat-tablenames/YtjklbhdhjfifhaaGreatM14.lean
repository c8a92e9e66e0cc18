import Derived.Test.YtjklbhdhjfifhaaGreatChecked
import Derived.Lib.Strings
import Derived.Lib.Slices
import Derived.Lib.Small
import Derived.Lib.Walk
import Derived.Lib.BitFns
/-
  How many bits a number has: at most 64.
-/
namespace Go.Proofs.YtjklbhdhjfifhaaGreat
theorem len8_le (z : Int) : ∃ l : Nat, Lib.bitLen (z % 256).toNat = l ∧ l ≤ 8 := ⟨_, rfl, by
  have := Lib.bitLen_le8' (z % 256) (by omega) (by omega)
  omega⟩
/-- How many bits a byte has. -/
def by8 (z : Int) : Int := Lib.bitLen (z % 256).toNat
theorem by8_le (z : Int) : 0 ≤ by8 z ∧ by8 z ≤ 8 := by
  obtain ⟨l, e, h⟩ := len8_le z
  unfold by8
  rw [e]
  omega
/-- How many bits a number has, by its greatest byte. -/
def lenN (z : Int) : Int :=
  if 4294967296 ≤ z then
    if 65536 ≤ z / 4294967296 then
      if 256 ≤ z / 4294967296 / 65536 then 56 + by8 (z / 4294967296 / 65536 / 256) else 48 + by8 (z / 4294967296 / 65536)
    else if 256 ≤ z / 4294967296 then 40 + by8 (z / 4294967296 / 256) else 32 + by8 (z / 4294967296)
  else if 65536 ≤ z then
    if 256 ≤ z / 65536 then 24 + by8 (z / 65536 / 256) else 16 + by8 (z / 65536)
  else if 256 ≤ z then 8 + by8 (z / 256) else by8 z
theorem lenN_le (z : Int) : 0 ≤ lenN z ∧ lenN z ≤ 64 := by
  have h1 := by8_le (z / 4294967296 / 65536 / 256)
  have h2 := by8_le (z / 4294967296 / 65536)
  have h3 := by8_le (z / 4294967296 / 256)
  have h4 := by8_le (z / 4294967296)
  have h5 := by8_le (z / 65536 / 256)
  have h6 := by8_le (z / 65536)
  have h7 := by8_le (z / 256)
  have h8 := by8_le z
  unfold lenN
  repeat' split
  all_goals omega
set_option maxRecDepth 100000 in
set_option maxHeartbeats 4000000 in
theorem len64_any (x : Nat) (h : x < 18446744073709551616) (w : World) : Calls Tryz.prog 201 #[.int .u64 x] w fun e w' => e = .returned (.int .i64 (lenN x)) ∧ w' = w := by
  have h0 : (0 : Int) ≤ (x : Int) := by omega
  have h1 : (x : Int) ≤ 18446744073709551615 := by omega
  generalize (x : Int) = z at *
  clear h
  go_enter Tryz.func201, Tryz.ntmps201
  go_wp2
  all_goals (go_ret; refine ⟨congrArg Ending.returned (congrArg (Value.int IntKind.i64) ?_), rfl⟩)
  all_goals (rw [Lib.len8_of _ (by omega) (by omega)]; unfold lenN by8; obtain ⟨l, el, hl⟩ := len8_le (_ : Int); rw [el])
  all_goals (repeat' split)
  all_goals first
    | (exfalso; omega)
    | omega
    | (rw [el]; omega)
/-- How many bytes a short number has. -/
def szN (z : Int) : Int := (max (lenN z) 1 + 6) / 7
theorem szN_le (z : Int) : 0 ≤ szN z ∧ szN z ≤ 10 := by
  have := lenN_le z
  unfold szN
  omega
set_option maxHeartbeats 4000000 in
theorem size_any (x : Nat) (h : x < 18446744073709551616) (w : World) : Calls Tryz.prog 189 #[.int .u64 x] w fun e w' => e = .returned (.int .i64 (szN x)) ∧ w' = w := by
  have hk := lenN_le (x : Int)
  have hz : szN (x : Int) = (max (lenN (x : Int)) 1 + 6) / 7 := rfl
  generalize hs : szN (x : Int) = s at *
  go_enter Tryz.func189, Tryz.ntmps189
  go_wp2_with (go_at_call 201; refine (len64_any x h _).mono ?_; rintro e w1 ⟨rfl, rfl⟩)
  generalize lenN (x : Int) = k at *
  go_ret
  have hm : 1 ≤ max k 1 ∧ max k 1 ≤ 64 := by omega
  generalize max k 1 = m at *
  have e : (m + 7 + 9223372036854775808) % 18446744073709551616 - 9223372036854775808 - 1 + 9223372036854775808 = m + 6 + 9223372036854775808 := by omega
  rw [e, show (m + 6 + 9223372036854775808) % 18446744073709551616 - 9223372036854775808 = m + 6 by omega, Int.tdiv_eq_ediv_of_nonneg (by omega)]
  refine ⟨congrArg Ending.returned (congrArg (Value.int IntKind.i64) ?_), rfl⟩
  rw [hz]
  omega
end Go.Proofs.YtjklbhdhjfifhaaGreat
