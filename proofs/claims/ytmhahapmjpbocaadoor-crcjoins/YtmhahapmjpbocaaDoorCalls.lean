/-
  CrcCalls of any bytes, sums and length: the code's sums are the document's.
-/
import Derived.Test.YtmhahapmjpbocaaDoorOwn
import Derived.Test.YtmhahapmjpbocaaDoorRJoin
namespace Go.Proofs.YtmhahapmjpbocaaDoor
open Go.RowKit

theorem below_size {w w' : World} (h : Below w.heap.size w w') : w.heap.size ≤ w'.heap.size := h.size
/-- Two stretches, one behind the other. -/
theorem then_below {B : Nat} {w w1 w2 : World} (h : Below B w w1) (k : Below w1.heap.size w1 w2) (hB : B ≤ w.heap.size) : Below B w w2 := h.trans (k.mono (Nat.le_trans hB h.size))

/-- What both Joins answer. -/
def joinOf (x y : BitVec 32) (n : Int) : BitVec 32 × Int := if n < 0 ∨ 1099511627776 < n then (0#32, 2) else (Crc32.join x y n.toNat, 0)

theorem joins_any (x y : BitVec 32) (n : Int) (w : World) (hw : Tab w) :
    Calls Tryd.prog 7 #[.int .u32 x.toNat, .int .u32 y.toNat, .int .i64 n] w fun e w' => e = .returned (.tuple #[.int .u32 (joinOf x y n).1.toNat, .int .i64 (joinOf x y n).2]) ∧ Below w.heap.size w w' := by
  unfold joinOf
  split
  · rename_i h
    exact (join_bad x y n w h).mono fun e w' ⟨he, hw⟩ => ⟨he, by rw [hw]; exact Below.refl _ _⟩
  · rename_i h
    obtain ⟨m, rfl⟩ := Int.eq_ofNat_of_zero_le (show 0 ≤ n by omega)
    exact join_any x y m w (by omega) hw
theorem rjoins_any (x y : BitVec 32) (n : Int) (w : World) :
    Calls Tryd.prog 9 #[.int .u32 x.toNat, .int .u32 y.toNat, .int .i64 n] w fun e w' => e = .returned (.tuple #[.int .u32 (joinOf x y n).1.toNat, .int .i64 (joinOf x y n).2]) ∧ Below w.heap.size w w' := by
  unfold joinOf
  split
  · rename_i h
    exact (rjoin_bad x y n w h).mono fun e w' ⟨he, hw⟩ => ⟨he, by rw [hw]; exact Below.refl _ _⟩
  · rename_i h
    obtain ⟨m, rfl⟩ := Int.eq_ofNat_of_zero_le (show 0 ≤ n by omega)
    exact rjoin_any x y m w (by omega)

set_option maxRecDepth 100000 in
set_option maxHeartbeats 1000000 in
theorem calls_any (v : Value) (bs : List (BitVec 8)) (x y : BitVec 32) (n : Int) (w : World) (hw : Tab w) (h : Bytes w v bs) (hl : bs.length ≤ maxLen) :
    Calls Tryd.prog 4 #[v, .int .u32 x.toNat, .int .u32 y.toNat, .int .i64 n] w fun e w' => e = .returned (.bool true) ∧ Below w.heap.size w w' := by
  have HW := hide hw
  have HV := hide h
  clear hw h
  have HL := hide hl
  obtain ⟨a, c, hv, _⟩ := HV.out
  subst hv
  by_cases hlen : bs.length ≤ 3000
  · have hgt : ¬ (3000 : Int) < (bs.length : Int) := by omega
    go_enter Tryd.func4, Tryd.ntmps4
    go_wp2_with fail
    refine (lives_any _ HW.out).mono ?_
    rintro e w1 ⟨rfl, b1⟩
    have B1 := hide b1
    clear b1
    go_wp2_with fail
    refine (joins_any x y n _ (HW.out.below B1.out)).mono ?_
    rintro e w2 ⟨rfl, b2⟩
    have B2 := hide (then_below B1.out b2 (Nat.le_refl _))
    clear b2
    go_wp2_with fail
    refine (rjoins_any x y n _).mono ?_
    rintro e w3 ⟨rfl, b3⟩
    have B3 := hide (then_below B2.out b3 (Nat.le_refl _))
    clear b3
    generalize (joinOf x y n).1 = j1
    generalize (joinOf x y n).2 = j2
    go_wp2_with fail
    refine (own_any _ bs _ (HV.out.below B3.out) hlen).mono ?_
    rintro e w4 ⟨g4, c4, rfl, hg4, r4, b4⟩
    have B4 := hide (then_below B3.out b4 (Nat.le_refl _))
    have R4 := hide r4
    clear b4 r4 hg4
    go_wp2_with fail
    refine (sum_any _ bs _ R4.out.bytes HL.out).mono ?_
    rintro e w5 ⟨rfl, b5⟩
    have B5 := hide (then_below B4.out b5 (Nat.le_refl _))
    clear b5
    go_wp2_with fail
    refine (rsum_any _ bs _ (HV.out.below B5.out) HL.out).mono ?_
    rintro e w6 ⟨rfl, hw⟩
    subst hw
    generalize Crc32.sum bs = sm at *
    go_wp2_with fail
    refine (own_any _ bs _ (HV.out.below B5.out) hlen).mono ?_
    rintro e w7 ⟨g7, c7, rfl, hg7, r7, b7⟩
    have B7 := hide (then_below B5.out b7 (Nat.le_refl _))
    have R7 := hide r7
    clear b7 r7 hg7
    go_wp2_with fail
    refine (update_any x _ bs _ R7.out.bytes HL.out).mono ?_
    rintro e w8 ⟨rfl, b8⟩
    have B8 := hide (then_below B7.out b8 (Nat.le_refl _))
    clear b8
    go_wp2_with fail
    refine (rupdate_any x _ bs _ (HV.out.below B8.out) HL.out).mono ?_
    rintro e w9 ⟨rfl, hw⟩
    subst hw
    generalize Crc32.update x bs = up at *
    go_wp2_with fail
    refine (mask_any x _).mono ?_
    rintro e w9 ⟨rfl, hw⟩
    subst hw
    go_wp2_with fail
    refine (rmask_any x _).mono ?_
    rintro e w9 ⟨rfl, hw⟩
    subst hw
    generalize mask x = mk at *
    go_wp2_with fail
    refine (unmask_any x _).mono ?_
    rintro e w9 ⟨rfl, hw⟩
    subst hw
    go_wp2_with fail
    refine (runmask_any x _).mono ?_
    rintro e w9 ⟨rfl, hw⟩
    subst hw
    generalize unmask x = um at *
    go_wp2_with fail
    go_ret
    exact ⟨rfl, B8.out⟩
  · have hgt : (3000 : Int) < (bs.length : Int) := by omega
    go_enter Tryd.func4, Tryd.ntmps4
    go_wp2_with fail
    refine (lives_any _ HW.out).mono ?_
    rintro e w1 ⟨rfl, b1⟩
    go_wp2_with fail
    go_ret
    exact ⟨rfl, b1⟩

end Go.Proofs.YtmhahapmjpbocaaDoor
