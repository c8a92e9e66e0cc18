import Derived.Test.YtjklbhdhjfifhaaGreatM34
import Derived.Test.YtjklbhdhjfifhaaGreatM46
import Derived.Deep.RegionHeld
import Derived.Deep.Light
/-
  A table's end.
-/
namespace Go.Proofs.YtjklbhdhjfifhaaGreat
open Go.RowKit
set_option maxRecDepth 100000
set_option maxHeartbeats 4000000
theorem readEnd_short (a : Option Addr) (n c : Nat) (z : Int) (w : World) (hn : n ≠ 16) :
    Calls Tryz.prog 54 #[.slice a n c, .int .i64 z] w fun e w' => e = .returned (.tuple #[.int .i64 0, .bool false]) ∧ w' = w := by
  have i1 : ((n : Int) == 16) = false := by simp; omega
  have i2 : ¬ (n : Int) = 16 := by omega
  go_enter Tryz.func54, Tryz.ntmps54
  go_wp2_with fail
  go_returns
  exact ⟨rfl, rfl⟩
theorem readEnd_ok (a : Option Addr) (c : Nat) (x L : Nat) (hx : x ≤ L) (hL : L ≤ 1000000000) (hc : 16 ≤ c) (w : World) (h : Bytes w (.slice a 16 c) (ordB x ++ markB)) :
    Calls Tryz.prog 54 #[.slice a 16 c, .int .i64 (L : Nat)] w fun e w' => e = .returned (.tuple #[.int .i64 (x : Nat), .bool true]) ∧ Below w.heap.size w w' := by
  obtain ⟨b, off, rfl⟩ := h.addr (by omega)
  have hp := h.part 8 8 (c - 8) (show 16 ≤ 16 by omega)
  have hp2 : (((ordB x ++ markB).drop 8).take 8) = markB := rfl
  rw [hp2] at hp
  have cv : (convert 28 9 (.slice (some ⟨b, off + 8, none⟩) 8 (c - 8))).run Tryz.prog w = .ok (.string ⟨#[98, 111, 111, 116, 109, 97, 114, 107]⟩) w := conv_any hp
  have RO := hide (readOrdered_ok (some ⟨b, off, none⟩) 16 c (ordB x ++ markB) w h (by omega) hc (by omega))
  have hn : ordN ((ordB x ++ markB).take 8) = x := by
    rw [show (ordB x ++ markB).take 8 = ordB x from rfl]
    exact ordN_ordB x (by omega)
  rw [hn] at RO
  have c8 : ¬ c = 8 := by omega
  have i1 : ¬ ((L : Int) < (x : Int)) := by omega
  clear h hp hp2 hn
  go_enter Tryz.func54, Tryz.ntmps54
  go_wp2_with fail
  refine RO.out.mono ?_
  rintro e w1 ⟨rfl, m, rfl⟩
  go_wp2_with fail
  go_returns
  exact ⟨rfl, below_drewN (Below.refl _ _) m⟩
end Go.Proofs.YtjklbhdhjfifhaaGreat
