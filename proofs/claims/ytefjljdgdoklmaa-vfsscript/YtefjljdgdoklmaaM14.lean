import Derived.Test.YtefjljdgdoklmaaM08
import Derived.Test.YtefjljdgdoklmaaM05
/-
  The names of a directory, rising.
-/
namespace Go.Proofs.Ytefjljdgdoklmaa
open Go.RowKit Go.Maps Go.Sort

set_option maxRecDepth 100000 in
set_option maxHeartbeats 1000000 in
theorem rising_any (b n : Nat) (D : DataW Unit) (w : World) (hd : Dir w b n D) (hn : n ≤ 1000000000) :
    Calls Try.prog 45 #[.map (some b)] w fun e w' => ∃ (v : Value) (ss : List (List UInt8)), e = .returned v ∧ ss.Perm (strKeys D) ∧
      w'.ownsRow (w.heap.size + 1) 9 1 v ss.length ((ss.mergeSort (fun x y => decide (x ≤ y))).map encStr) ∧ (v = .slice none 0 0 ↔ ss = []) ∧ Below w.heap.size w w' := by
  have hsz := World.ownsMap.size_le hd
  have hsorted := callsIn_wide.1 (Try.slices_Sorted_keys_75_76 b n D ptrR w hd (by unfold maxLen; omega) (by omega))
  have HS := hide hsorted
  have hb1 : Below w.heap.size w (w.alloc (.cells #[.map (some b)] 53)) := (Below.refl _ _).alloc (Nat.le_refl _) _
  have e1 : (w.alloc (.cells #[.map (some b)] 53)).heap.size = w.heap.size + 1 := by simp
  clear hsorted hd hsz
  go_enter Try.func45, Try.ntmps45
  go_wp2_with fail
  refine (callsIn_wide.1 (Try.maps_Keys_76 (some b) w)).mono ?_
  rintro e w1 ⟨rfl, rfl⟩
  go_wp2_with fail
  refine HS.out.mono ?_
  rintro e w2 ⟨v, ss, rfl, h1, h2, h3, h4⟩
  rw [e1] at h2
  have H2 := hide h2
  have H1 := hide h1
  have H3 := hide h3
  have H4 := hide (then_below hb1 h4 (Nat.le_refl _))
  clear h1 h2 h3 h4 hb1 e1
  go_wp2_with fail
  go_ret
  exact ⟨v, ss, rfl, H1.out, H2.out, H3.out, H4.out⟩
end Go.Proofs.Ytefjljdgdoklmaa
