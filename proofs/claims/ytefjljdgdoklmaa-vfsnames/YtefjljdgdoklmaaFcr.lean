/-
  What a crash leaves of a file.
-/
import Derived.Test.YtefjljdgdoklmaaRd1
import Derived.Test.YtefjljdgdoklmaaRis
import Derived.StillTailTactics
namespace Go.Proofs.Ytefjljdgdoklmaa
open Go.RowKit Go.Maps

set_option maxRecDepth 100000 in
set_option maxHeartbeats 4000000 in
theorem fcrash_any (g L c s0 : Nat) (k : Nat) (keep : Int) (w : World) (h : w.heap[g]? = some (.cells #[.slice (some ⟨k, 0, none⟩) L c, .int .i64 (s0 : Nat)] 70 (0, 0))) (h1 : s0 ≤ L) (h2 : L ≤ c) (h3 : L ≤ 1073741824) (k1 : keep ≤ 9223372036854775807) (k2 : -9223372036854775808 ≤ keep) :
    Calls Try.prog 46 #[.pointer (some ⟨g, 0, none⟩), .int .i64 keep] w fun e w' => (∃ v, e = .returned v) ∧ ∃ N : Nat, (N : Int) = s0 + max keep 0 % ((L : Int) - s0 + 1) ∧ N ≤ L ∧ w'.heap[g]? = some (.cells #[.slice (some ⟨k, 0, none⟩) N c, .int .i64 (N : Nat)] 70 (0, 0)) ∧ Turns (fun j => j = g) w w' := by
  have c0 : w.cell? ⟨g, 0, none⟩ = some (.slice (some ⟨k, 0, none⟩) L c) := cell_of_row w g 0 _ 70 (0, 0) h
  have c1 : w.cell? ⟨g, 1, none⟩ = some (.int .i64 (s0 : Nat)) := cell_of_row w g 1 _ 70 (0, 0) h
  have z0 : w.frozen? ⟨g, 0, none⟩ = false := frozen_of_row w g 0 _ 70 h
  obtain ⟨q, hq, hq2⟩ : ∃ q : Nat, (q : Int) = max keep 0 % ((L : Int) - s0 + 1) ∧ q ≤ L - s0 := by
    have e1 := Int.emod_nonneg (max keep 0) (show (L : Int) - s0 + 1 ≠ 0 by omega)
    have e2 := Int.emod_lt_of_pos (max keep 0) (show (0 : Int) < (L : Int) - s0 + 1 by omega)
    exact ⟨(max keep 0 % ((L : Int) - s0 + 1)).toNat, by omega, by omega⟩
  have HQ := hide hq
  have H := hide h
  clear hq h
  have hw1 : IntKind.i64.wrap ((L : Int) - s0) = (L : Int) - s0 := wrapI _ (by omega) (by omega)
  have hw2 : IntKind.i64.wrap ((s0 : Int) + q) = (s0 : Int) + q := wrapI _ (by omega) (by omega)
  have i1 : (s0 : Int) + q ≤ (c : Int) := by omega
  have i0 : (0 : Int) ≤ (s0 : Int) + q := by omega
  go_enter Try.func46, Try.ntmps46
  go_wp2_with fail
  go_still_tail 25, (by kernel_rfl)
  still_call (within_any keep ((L : Int) - s0) _ (by omega) (by omega) k1 k2)
  rw [← HQ.out]
  repeat still_step
  refine wpStill_nil ?_
  have t1 : Tick w (({ w with drawn := w.drawn + 1 } : World).setCell ⟨g, 0, none⟩ (.slice (some ⟨k, 0, none⟩) (s0 + q) c)) g 70 #[.slice (some ⟨k, 0, none⟩) (s0 + q) c, .int .i64 (s0 : Nat)] := ((Tick.refl H.out).drew).set 0 (.slice (some ⟨k, 0, none⟩) (s0 + q) c)
  have T1 := hide t1
  have z0' : ({ w with drawn := w.drawn + 1 } : World).frozen? ⟨g, 0, none⟩ = false := z0
  have c0' : ({ w with drawn := w.drawn + 1 } : World).cell? ⟨g, 0, none⟩ = some (.slice (some ⟨k, 0, none⟩) L c) := c0
  clear t1
  go_wp2_with fail
  refine (sync_any g (s0 + q) (s0 : Nat) _ c (w.setCell ⟨g, 0, none⟩ (.slice (some ⟨k, 0, none⟩) (s0 + q) c)).drew T1.out.1).mono ?_
  rintro e w2 ⟨⟨v, rfl⟩, t2⟩
  have T2 := hide t2
  have U2 : Hid (Turns (fun j => j = g) w w2) := (Turns.of_tick (w' := (w.setCell ⟨g, 0, none⟩ (.slice (some ⟨k, 0, none⟩) (s0 + q) c)).drew) T1.out).trans (Turns.of_tick t2)
  clear t2
  go_wp2_with fail
  go_end0
  exact ⟨⟨_, rfl⟩, s0 + q, by have := HQ.out; omega, by omega, T2.out.1, U2.out⟩
end Go.Proofs.Ytefjljdgdoklmaa
