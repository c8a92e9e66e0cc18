/-
  What a crash leaves of a file, whatever its bytes.
-/
import Derived.Test.YtefjljdgdoklmaaFcr
import Derived.Test.YtefjljdgdoklmaaOne4
import Derived.Test.YtefjljdgdoklmaaDsk
namespace Go.Proofs.Ytefjljdgdoklmaa
open Go.RowKit Go.Maps

set_option maxRecDepth 100000 in
set_option maxHeartbeats 1000000 in
theorem fcrash_nil (g : Nat) (keep : Int) (w : World) (h : w.heap[g]? = some (.cells #[.slice none 0 0, .int .i64 0] 70 (0, 0))) (k1 : keep ≤ 9223372036854775807) (k2 : -9223372036854775808 ≤ keep) :
    Calls Try.prog 46 #[.pointer (some ⟨g, 0, none⟩), .int .i64 keep] w fun e w' => (∃ v, e = .returned v) ∧ w'.heap[g]? = some (.cells #[.slice none 0 0, .int .i64 0] 70 (0, 0)) ∧ Turns (fun j => j = g) w w' := by
  have c0 : w.cell? ⟨g, 0, none⟩ = some (.slice none 0 0) := cell_of_row w g 0 _ 70 (0, 0) h
  have c1 : w.cell? ⟨g, 1, none⟩ = some (.int .i64 0) := cell_of_row w g 1 _ 70 (0, 0) h
  have z0 : w.frozen? ⟨g, 0, none⟩ = false := frozen_of_row w g 0 _ 70 h
  have hmod : max keep 0 % (0 + 1) = 0 := by omega
  have hw0 : IntKind.i64.wrap 0 = 0 := wrapI 0 (by decide) (by decide)
  have H := hide h
  clear h
  go_enter Try.func46, Try.ntmps46
  go_wp2_with fail
  go_still_tail 25, (by kernel_rfl)
  still_call (within_any keep 0 _ (by omega) (by omega) k1 k2)
  rw [hmod]
  repeat still_step
  refine wpStill_nil ?_
  have t1 : Tick w (({ w with drawn := w.drawn + 1 } : World).setCell ⟨g, 0, none⟩ (.slice none 0 0)) g 70 #[.slice none 0 0, .int .i64 0] := ((Tick.refl H.out).drew).set 0 (.slice none 0 0)
  have T1 := hide t1
  have z0' : ({ w with drawn := w.drawn + 1 } : World).frozen? ⟨g, 0, none⟩ = false := z0
  have c0' : ({ w with drawn := w.drawn + 1 } : World).cell? ⟨g, 0, none⟩ = some (.slice none 0 0) := c0
  clear t1
  go_wp2_with fail
  refine (sync_any g 0 0 none 0 (w.setCell ⟨g, 0, none⟩ (.slice none 0 0)).drew T1.out.1).mono ?_
  rintro e w2 ⟨⟨v, rfl⟩, t2⟩
  have T2 := hide t2
  have U2 : Hid (Turns (fun j => j = g) w w2) := (Turns.of_tick (w' := (w.setCell ⟨g, 0, none⟩ (.slice none 0 0)).drew) T1.out).trans (Turns.of_tick t2)
  clear t2
  go_wp2_with fail
  go_end0
  exact ⟨⟨_, rfl⟩, T2.out.1, U2.out⟩

/-- How many bytes a crash leaves. -/
def crashN (x : Fil) (k : Int) : Nat := x.synced + (max k 0 % ((x.bytes.length : Int) - x.synced + 1)).toNat
def Fil.crash (x : Fil) (k : Int) : Fil := ⟨x.bytes.take (crashN x k), crashN x k⟩
theorem crashN_le (x : Fil) (k : Int) (h : x.synced ≤ x.bytes.length) : crashN x k ≤ x.bytes.length := by
  unfold crashN
  have e2 := Int.emod_lt_of_pos (max k 0) (show (0 : Int) < (x.bytes.length : Int) - x.synced + 1 by omega)
  have e1 := Int.emod_nonneg (max k 0) (show (x.bytes.length : Int) - x.synced + 1 ≠ 0 by omega)
  omega

theorem fcrash_all (g : Nat) (v : Value) (x : Fil) (keep : Int) (w : World) (h : w.heap[g]? = some (.cells #[v, .int .i64 (x.synced : Nat)] 70 (0, 0))) (hown : OwnB w v x.bytes) (h1 : x.synced ≤ x.bytes.length) (h3 : x.bytes.length ≤ 1073741824) (k1 : keep ≤ 9223372036854775807) (k2 : -9223372036854775808 ≤ keep) :
    Calls Try.prog 46 #[.pointer (some ⟨g, 0, none⟩), .int .i64 keep] w fun e w' => (∃ v, e = .returned v) ∧ ∃ a m c, w'.heap[g]? = some (.cells #[.slice a m c, .int .i64 ((x.crash keep).synced : Nat)] 70 (0, 0)) ∧ OwnB w' (.slice a m c) (x.crash keep).bytes ∧ m = (x.crash keep).bytes.length ∧ (∀ k, inRow (.slice a m c) k → inRow v k) ∧ Turns (fun j => j = g) w w' := by
  rcases id hown with ⟨hb, rfl⟩ | ⟨k, c, n, rfl, rfl, hc, hrow⟩
  · have hs : x.synced = 0 := by rw [hb] at h1; simpa using h1
    have hcr : x.crash keep = ⟨[], 0⟩ := by
      unfold Fil.crash
      have : crashN x keep = 0 := by
        have := crashN_le x keep h1
        rw [hb] at this
        simpa using this
      rw [this, hb]
      rfl
    rw [hs] at h
    refine (fcrash_nil g keep w h k1 k2).mono ?_
    rintro e w' ⟨he, h4, t⟩
    rw [hcr]
    exact ⟨he, none, 0, 0, h4, .inl ⟨rfl, rfl⟩, rfl, fun k hk => hk, t⟩
  · refine (fcrash_any g x.bytes.length c x.synced k keep w h h1 hc h3 k1 k2).mono ?_
    rintro e w' ⟨he, N, n1, n2, n3, t⟩
    have hN : crashN x keep = N := by
      unfold crashN
      have e1 := Int.emod_nonneg (max keep 0) (show (x.bytes.length : Int) - x.synced + 1 ≠ 0 by omega)
      omega
    have hkg : k ≠ g := fun e => by
      obtain ⟨cs, h5, _⟩ := hrow
      rw [e] at h5
      exact absurd (one_type h h5) (by decide)
    have hrow' : RowB w' k c x.bytes := by
      obtain ⟨cs, h5, h6, h7⟩ := hrow
      exact ⟨cs, t.heap h5 hkg, h6, h7⟩
    unfold Fil.crash
    rw [hN]
    refine ⟨he, _, N, c, n3, .inr ⟨k, c, N, rfl, by rw [List.length_take]; omega, by omega, hrow'.take N⟩, by rw [List.length_take]; omega, fun q hq => ?_, t⟩
    obtain ⟨_, _, e⟩ := hq
    cases e
    exact ⟨_, _, rfl⟩
end Go.Proofs.Ytefjljdgdoklmaa
