/-
  What the laws share: Pick, Own.
-/
import Derived.Test.YtjnpendihdlgnaaR8
namespace Go.Proofs.Ytjnpendihdlgnaa
open Go.RowKit
set_option maxRecDepth 100000
set_option maxHeartbeats 4000000
theorem pick_any (n : Int) (M : Nat) (hM : 0 < M) (hM2 : M ≤ 1000000) (w : World) : Calls Try.prog 29 #[.int .i64 n, .int .i64 (M : Nat)] w fun e w' => ∃ p : Nat, p < M ∧ e = .returned (.int .i64 (p : Nat)) ∧ w' = w := by
  have h1 : n.tmod M < M := Int.tmod_lt_of_pos n (by omega)
  have h2 : -(M : Int) < n.tmod M := by
    have h3 := Int.tmod_lt_of_pos (-n) (b := (M : Int)) (by omega)
    rw [Int.neg_tmod] at h3
    omega
  have hM0 : ¬ (M : Int) = 0 := by omega
  have hM1 : ¬ M = 0 := by omega
  generalize hm : n.tmod (M : Int) = m at *
  by_cases h0 : 0 ≤ m
  · have h4 : ¬ m < 0 := by omega
    go_enter Try.func29, Try.ntmps29
    go_wp2_with fail
    go_ret
    exact ⟨m.toNat, by omega, by rw [Int.toNat_of_nonneg h0]; rfl, rfl⟩
  · have h4 : m < 0 := by omega
    go_enter Try.func29, Try.ntmps29
    go_wp2_with fail
    go_ret
    exact ⟨(m + M).toNat, by omega, by rw [Int.toNat_of_nonneg (by omega)]; rfl, rfl⟩
theorem own_any (a : Option Addr) (n c : Nat) (bs : List (BitVec 8)) (w : World) (h : Bytes w (.slice a n c) bs) (hn : n ≤ 1000000) :
    Calls Try.prog 53 #[.slice a n c] w fun e w' => ∃ g c', e = .returned (.slice (some ⟨g, 0, none⟩) n c') ∧ w.heap.size ≤ g ∧ n ≤ c' ∧ RowB w' g c' bs ∧ Below w.heap.size w w' := by
  have hl := h.len
  have hb : Below w.heap.size w (w.alloc (.cells #[] 5)) := (Below.refl _ _).alloc (Nat.le_refl _) _
  obtain ⟨g, c2, w2, hr, hg, hrow, hb2, hc, _⟩ := append_bytes2 (w.alloc (.cells #[] 5)) w.heap.size (some ⟨w.heap.size, 0, none⟩) 0 0 [] rfl (.slice a n c) bs n hl (h.below hb) (by simp)
    (.inr ⟨_, rfl, Nat.le_refl _, Nat.le_refl _, #[], heap_alloc_new w _, Nat.le_refl _, fun k hk => by simp [cellsOf] at hk⟩) (by omega)
  rw [Nat.zero_add] at hr hc
  rw [List.nil_append] at hrow
  have HR := hide hr
  have HW := hide hrow
  have HB := hide (hb.trans hb2)
  clear hr hrow hb hb2 h hl
  go_enter Try.func53, Try.ntmps53
  go_wp2_with (at_builtin; refine wpList_append_run rfl _ _ 22 rfl (.slice (some ⟨w.heap.size, 0, none⟩) 0 0) (.slice a n c) rfl rfl _ _ (HR.out _) ?_)
  go_ret
  exact ⟨g, c2, rfl, hg, hc, HW.out, HB.out⟩
end Go.Proofs.Ytjnpendihdlgnaa
