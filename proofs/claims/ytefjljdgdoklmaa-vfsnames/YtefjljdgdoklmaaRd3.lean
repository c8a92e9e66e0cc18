/-
  Read goes through the guard, whatever its numbers are.
-/
import Derived.Test.YtefjljdgdoklmaaRd2
namespace Go.Proofs.Ytefjljdgdoklmaa
open Go.RowKit Go.Maps

set_option maxRecDepth 100000 in
set_option maxHeartbeats 4000000 in
theorem read_via_all (p : Option Addr) (name : ByteArray) (at' n : Int) (w : World) (R : Ending → World → Prop)
    (HR : ∀ w1, Turns (fun _ => False) w w1 → w1.cell? ⟨w.heap.size, 0, none⟩ = some (.int .i64 at') → w1.cell? ⟨w.heap.size + 1, 0, none⟩ = some (.int .i64 n) → w1.heap[w.heap.size + 2]? = some (.cells #[.slice none 0 0] 28 (0, 0)) → OnVars w1 (w.heap.size + 3) p name 52 #[.pointer (some ⟨w.heap.size, 0, none⟩), .pointer (some ⟨w.heap.size + 1, 0, none⟩), .pointer (some ⟨w.heap.size + 2, 0, none⟩)] →
      Calls Try.prog 36 #[.pointer p, .bool (goodN name && decide (0 ≤ at') && decide (0 ≤ n)), onVal (w.heap.size + 3)] w1 fun e w' => ∃ (z : Int) (v : Value), e = .returned (.int .i64 z) ∧ w'.cell? ⟨w.heap.size + 2, 0, none⟩ = some v ∧ R (.returned (.tuple #[v, .int .i64 z])) w') :
    Calls Try.prog 20 #[.pointer p, .string name, .int .i64 at', .int .i64 n] w R := by
  have hmf := makeF
  have HRR := hide HR
  clear HR
  have hT : Turns (fun _ => False) w (((w.alloc (.cells #[.int .i64 at'] 3)).alloc (.cells #[.int .i64 n] 3)).alloc (.cells #[.slice none 0 0] 28)) := (((Turns.refl _ w).alloc _).alloc _).alloc _
  have x0 : (((w.alloc (.cells #[.int .i64 at'] 3)).alloc (.cells #[.int .i64 n] 3)).alloc (.cells #[.slice none 0 0] 28)).cell? ⟨w.heap.size, 0, none⟩ = some (.int .i64 at') := cell_of_row _ _ 0 _ 3 (0, 0) ((heap_alloc_old _ _ (by simp; omega)).trans ((heap_alloc_old _ _ (by simp)).trans (heap_alloc_new w _)))
  have x1 : (((w.alloc (.cells #[.int .i64 at'] 3)).alloc (.cells #[.int .i64 n] 3)).alloc (.cells #[.slice none 0 0] 28)).cell? ⟨w.heap.size + 1, 0, none⟩ = some (.int .i64 n) := cell_of_row _ _ 0 _ 3 (0, 0) ((heap_alloc_old _ _ (by simp)).trans (heap_alloc2_new w _ _))
  have x2 : (((w.alloc (.cells #[.int .i64 at'] 3)).alloc (.cells #[.int .i64 n] 3)).alloc (.cells #[.slice none 0 0] 28)).heap[w.heap.size + 2]? = some (.cells #[.slice none 0 0] 28 (0, 0)) := by
    have := heap_alloc_new ((w.alloc (.cells #[.int .i64 at'] 3)).alloc (.cells #[.int .i64 n] 3)) (.cells #[.slice none 0 0] 28)
    rwa [show ((w.alloc (.cells #[.int .i64 at'] 3)).alloc (.cells #[.int .i64 n] 3)).heap.size = w.heap.size + 2 by simp] at this
  have hs1 : (((w.alloc (.cells #[.int .i64 at'] 3)).alloc (.cells #[.int .i64 n] 3)).alloc (.cells #[.slice none 0 0] 28)).heap.size = w.heap.size + 3 := by simp
  have HT := hide hT
  have X2 := hide x2
  clear hT x2
  go_enter Try.func20, Try.ntmps20
  go_wp2_with fail
  generalize ((w.alloc (.cells #[.int .i64 at'] 3)).alloc (.cells #[.int .i64 n] 3)).alloc (.cells #[.slice none 0 0] 28) = w1 at *
  generalize hpf : w.heap.size = pf at *
  refine (name_any name _).mono ?_
  rintro e w2 ⟨rfl, rfl⟩
  have hcase : goodN name = false ∨ (goodN name = true ∧ at' < 0) ∨ (goodN name = true ∧ ¬ at' < 0 ∧ n < 0) ∨ (goodN name = true ∧ ¬ at' < 0 ∧ ¬ n < 0) := by
    cases goodN name
    · exact .inl rfl
    · by_cases h1 : at' < 0
      · exact .inr (.inl ⟨rfl, h1⟩)
      · by_cases h2 : n < 0
        · exact .inr (.inr (.inl ⟨rfl, h1, h2⟩))
        · exact .inr (.inr (.inr ⟨rfl, h1, h2⟩))
  rcases hcase with e1 | ⟨e1, e2⟩ | ⟨e1, e2, e3⟩ | ⟨e1, e2, e3⟩
  · rw [e1, Bool.false_and, Bool.false_and] at HRR
    rw [e1]
    go_wp2_with fail
    refine (onFile_any p name 52 _ _).mono ?_
    rintro e w4 ⟨rfl, k0, k1, k2, ht⟩
    rw [hs1] at k0 k1 k2 ⊢
    have HV : Hid (OnVars w4 (pf + 3) p name 52 _) := ⟨k0, k1, k2⟩
    have HC := hide (HRR.out w4 (HT.out.trans ht) (ht.cell x0 (fun x => x)) (ht.cell x1 (fun x => x)) (ht.heap X2.out (fun x => x)) HV.out)
    clear k0 k1 k2 ht
    go_wp2_with fail
    refine HC.out.mono ?_
    rintro e w5 ⟨z, v, rfl, hc, hz⟩
    have HZ := hide hz
    clear hz
    go_wp2_with fail
    exact HZ.out
  · rw [e1, Bool.true_and, decide_eq_false (by omega), Bool.false_and] at HRR
    rw [e1]
    go_wp2_with fail
    refine (onFile_any p name 52 _ _).mono ?_
    rintro e w4 ⟨rfl, k0, k1, k2, ht⟩
    rw [hs1] at k0 k1 k2 ⊢
    have HV : Hid (OnVars w4 (pf + 3) p name 52 _) := ⟨k0, k1, k2⟩
    have HC := hide (HRR.out w4 (HT.out.trans ht) (ht.cell x0 (fun x => x)) (ht.cell x1 (fun x => x)) (ht.heap X2.out (fun x => x)) HV.out)
    clear k0 k1 k2 ht
    go_wp2_with fail
    refine HC.out.mono ?_
    rintro e w5 ⟨z, v, rfl, hc, hz⟩
    have HZ := hide hz
    clear hz
    go_wp2_with fail
    exact HZ.out
  · rw [e1, Bool.true_and, decide_eq_true (by omega), Bool.true_and, decide_eq_false (by omega)] at HRR
    rw [e1]
    go_wp2_with fail
    refine (onFile_any p name 52 _ _).mono ?_
    rintro e w4 ⟨rfl, k0, k1, k2, ht⟩
    rw [hs1] at k0 k1 k2 ⊢
    have HV : Hid (OnVars w4 (pf + 3) p name 52 _) := ⟨k0, k1, k2⟩
    have HC := hide (HRR.out w4 (HT.out.trans ht) (ht.cell x0 (fun x => x)) (ht.cell x1 (fun x => x)) (ht.heap X2.out (fun x => x)) HV.out)
    clear k0 k1 k2 ht
    go_wp2_with fail
    rw [decide_eq_false (show ¬ 0 ≤ n by omega)]
    refine HC.out.mono ?_
    rintro e w5 ⟨z, v, rfl, hc, hz⟩
    have HZ := hide hz
    clear hz
    go_wp2_with fail
    exact HZ.out
  · rw [e1, Bool.true_and, decide_eq_true (by omega), Bool.true_and, decide_eq_true (by omega)] at HRR
    rw [e1]
    go_wp2_with fail
    refine (onFile_any p name 52 _ _).mono ?_
    rintro e w4 ⟨rfl, k0, k1, k2, ht⟩
    rw [hs1] at k0 k1 k2 ⊢
    have HV : Hid (OnVars w4 (pf + 3) p name 52 _) := ⟨k0, k1, k2⟩
    have HC := hide (HRR.out w4 (HT.out.trans ht) (ht.cell x0 (fun x => x)) (ht.cell x1 (fun x => x)) (ht.heap X2.out (fun x => x)) HV.out)
    clear k0 k1 k2 ht
    go_wp2_with fail
    refine HC.out.mono ?_
    rintro e w5 ⟨z, v, rfl, hc, hz⟩
    have HZ := hide hz
    clear hz
    go_wp2_with fail
    exact HZ.out
end Go.Proofs.Ytefjljdgdoklmaa
