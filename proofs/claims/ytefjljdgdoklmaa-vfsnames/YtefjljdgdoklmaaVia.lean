/-
  Sync, Append and Read go through the guard with a closure over the file of the name.
-/
import Derived.Test.YtefjljdgdoklmaaCln
namespace Go.Proofs.Ytefjljdgdoklmaa
open Go.RowKit Go.Maps

/-- The closure of onFile, with its three variables. -/
def OnVars (w : World) (q : Nat) (p : Option Addr) (name : ByteArray) (M : Nat) (caps : Array Value) : Prop :=
  w.cell? ⟨q, 0, none⟩ = some (.pointer p) ∧ w.cell? ⟨q + 1, 0, none⟩ = some (.string name) ∧ w.cell? ⟨q + 2, 0, none⟩ = some (.func (.func M) #[] caps)
def onVal (q : Nat) : Value := .func (.func 73) #[] #[.pointer (some ⟨q, 0, none⟩), .pointer (some ⟨q + 1, 0, none⟩), .pointer (some ⟨q + 2, 0, none⟩)]

set_option maxRecDepth 100000 in
set_option maxHeartbeats 1000000 in
theorem sync_via (p : Option Addr) (name : ByteArray) (w : World) (R : Ending → World → Prop)
    (HR : ∀ w1, Turns (fun _ => False) w w1 → OnVars w1 w.heap.size p name 48 #[] → Calls Try.prog 36 #[.pointer p, .bool (goodN name), onVal w.heap.size] w1 fun e w' => ∃ z : Int, e = .returned (.int .i64 z) ∧ R (.returned (.int .i64 z)) w') :
    Calls Try.prog 14 #[.pointer p, .string name] w R := by
  have HRR := hide HR
  clear HR
  go_enter Try.func14, Try.ntmps14
  go_wp2_with fail
  refine (name_any name _).mono ?_
  rintro e w1 ⟨rfl, rfl⟩
  go_wp2_with fail
  refine (onFile_any p name 48 #[] _).mono ?_
  rintro e w2 ⟨rfl, h0, h1, h2, ht⟩
  have HV : Hid (OnVars w2 w1.heap.size p name 48 #[]) := ⟨h0, h1, h2⟩
  have HT := hide ht
  clear h0 h1 h2 ht
  go_wp2_with fail
  refine (HRR.out w2 HT.out HV.out).mono ?_
  rintro e w3 ⟨z, rfl, hz⟩
  have HZ := hide hz
  clear hz
  go_wp2_with fail
  exact HZ.out

set_option maxRecDepth 100000 in
set_option maxHeartbeats 4000000 in
theorem append_via (p : Option Addr) (name : ByteArray) (a : Option Addr) (n c : Nat) (w : World) (R : Ending → World → Prop)
    (HR : ∀ w1, Turns (fun _ => False) w w1 → w1.cell? ⟨w.heap.size, 0, none⟩ = some (.pointer p) → w1.cell? ⟨w.heap.size + 1, 0, none⟩ = some (.slice a n c) → OnVars w1 (w.heap.size + 2) p name 40 #[.pointer (some ⟨w.heap.size + 1, 0, none⟩), .pointer (some ⟨w.heap.size, 0, none⟩)] →
      Calls Try.prog 36 #[.pointer p, .bool (goodN name), onVal (w.heap.size + 2)] w1 fun e w' => ∃ z : Int, e = .returned (.int .i64 z) ∧ R (.returned (.int .i64 z)) w' ∧ Turns (fun k => k < w.heap.size) w1 w') :
    Calls Try.prog 10 #[.pointer p, .string name, .slice a n c] w R := by
  have hmf := makeF
  have HRR := hide HR
  clear HR
  have hT : Turns (fun _ => False) w ((w.alloc (.cells #[.pointer p] 22)).alloc (.cells #[.slice a n c] 28)) := ((Turns.refl _ w).alloc _).alloc _
  have x0 : ((w.alloc (.cells #[.pointer p] 22)).alloc (.cells #[.slice a n c] 28)).cell? ⟨w.heap.size, 0, none⟩ = some (.pointer p) := cell_of_row _ _ 0 _ 22 (0, 0) ((heap_alloc_old _ _ (by simp)).trans (heap_alloc_new w _))
  have x1 : ((w.alloc (.cells #[.pointer p] 22)).alloc (.cells #[.slice a n c] 28)).cell? ⟨w.heap.size + 1, 0, none⟩ = some (.slice a n c) := cell_of_row _ _ 0 _ 28 (0, 0) (heap_alloc2_new w _ _)
  have hs1 : ((w.alloc (.cells #[.pointer p] 22)).alloc (.cells #[.slice a n c] 28)).heap.size = w.heap.size + 2 := by simp
  have HT := hide hT
  clear hT
  go_enter Try.func10, Try.ntmps10
  go_wp2_with fail
  generalize (w.alloc (.cells #[.pointer p] 22)).alloc (.cells #[.slice a n c] 28) = w1 at *
  generalize hpf : w.heap.size = pf at *
  have hs2 : w1.drew.heap.size = pf + 2 := hs1
  go_region_held (fun w' => w'.cell? ⟨pf, 0, none⟩ = some (.pointer p)) (first | (with_reducible exact f1) | (with_reducible exact f0) | (simp only [World.cell?_drew]; with_reducible exact x0)) (first
    | (go_at_call 22; refine (name_any name _).mono ?_; rintro e w2 ⟨rfl, rfl⟩)
    | (go_at_call 39; refine (onFile_any p name 40 _ _).mono ?_; rintro e w4 ⟨rfl, h0, h1, h2, ht⟩; rw [hs2] at h0 h1 h2 ⊢; have f0 := ht.cell (a := w1.drew) x0 (fun x => x); have g1 := ht.cell (a := w1.drew) x1 (fun x => x); have HV : Hid (OnVars w4 (pf + 2) p name 40 _) := ⟨h0, h1, h2⟩; have HT4 := hide (HT.out.drew.trans ht); clear h0 h1 h2 ht)
    | (go_at_call 36; refine (HRR.out _ HT4.out f0 g1 HV.out).mono ?_; rintro e w3 ⟨z, rfl, hz, ht⟩; have HZ := hide hz; have f1 := ht.cell f0 (Nat.lt_irrefl _); clear hz ht))
  all_goals go_wp2_with fail
  all_goals exact HZ.out

set_option maxRecDepth 100000 in
set_option maxHeartbeats 4000000 in
theorem read_via (p : Option Addr) (name : ByteArray) (at' n : Int) (w : World) (R : Ending → World → Prop)
    (HR : ∀ w1, Turns (fun _ => False) w w1 → w1.cell? ⟨w.heap.size, 0, none⟩ = some (.int .i64 at') → w1.cell? ⟨w.heap.size + 1, 0, none⟩ = some (.int .i64 n) → w1.heap[w.heap.size + 2]? = some (.cells #[.slice none 0 0] 28 (0, 0)) → OnVars w1 (w.heap.size + 3) p name 52 #[.pointer (some ⟨w.heap.size, 0, none⟩), .pointer (some ⟨w.heap.size + 1, 0, none⟩), .pointer (some ⟨w.heap.size + 2, 0, none⟩)] →
      Calls Try.prog 36 #[.pointer p, .bool (goodN name), onVal (w.heap.size + 3)] w1 fun e w' => ∃ (z : Int) (v : Value), e = .returned (.int .i64 z) ∧ w'.cell? ⟨w.heap.size + 2, 0, none⟩ = some v ∧ R (.returned (.tuple #[v, .int .i64 z])) w') (h1 : 0 ≤ at') (h2 : 0 ≤ n) :
    Calls Try.prog 20 #[.pointer p, .string name, .int .i64 at', .int .i64 n] w R := by
  have hmf := makeF
  have HRR := hide HR
  clear HR
  have hT : Turns (fun _ => False) w (((w.alloc (.cells #[.int .i64 at'] 3)).alloc (.cells #[.int .i64 n] 3)).alloc (.cells #[.slice none 0 0] 28)) := (((Turns.refl _ w).alloc _).alloc _).alloc _
  have x0 : (((w.alloc (.cells #[.int .i64 at'] 3)).alloc (.cells #[.int .i64 n] 3)).alloc (.cells #[.slice none 0 0] 28)).cell? ⟨w.heap.size, 0, none⟩ = some (.int .i64 at') := cell_of_row _ _ 0 _ 3 (0, 0) ((heap_alloc_old _ _ (by simp; omega)).trans ((heap_alloc_old _ _ (by simp)).trans (heap_alloc_new w _)))
  have x1 : (((w.alloc (.cells #[.int .i64 at'] 3)).alloc (.cells #[.int .i64 n] 3)).alloc (.cells #[.slice none 0 0] 28)).cell? ⟨w.heap.size + 1, 0, none⟩ = some (.int .i64 n) := cell_of_row _ _ 0 _ 3 (0, 0) ((heap_alloc_old _ _ (by simp)).trans (heap_alloc2_new w _ _))
  have x2 : (((w.alloc (.cells #[.int .i64 at'] 3)).alloc (.cells #[.int .i64 n] 3)).alloc (.cells #[.slice none 0 0] 28)).heap[w.heap.size + 2]? = some (.cells #[.slice none 0 0] 28 (0, 0)) := by
    have := heap_alloc_new ((w.alloc (.cells #[.int .i64 at'] 3)).alloc (.cells #[.int .i64 n] 3)) (.cells #[.slice none 0 0] 28)
    rwa [show ((w.alloc (.cells #[.int .i64 at'] 3)).alloc (.cells #[.int .i64 n] 3)).heap.size = w.heap.size + 2 by simp] at this
  have hs1 : (((w.alloc (.cells #[.int .i64 at'] 3)).alloc (.cells #[.int .i64 n] 3)).alloc (.cells #[.slice none 0 0] 28)).heap.size = w.heap.size + 3 := by simp
  have HT := hide hT
  have X2 := hide x2
  clear hT x2
  go_enter Try.func20, Try.ntmps20
  go_wp2_with fail
  generalize ((w.alloc (.cells #[.int .i64 at'] 3)).alloc (.cells #[.int .i64 n] 3)).alloc (.cells #[.slice none 0 0] 28) = w1 at *
  generalize hpf : w.heap.size = pf at *
  refine (name_any name _).mono ?_
  rintro e w2 ⟨rfl, rfl⟩
  cases hgn : goodN name with
  | false =>
    rw [hgn] at HRR
    go_wp2_with fail
    refine (onFile_any p name 52 _ _).mono ?_
    rintro e w4 ⟨rfl, k0, k1, k2, ht⟩
    rw [hs1] at k0 k1 k2 ⊢
    have HV : Hid (OnVars w4 (pf + 3) p name 52 _) := ⟨k0, k1, k2⟩
    have HC := hide (HRR.out w4 (HT.out.trans ht) (ht.cell x0 (fun x => x)) (ht.cell x1 (fun x => x)) (ht.heap X2.out (fun x => x)) HV.out)
    clear k0 k1 k2 ht
    go_wp2_with fail
    refine HC.out.mono ?_
    rintro e w5 ⟨z, v, rfl, hc, hz⟩
    have HZ := hide hz
    clear hz
    go_wp2_with fail
    exact HZ.out
  | true =>
    rw [hgn] at HRR
    go_wp2_with fail
    refine (onFile_any p name 52 _ _).mono ?_
    rintro e w4 ⟨rfl, k0, k1, k2, ht⟩
    rw [hs1] at k0 k1 k2 ⊢
    have HV : Hid (OnVars w4 (pf + 3) p name 52 _) := ⟨k0, k1, k2⟩
    have HC := hide (HRR.out w4 (HT.out.trans ht) (ht.cell x0 (fun x => x)) (ht.cell x1 (fun x => x)) (ht.heap X2.out (fun x => x)) HV.out)
    clear k0 k1 k2 ht
    go_wp2_with fail
    refine HC.out.mono ?_
    rintro e w5 ⟨z, v, rfl, hc, hz⟩
    have HZ := hide hz
    clear hz
    go_wp2_with fail
    exact HZ.out

set_option maxRecDepth 100000 in
set_option maxHeartbeats 1000000 in
theorem size_none (f b n : Nat) (D : DataW Unit) (name : ByteArray) (w : World) (h2 : w.cell? ⟨f, 1, none⟩ = some (.map (some b))) (hd : Dir w b n D) (hs : name.size ≤ maxLen) (hg : fileOf D name = none) :
    Calls Try.prog 31 #[.pointer (some ⟨f, 0, none⟩), .string name] w fun e w' => e = .returned (.int .i64 (-1)) ∧ w' = w := by
  have hl := hd.look' name hs
  rw [hg] at hl
  simp only [ptrOf] at hl
  clear hd hg
  go_enter Try.func31, Try.ntmps31
  go_wp2_with fail
  refine (made_yes f b _ h2).mono ?_
  rintro e w1 ⟨rfl, rfl⟩
  go_wp2_with fail
  go_ret
  exact ⟨rfl, rfl⟩
end Go.Proofs.Ytefjljdgdoklmaa
