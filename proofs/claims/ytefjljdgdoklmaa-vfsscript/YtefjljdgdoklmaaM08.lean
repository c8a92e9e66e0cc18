import Derived.Test.YtefjljdgdoklmaaM07
import Derived.Shelf.SlMaps.Clone
/-
  A copy of a directory.
-/
namespace Go.Proofs.Ytefjljdgdoklmaa
open Go.RowKit Go.Maps

theorem map_eql (b : Nat) (w : World) : (binOp .eql 53 (.map (some b)) (.map none)).run Try.prog w = .ok (.bool false) w := by kernel_rfl
theorem assert53 (v : Value) (w : World) : (Instr.typeAssert (.iface 53 v) 20 53 false).run Try.prog w = .ok v w := by kernel_rfl
set_option maxRecDepth 100000 in
set_option maxHeartbeats 1000000 in
theorem mapclone_any (b n : Nat) (D : DataW Unit) (w : World) (hd : Dir w b n D) :
    Calls Try.prog 44 #[.map (some b)] w fun e w' => e = .returned (.map (some w.heap.size)) ∧ Dir w' w.heap.size n D ∧ Turns (fun _ => False) w w' := by
  obtain ⟨es, clock, hb, F, hs, hD⟩ := hd
  have he := fun w => map_eql b w
  have hcf : (callFunc 74 #[.iface 53 (.map (some b))]).run Try.prog w = .ok (.value (.iface 53 (.map (some w.heap.size)))) (w.alloc (.map es clock)) := by
    rw [run_callFunc_extern Try.func74 (by kernel_rfl) (by kernel_rfl) (by kernel_rfl) (e := Extern.MapsClone.clone) (by kernel_rfl), run_maps_clone_sl w 53 hb]
    rfl
  have hta := fun v w => assert53 v w
  have FIN : Hid (Dir (w.alloc (.map es clock)) w.heap.size n D ∧ Turns (fun _ => False) w (w.alloc (.map es clock))) := ⟨⟨es, clock, heap_alloc_new w _, F, hs, hD⟩, (Turns.refl _ w).alloc _⟩
  clear hb F hs hD
  go_enter Try.func44, Try.ntmps44
  go_wp2_with fail
  go_ret
  exact ⟨rfl, FIN.out⟩

end Go.Proofs.Ytefjljdgdoklmaa

/-
  Sync, Append and Read go through the guard with a closure over the file of the name.
-/
namespace Go.Proofs.Ytefjljdgdoklmaa
open Go.RowKit Go.Maps

/-- The closure of onFile, with its three variables. -/
def OnVars (w : World) (q : Nat) (p : Option Addr) (name : ByteArray) (M : Nat) (caps : Array Value) : Prop :=
  w.cell? ⟨q, 0, none⟩ = some (.pointer p) ∧ w.cell? ⟨q + 1, 0, none⟩ = some (.string name) ∧ w.cell? ⟨q + 2, 0, none⟩ = some (.func (.func M) #[] caps)
def onVal (q : Nat) : Value := .func (.func 73) #[] #[.pointer (some ⟨q, 0, none⟩), .pointer (some ⟨q + 1, 0, none⟩), .pointer (some ⟨q + 2, 0, none⟩)]

set_option maxRecDepth 100000 in
set_option maxHeartbeats 1000000 in
theorem sync_via (p : Option Addr) (name : ByteArray) (w : World) (R : Ending → World → Prop)
    (HR : ∀ w1, Turns (fun _ => False) w w1 → OnVars w1 w.heap.size p name 48 #[] → Calls Try.prog 36 #[.pointer p, .bool (goodN name), onVal w.heap.size] w1 fun e w' => ∃ z : Int, e = .returned (.int .i64 z) ∧ R (.returned (.int .i64 z)) w') :
    Calls Try.prog 14 #[.pointer p, .string name] w R := by
  have HRR := hide HR
  clear HR
  go_enter Try.func14, Try.ntmps14
  go_wp2_with fail
  refine (name_any name _).mono ?_
  rintro e w1 ⟨rfl, rfl⟩
  go_wp2_with fail
  refine (onFile_any p name 48 #[] _).mono ?_
  rintro e w2 ⟨rfl, h0, h1, h2, ht⟩
  have HV : Hid (OnVars w2 w1.heap.size p name 48 #[]) := ⟨h0, h1, h2⟩
  have HT := hide ht
  clear h0 h1 h2 ht
  go_wp2_with fail
  refine (HRR.out w2 HT.out HV.out).mono ?_
  rintro e w3 ⟨z, rfl, hz⟩
  have HZ := hide hz
  clear hz
  go_wp2_with fail
  exact HZ.out

set_option maxRecDepth 100000 in
set_option maxHeartbeats 4000000 in
theorem append_via (p : Option Addr) (name : ByteArray) (a : Option Addr) (n c : Nat) (w : World) (R : Ending → World → Prop)
    (HR : ∀ w1, Turns (fun _ => False) w w1 → w1.cell? ⟨w.heap.size, 0, none⟩ = some (.pointer p) → w1.cell? ⟨w.heap.size + 1, 0, none⟩ = some (.slice a n c) → OnVars w1 (w.heap.size + 2) p name 40 #[.pointer (some ⟨w.heap.size + 1, 0, none⟩), .pointer (some ⟨w.heap.size, 0, none⟩)] →
      Calls Try.prog 36 #[.pointer p, .bool (goodN name), onVal (w.heap.size + 2)] w1 fun e w' => ∃ z : Int, e = .returned (.int .i64 z) ∧ R (.returned (.int .i64 z)) w' ∧ Turns (fun k => k < w.heap.size) w1 w') :
    Calls Try.prog 10 #[.pointer p, .string name, .slice a n c] w R := by
  have hmf := makeF
  have HRR := hide HR
  clear HR
  have hT : Turns (fun _ => False) w ((w.alloc (.cells #[.pointer p] 22)).alloc (.cells #[.slice a n c] 28)) := ((Turns.refl _ w).alloc _).alloc _
  have x0 : ((w.alloc (.cells #[.pointer p] 22)).alloc (.cells #[.slice a n c] 28)).cell? ⟨w.heap.size, 0, none⟩ = some (.pointer p) := cell_of_row _ _ 0 _ 22 (0, 0) ((heap_alloc_old _ _ (by simp)).trans (heap_alloc_new w _))
  have x1 : ((w.alloc (.cells #[.pointer p] 22)).alloc (.cells #[.slice a n c] 28)).cell? ⟨w.heap.size + 1, 0, none⟩ = some (.slice a n c) := cell_of_row _ _ 0 _ 28 (0, 0) (heap_alloc2_new w _ _)
  have hs1 : ((w.alloc (.cells #[.pointer p] 22)).alloc (.cells #[.slice a n c] 28)).heap.size = w.heap.size + 2 := by simp
  have HT := hide hT
  clear hT
  go_enter Try.func10, Try.ntmps10
  go_wp2_with fail
  generalize (w.alloc (.cells #[.pointer p] 22)).alloc (.cells #[.slice a n c] 28) = w1 at *
  generalize hpf : w.heap.size = pf at *
  have hs2 : w1.drew.heap.size = pf + 2 := hs1
  go_region_held (fun w' => w'.cell? ⟨pf, 0, none⟩ = some (.pointer p)) (first | (with_reducible exact f1) | (with_reducible exact f0) | (simp only [World.cell?_drew]; with_reducible exact x0)) (first
    | (go_at_call 22; refine (name_any name _).mono ?_; rintro e w2 ⟨rfl, rfl⟩)
    | (go_at_call 39; refine (onFile_any p name 40 _ _).mono ?_; rintro e w4 ⟨rfl, h0, h1, h2, ht⟩; rw [hs2] at h0 h1 h2 ⊢; have f0 := ht.cell (a := w1.drew) x0 (fun x => x); have g1 := ht.cell (a := w1.drew) x1 (fun x => x); have HV : Hid (OnVars w4 (pf + 2) p name 40 _) := ⟨h0, h1, h2⟩; have HT4 := hide (HT.out.drew.trans ht); clear h0 h1 h2 ht)
    | (go_at_call 36; refine (HRR.out _ HT4.out f0 g1 HV.out).mono ?_; rintro e w3 ⟨z, rfl, hz, ht⟩; have HZ := hide hz; have f1 := ht.cell f0 (Nat.lt_irrefl _); clear hz ht))
  all_goals go_wp2_with fail
  all_goals exact HZ.out

set_option maxRecDepth 100000 in
set_option maxHeartbeats 4000000 in
theorem read_via (p : Option Addr) (name : ByteArray) (at' n : Int) (w : World) (R : Ending → World → Prop)
    (HR : ∀ w1, Turns (fun _ => False) w w1 → w1.cell? ⟨w.heap.size, 0, none⟩ = some (.int .i64 at') → w1.cell? ⟨w.heap.size + 1, 0, none⟩ = some (.int .i64 n) → w1.heap[w.heap.size + 2]? = some (.cells #[.slice none 0 0] 28 (0, 0)) → OnVars w1 (w.heap.size + 3) p name 52 #[.pointer (some ⟨w.heap.size, 0, none⟩), .pointer (some ⟨w.heap.size + 1, 0, none⟩), .pointer (some ⟨w.heap.size + 2, 0, none⟩)] →
      Calls Try.prog 36 #[.pointer p, .bool (goodN name), onVal (w.heap.size + 3)] w1 fun e w' => ∃ (z : Int) (v : Value), e = .returned (.int .i64 z) ∧ w'.cell? ⟨w.heap.size + 2, 0, none⟩ = some v ∧ R (.returned (.tuple #[v, .int .i64 z])) w') (h1 : 0 ≤ at') (h2 : 0 ≤ n) :
    Calls Try.prog 20 #[.pointer p, .string name, .int .i64 at', .int .i64 n] w R := by
  have hmf := makeF
  have HRR := hide HR
  clear HR
  have hT : Turns (fun _ => False) w (((w.alloc (.cells #[.int .i64 at'] 3)).alloc (.cells #[.int .i64 n] 3)).alloc (.cells #[.slice none 0 0] 28)) := (((Turns.refl _ w).alloc _).alloc _).alloc _
  have x0 : (((w.alloc (.cells #[.int .i64 at'] 3)).alloc (.cells #[.int .i64 n] 3)).alloc (.cells #[.slice none 0 0] 28)).cell? ⟨w.heap.size, 0, none⟩ = some (.int .i64 at') := cell_of_row _ _ 0 _ 3 (0, 0) ((heap_alloc_old _ _ (by simp; omega)).trans ((heap_alloc_old _ _ (by simp)).trans (heap_alloc_new w _)))
  have x1 : (((w.alloc (.cells #[.int .i64 at'] 3)).alloc (.cells #[.int .i64 n] 3)).alloc (.cells #[.slice none 0 0] 28)).cell? ⟨w.heap.size + 1, 0, none⟩ = some (.int .i64 n) := cell_of_row _ _ 0 _ 3 (0, 0) ((heap_alloc_old _ _ (by simp)).trans (heap_alloc2_new w _ _))
  have x2 : (((w.alloc (.cells #[.int .i64 at'] 3)).alloc (.cells #[.int .i64 n] 3)).alloc (.cells #[.slice none 0 0] 28)).heap[w.heap.size + 2]? = some (.cells #[.slice none 0 0] 28 (0, 0)) := by
    have := heap_alloc_new ((w.alloc (.cells #[.int .i64 at'] 3)).alloc (.cells #[.int .i64 n] 3)) (.cells #[.slice none 0 0] 28)
    rwa [show ((w.alloc (.cells #[.int .i64 at'] 3)).alloc (.cells #[.int .i64 n] 3)).heap.size = w.heap.size + 2 by simp] at this
  have hs1 : (((w.alloc (.cells #[.int .i64 at'] 3)).alloc (.cells #[.int .i64 n] 3)).alloc (.cells #[.slice none 0 0] 28)).heap.size = w.heap.size + 3 := by simp
  have HT := hide hT
  have X2 := hide x2
  clear hT x2
  go_enter Try.func20, Try.ntmps20
  go_wp2_with fail
  generalize ((w.alloc (.cells #[.int .i64 at'] 3)).alloc (.cells #[.int .i64 n] 3)).alloc (.cells #[.slice none 0 0] 28) = w1 at *
  generalize hpf : w.heap.size = pf at *
  refine (name_any name _).mono ?_
  rintro e w2 ⟨rfl, rfl⟩
  cases hgn : goodN name with
  | false =>
    rw [hgn] at HRR
    go_wp2_with fail
    refine (onFile_any p name 52 _ _).mono ?_
    rintro e w4 ⟨rfl, k0, k1, k2, ht⟩
    rw [hs1] at k0 k1 k2 ⊢
    have HV : Hid (OnVars w4 (pf + 3) p name 52 _) := ⟨k0, k1, k2⟩
    have HC := hide (HRR.out w4 (HT.out.trans ht) (ht.cell x0 (fun x => x)) (ht.cell x1 (fun x => x)) (ht.heap X2.out (fun x => x)) HV.out)
    clear k0 k1 k2 ht
    go_wp2_with fail
    refine HC.out.mono ?_
    rintro e w5 ⟨z, v, rfl, hc, hz⟩
    have HZ := hide hz
    clear hz
    go_wp2_with fail
    exact HZ.out
  | true =>
    rw [hgn] at HRR
    go_wp2_with fail
    refine (onFile_any p name 52 _ _).mono ?_
    rintro e w4 ⟨rfl, k0, k1, k2, ht⟩
    rw [hs1] at k0 k1 k2 ⊢
    have HV : Hid (OnVars w4 (pf + 3) p name 52 _) := ⟨k0, k1, k2⟩
    have HC := hide (HRR.out w4 (HT.out.trans ht) (ht.cell x0 (fun x => x)) (ht.cell x1 (fun x => x)) (ht.heap X2.out (fun x => x)) HV.out)
    clear k0 k1 k2 ht
    go_wp2_with fail
    refine HC.out.mono ?_
    rintro e w5 ⟨z, v, rfl, hc, hz⟩
    have HZ := hide hz
    clear hz
    go_wp2_with fail
    exact HZ.out

set_option maxRecDepth 100000 in
set_option maxHeartbeats 1000000 in
theorem size_none (f b n : Nat) (D : DataW Unit) (name : ByteArray) (w : World) (h2 : w.cell? ⟨f, 1, none⟩ = some (.map (some b))) (hd : Dir w b n D) (hs : name.size ≤ maxLen) (hg : fileOf D name = none) :
    Calls Try.prog 31 #[.pointer (some ⟨f, 0, none⟩), .string name] w fun e w' => e = .returned (.int .i64 (-1)) ∧ w' = w := by
  have hl := hd.look' name hs
  rw [hg] at hl
  simp only [ptrOf] at hl
  clear hd hg
  go_enter Try.func31, Try.ntmps31
  go_wp2_with fail
  refine (made_yes f b _ h2).mono ?_
  rintro e w1 ⟨rfl, rfl⟩
  go_wp2_with fail
  go_ret
  exact ⟨rfl, rfl⟩
end Go.Proofs.Ytefjljdgdoklmaa

/-
  Rename and Remove go through the guard with a closure over the file of the name.
-/
namespace Go.Proofs.Ytefjljdgdoklmaa
open Go.RowKit Go.Maps

set_option maxRecDepth 100000 in
set_option maxHeartbeats 4000000 in
theorem remove_via (p : Option Addr) (name : ByteArray) (w : World) (R : Ending → World → Prop)
    (HR : ∀ w1, Turns (fun _ => False) w w1 → w1.cell? ⟨w.heap.size, 0, none⟩ = some (.pointer p) → w1.cell? ⟨w.heap.size + 1, 0, none⟩ = some (.string name) → OnVars w1 (w.heap.size + 2) p name 70 #[.pointer (some ⟨w.heap.size, 0, none⟩), .pointer (some ⟨w.heap.size + 1, 0, none⟩)] →
      Calls Try.prog 36 #[.pointer p, .bool (goodN name), onVal (w.heap.size + 2)] w1 fun e w' => ∃ z : Int, e = .returned (.int .i64 z) ∧ R (.returned (.int .i64 z)) w' ∧ Turns (fun k => k < w.heap.size) w1 w') :
    Calls Try.prog 29 #[.pointer p, .string name] w R := by
  have hmf := makeF
  have HRR := hide HR
  clear HR
  have hT : Turns (fun _ => False) w ((w.alloc (.cells #[.pointer p] 22)).alloc (.cells #[.string name] 9)) := ((Turns.refl _ w).alloc _).alloc _
  have x0 : ((w.alloc (.cells #[.pointer p] 22)).alloc (.cells #[.string name] 9)).cell? ⟨w.heap.size, 0, none⟩ = some (.pointer p) := cell_of_row _ _ 0 _ 22 (0, 0) ((heap_alloc_old _ _ (by simp)).trans (heap_alloc_new w _))
  have x1 : ((w.alloc (.cells #[.pointer p] 22)).alloc (.cells #[.string name] 9)).cell? ⟨w.heap.size + 1, 0, none⟩ = some (.string name) := cell_of_row _ _ 0 _ 9 (0, 0) (heap_alloc2_new w _ _)
  have hs1 : ((w.alloc (.cells #[.pointer p] 22)).alloc (.cells #[.string name] 9)).heap.size = w.heap.size + 2 := by simp
  have HT := hide hT
  clear hT
  go_enter Try.func29, Try.ntmps29
  go_wp2_with fail
  generalize (w.alloc (.cells #[.pointer p] 22)).alloc (.cells #[.string name] 9) = w1 at *
  generalize hpf : w.heap.size = pf at *
  have hs2 : w1.drew.heap.size = pf + 2 := hs1
  have hle : pf ≤ pf + 1 := Nat.le_succ _
  go_region_held (fun w' => w'.cell? ⟨pf, 0, none⟩ = some (.pointer p) ∧ w'.cell? ⟨pf + 1, 0, none⟩ = some (.string name)) (first | (with_reducible exact ⟨g0, g1⟩) | (with_reducible exact ⟨f0, f1⟩) | (simp only [World.cell?_drew]; with_reducible exact ⟨x0, x1⟩)) (first
    | (go_at_call 22; refine (name_any name _).mono ?_; rintro e w2 ⟨rfl, rfl⟩)
    | (go_at_call 39; refine (onFile_any p name 70 _ _).mono ?_; rintro e w4 ⟨rfl, h0, h1, h2, ht⟩; rw [hs2] at h0 h1 h2 ⊢; have f0 := ht.cell (a := w1.drew) x0 (fun x => x); have f1 := ht.cell (a := w1.drew) x1 (fun x => x); have HV : Hid (OnVars w4 (pf + 2) p name 70 _) := ⟨h0, h1, h2⟩; have HT4 := hide (HT.out.drew.trans ht); clear h0 h1 h2 ht)
    | (go_at_call 36; refine (HRR.out _ HT4.out f0 f1 HV.out).mono ?_; rintro e w3 ⟨z, rfl, hz, ht⟩; have HZ := hide hz; have g0 := ht.cell f0 (Nat.lt_irrefl _); have g1 := ht.cell f1 (Nat.not_lt.2 hle); clear hz ht))
  all_goals go_wp2_with fail
  all_goals exact HZ.out

set_option maxRecDepth 100000 in
set_option maxHeartbeats 4000000 in
theorem rename_via (p : Option Addr) (a b : ByteArray) (w : World) (R : Ending → World → Prop)
    (HR : ∀ w1, Turns (fun _ => False) w w1 → w1.cell? ⟨w.heap.size, 0, none⟩ = some (.pointer p) → w1.cell? ⟨w.heap.size + 1, 0, none⟩ = some (.string a) → w1.cell? ⟨w.heap.size + 2, 0, none⟩ = some (.string b) → OnVars w1 (w.heap.size + 3) p a 50 #[.pointer (some ⟨w.heap.size + 1, 0, none⟩), .pointer (some ⟨w.heap.size + 2, 0, none⟩), .pointer (some ⟨w.heap.size, 0, none⟩)] →
      Calls Try.prog 36 #[.pointer p, .bool (goodN a && goodN b), onVal (w.heap.size + 3)] w1 fun e w' => ∃ z : Int, e = .returned (.int .i64 z) ∧ R (.returned (.int .i64 z)) w' ∧ Turns (fun k => k < w.heap.size) w1 w') :
    Calls Try.prog 15 #[.pointer p, .string a, .string b] w R := by
  have hmf := makeF
  have HRR := hide HR
  clear HR
  have hT : Turns (fun _ => False) w (((w.alloc (.cells #[.pointer p] 22)).alloc (.cells #[.string a] 9)).alloc (.cells #[.string b] 9)) := (((Turns.refl _ w).alloc _).alloc _).alloc _
  have x0 : (((w.alloc (.cells #[.pointer p] 22)).alloc (.cells #[.string a] 9)).alloc (.cells #[.string b] 9)).cell? ⟨w.heap.size, 0, none⟩ = some (.pointer p) := cell_of_row _ _ 0 _ 22 (0, 0) ((heap_alloc_old _ _ (by simp; omega)).trans ((heap_alloc_old _ _ (by simp)).trans (heap_alloc_new w _)))
  have x1 : (((w.alloc (.cells #[.pointer p] 22)).alloc (.cells #[.string a] 9)).alloc (.cells #[.string b] 9)).cell? ⟨w.heap.size + 1, 0, none⟩ = some (.string a) := cell_of_row _ _ 0 _ 9 (0, 0) ((heap_alloc_old _ _ (by simp)).trans (heap_alloc2_new w _ _))
  have x2 : (((w.alloc (.cells #[.pointer p] 22)).alloc (.cells #[.string a] 9)).alloc (.cells #[.string b] 9)).cell? ⟨w.heap.size + 2, 0, none⟩ = some (.string b) := by
    have := heap_alloc_new ((w.alloc (.cells #[.pointer p] 22)).alloc (.cells #[.string a] 9)) (.cells #[.string b] 9)
    rw [show ((w.alloc (.cells #[.pointer p] 22)).alloc (.cells #[.string a] 9)).heap.size = w.heap.size + 2 by simp] at this
    exact cell_of_row _ _ 0 _ 9 (0, 0) this
  have hs1 : (((w.alloc (.cells #[.pointer p] 22)).alloc (.cells #[.string a] 9)).alloc (.cells #[.string b] 9)).heap.size = w.heap.size + 3 := by simp
  have HT := hide hT
  clear hT
  go_enter Try.func15, Try.ntmps15
  go_wp2_with fail
  generalize ((w.alloc (.cells #[.pointer p] 22)).alloc (.cells #[.string a] 9)).alloc (.cells #[.string b] 9) = w1 at *
  generalize hpf : w.heap.size = pf at *
  have hs2 : w1.drew.heap.size = pf + 3 := hs1
  have hle : pf ≤ pf + 1 := Nat.le_succ _
  have hle2 : pf ≤ pf + 2 := Nat.le_add_right _ _
  cases hga : goodN a with
  | true =>
    rw [hga, Bool.true_and] at HRR
    go_region_held (fun w' => w'.cell? ⟨pf, 0, none⟩ = some (.pointer p) ∧ w'.cell? ⟨pf + 1, 0, none⟩ = some (.string a) ∧ w'.cell? ⟨pf + 2, 0, none⟩ = some (.string b)) (first | (with_reducible exact ⟨g0, g1, g2⟩) | (with_reducible exact ⟨f0, f1, f2⟩) | (simp only [World.cell?_drew]; with_reducible exact ⟨x0, x1, x2⟩)) (first
      | (go_at_call_of 22 (Value.string a); refine (name_any a _).mono ?_; rintro e w2 ⟨rfl, rfl⟩; rw [hga])
      | (go_at_call_of 22 (Value.string b); refine (name_any b _).mono ?_; rintro e w2 ⟨rfl, rfl⟩)
      | (go_at_call 39; refine (onFile_any p a 50 _ _).mono ?_; rintro e w4 ⟨rfl, h0, h1, h2, ht⟩; rw [hs2] at h0 h1 h2 ⊢; have f0 := ht.cell (a := w1.drew) x0 (fun x => x); have f1 := ht.cell (a := w1.drew) x1 (fun x => x); have f2 := ht.cell (a := w1.drew) x2 (fun x => x); have HV : Hid (OnVars w4 (pf + 3) p a 50 _) := ⟨h0, h1, h2⟩; have HT4 := hide (HT.out.drew.trans ht); clear h0 h1 h2 ht)
      | (go_at_call 36; refine (HRR.out _ HT4.out f0 f1 f2 HV.out).mono ?_; rintro e w3 ⟨z, rfl, hz, ht⟩; have HZ := hide hz; have g0 := ht.cell f0 (Nat.lt_irrefl _); have g1 := ht.cell f1 (Nat.not_lt.2 hle); have g2 := ht.cell f2 (Nat.not_lt.2 hle2); clear hz ht))
    all_goals go_wp2_with fail
    all_goals exact HZ.out
  | false =>
    rw [hga, Bool.false_and] at HRR
    refine wp_region_held_drew (S := fun w' => w'.cell? ⟨pf, 0, none⟩ = some (.pointer p) ∧ w'.cell? ⟨pf + 1, 0, none⟩ = some (.string a) ∧ w'.cell? ⟨pf + 2, 0, none⟩ = some (.string b)) (by kernel_rfl) ?_ (fun hHeld => ?_)
    · simp only [World.cell?_drew]
      exact ⟨x0, x1, x2⟩
    change wpAnyH _ _ _ _ _ 13 (Array.replicate 13 false) _ _
    refine wpAnyH_take (i := 0) (oi := ⟨some 7, .load 22 (.tmp 3), 22, "operate.go:107", #[], none⟩) (v := .pointer p) rfl (by kernel_rfl) (by kernel_rfl) (by kernel_rfl) (fun _ _ _ h => h) (Or.inl ⟨by rfl, ?_⟩) (by assumption) ?_
    · intro w hSw
      go_simp
    simp only [Act.put, List.setIfInBounds_toArray, List.set_cons_zero, List.set_cons_succ]
    refine wpAnyH_take (i := 1) (oi := ⟨some 8, .load 9 (.tmp 4), 9, "operate.go:107", #[], none⟩) (v := .string a) rfl (by kernel_rfl) (by kernel_rfl) (by kernel_rfl) (fun _ _ _ h => h) (Or.inl ⟨by rfl, ?_⟩) (by assumption) ?_
    · intro w hSw
      go_simp
    simp only [Act.put, List.setIfInBounds_toArray, List.set_cons_zero, List.set_cons_succ]
    refine wpAnyH_take (i := 7) (oi := ⟨some 14, .load 22 (.tmp 3), 22, "operate.go:107", #[], none⟩) (v := .pointer p) rfl (by kernel_rfl) (by kernel_rfl) (by kernel_rfl) (fun _ _ _ h => h) (Or.inl ⟨by rfl, ?_⟩) (by assumption) ?_
    · intro w hSw
      go_simp
    simp only [Act.put, List.setIfInBounds_toArray, List.set_cons_zero, List.set_cons_succ]
    refine wpAnyH_take (i := 8) (oi := ⟨some 15, .load 9 (.tmp 4), 9, "operate.go:107", #[], none⟩) (v := .string a) rfl (by kernel_rfl) (by kernel_rfl) (by kernel_rfl) (fun _ _ _ h => h) (Or.inl ⟨by rfl, ?_⟩) (by assumption) ?_
    · intro w hSw
      go_simp
    simp only [Act.put, List.setIfInBounds_toArray, List.set_cons_zero, List.set_cons_succ]
    refine wpAnyH_take (i := 9) (oi := ⟨some 16, .makeFunc (.func 50) #[] #[.tmp 4, .tmp 5, .tmp 3], 74, "operate.go:107", #[], none⟩) (v := .func (.func 50) #[] #[.pointer (some ⟨pf + 1, 0, none⟩), .pointer (some ⟨pf + 2, 0, none⟩), .pointer (some ⟨pf, 0, none⟩)]) rfl (by kernel_rfl) (by kernel_rfl) (by kernel_rfl) (fun _ _ _ h => h) (Or.inl ⟨by rfl, ?_⟩) (by assumption) ?_
    · intro w hSw
      go_simp
    simp only [Act.put, List.setIfInBounds_toArray, List.set_cons_zero, List.set_cons_succ]
    refine wpAnyH_ready (rs := [2]) (by kernel_rfl) (by simp) ?_
    refine AllReadyH.cons rfl (fun K hK => ?_) AllReadyH.nil
    go_simp
    go_wp2_with (go_at_call_of 22 (Value.string a); refine (name_any a _).mono ?_; rintro e w2 ⟨rfl, rfl⟩; rw [hga])
    refine hK.out _ _ ?_ (fun hHeld => ?_)
    · first | exact ⟨g0, g1, g2⟩ | exact ⟨f0, f1, f2⟩ | (simp only [World.cell?_drew]; exact ⟨x0, x1, x2⟩)
    clear hK K
    refine wpAnyH_take (i := 3) (oi := ⟨some 10, .move (.tmp 9), 4, "operate.go:107", #[⟨2, .data⟩, ⟨2, .chain⟩], none⟩) (v := .bool false) rfl (by kernel_rfl) (by kernel_rfl) (by kernel_rfl) (fun _ _ _ h => h) (Or.inl ⟨by rfl, ?_⟩) (by assumption) ?_
    · intro w hSw
      go_simp
    simp only [Act.put, List.setIfInBounds_toArray, List.set_cons_zero, List.set_cons_succ]
    refine wpAnyH_take (i := 4) (oi := ⟨some 11, .load 9 (.tmp 5), 9, "operate.go:107", #[⟨3, .guard⟩], some (3, true)⟩) (v := undef) rfl (by kernel_rfl) (by kernel_rfl) (by kernel_rfl) (fun _ _ _ h => h) (Or.inr ⟨by rfl, rfl⟩) (by assumption) ?_
    simp only [Act.put, List.setIfInBounds_toArray, List.set_cons_zero, List.set_cons_succ]
    refine wpAnyH_take (i := 5) (oi := ⟨some 12, .call { callee := .value (.func 22), args := #[.tmp 11], argTypes := #[9] }, 4, "operate.go:107", #[⟨4, .data⟩, ⟨3, .chain⟩, ⟨3, .guard⟩], some (3, true)⟩) (v := undef) rfl (by kernel_rfl) (by kernel_rfl) (by kernel_rfl) (fun _ _ _ h => h) (Or.inr ⟨by rfl, rfl⟩) (by assumption) ?_
    simp only [Act.put, List.setIfInBounds_toArray, List.set_cons_zero, List.set_cons_succ]
    refine wpAnyH_take (i := 6) (oi := ⟨some 13, .pick (.tmp 10) (.tmp 12) (.const (.bool false)), 4, "operate.go:107", #[⟨3, .data⟩, ⟨5, .data⟩], none⟩) (v := .bool false) rfl (by kernel_rfl) (by kernel_rfl) (by kernel_rfl) (fun _ _ _ h => h) (Or.inl ⟨by rfl, ?_⟩) (by assumption) ?_
    · intro w hSw
      go_simp
    simp only [Act.put, List.setIfInBounds_toArray, List.set_cons_zero, List.set_cons_succ]
    refine wpAnyH_ready (rs := [10]) (by kernel_rfl) (by simp) ?_
    refine AllReadyH.cons rfl (fun K hK => ?_) AllReadyH.nil
    go_simp
    go_wp2_with (go_at_call 39; refine (onFile_any p a 50 _ _).mono ?_; rintro e w4 ⟨rfl, h0, h1, h2, ht⟩; rw [hs2] at h0 h1 h2 ⊢; have f0 := ht.cell (a := w1.drew) x0 (fun x => x); have f1 := ht.cell (a := w1.drew) x1 (fun x => x); have f2 := ht.cell (a := w1.drew) x2 (fun x => x); have HV : Hid (OnVars w4 (pf + 3) p a 50 _) := ⟨h0, h1, h2⟩; have HT4 := hide (HT.out.drew.trans ht); clear h0 h1 h2 ht)
    refine hK.out _ _ ?_ (fun hHeld => ?_)
    · first | exact ⟨g0, g1, g2⟩ | exact ⟨f0, f1, f2⟩ | (simp only [World.cell?_drew]; exact ⟨x0, x1, x2⟩)
    clear hK K
    refine wpAnyH_ready (rs := [11]) (by kernel_rfl) (by simp) ?_
    refine AllReadyH.cons rfl (fun K hK => ?_) AllReadyH.nil
    go_simp
    go_wp2_with (go_at_call 36; refine (HRR.out _ HT4.out f0 f1 f2 HV.out).mono ?_; rintro e w3 ⟨z, rfl, hz, ht⟩; have HZ := hide hz; have g0 := ht.cell f0 (Nat.lt_irrefl _); have g1 := ht.cell f1 (Nat.not_lt.2 hle); have g2 := ht.cell f2 (Nat.not_lt.2 hle2); clear hz ht)
    refine hK.out _ _ ?_ (fun hHeld => ?_)
    · first | exact ⟨g0, g1, g2⟩ | exact ⟨f0, f1, f2⟩ | (simp only [World.cell?_drew]; exact ⟨x0, x1, x2⟩)
    clear hK K
    refine wpAnyH_ready (rs := [12]) (by kernel_rfl) (by simp) ?_
    refine AllReadyH.cons rfl (fun K hK => ?_) AllReadyH.nil
    go_simp
    refine hK.out _ _ ?_ (fun hHeld => ?_)
    · first | exact ⟨g0, g1, g2⟩ | exact ⟨f0, f1, f2⟩ | (simp only [World.cell?_drew]; exact ⟨x0, x1, x2⟩)
    clear hK K
    refine wpAnyH_done (by kernel_rfl) ?_ _
    go_wp2_with fail
    exact HZ.out
end Go.Proofs.Ytefjljdgdoklmaa

/-
  Read's closure: what it read is kept in a variable.
-/
namespace Go.Proofs.Ytefjljdgdoklmaa
open Go.RowKit Go.Maps

theorem enters52 (caps : Array Value) (w : World) : (callFunc 52 caps).run Try.prog w = .ok (.enter 52 caps) w := by kernel_rfl
theorem enters48 (caps : Array Value) (w : World) : (callFunc 48 caps).run Try.prog w = .ok (.enter 48 caps) w := by kernel_rfl
theorem enters40 (caps : Array Value) (w : World) : (callFunc 40 caps).run Try.prog w = .ok (.enter 40 caps) w := by kernel_rfl

set_option maxRecDepth 100000 in
set_option maxHeartbeats 1000000 in
theorem read1_in (g k c L pa pn pb : Nat) (s0 : Int) (bs : List (BitVec 8)) (at' n : Nat) (w : World) (ha : w.cell? ⟨pa, 0, none⟩ = some (.int .i64 (at' : Nat))) (hn : w.cell? ⟨pn, 0, none⟩ = some (.int .i64 (n : Nat))) (hp : w.heap[pb]? = some (.cells #[.slice none 0 0] 28 (0, 0)))
    (h : w.heap[g]? = some (.cells #[.slice (some ⟨k, 0, none⟩) L c, .int .i64 s0] 70 (0, 0))) (hL : L = bs.length) (hrow : RowB w k c bs) (hc : L ≤ c) (hL2 : L ≤ 1073741824) (h1 : at' ≤ 9223372036854775807) (h2 : n ≤ 9223372036854775807) (hlt : at' < L) :
    Calls Try.prog 52 #[.pointer (some ⟨g, 0, none⟩), .pointer (some ⟨pa, 0, none⟩), .pointer (some ⟨pn, 0, none⟩), .pointer (some ⟨pb, 0, none⟩)] w fun e w' => e = .returned (.int .i64 0) ∧ ∃ q m cq, w'.cell? ⟨pb, 0, none⟩ = some (.slice (some ⟨q, 0, none⟩) m cq) ∧ m = (readOf bs at' n).length ∧ w.heap.size ≤ q ∧ RowB w' q cq (readOf bs at' n) ∧ Turns (fun j => j = pb) w w' := by
  have H := hide h
  have HR := hide hrow
  have HL := hide hL
  have HP := hide hp
  have hpw := lt_of_heap hp
  clear h hrow hL hp
  go_enter Try.func52, Try.ntmps52
  go_wp2_with fail
  refine (read_in g k c L s0 bs at' n _ H.out HL.out HR.out hc hL2 h1 h2 hlt).mono ?_
  rintro e w1 ⟨q, m, cq, rfl, hm, hq, hcq, hr, hb⟩
  have HP1 := hide (heap_keep hb HP.out)
  have p0 : w1.cell? ⟨pb, 0, none⟩ = some (.slice none 0 0) := cell_of_row w1 pb 0 _ 28 (0, 0) HP1.out
  have z0 : w1.frozen? ⟨pb, 0, none⟩ = false := frozen_of_row w1 pb 0 _ 28 HP1.out
  have HM := hide hm
  have t1 := (Tick.refl HP1.out).set 0 (.slice (some ⟨q, 0, none⟩) m cq)
  have u1 := Turns.of_tick t1
  have hqp : q ≠ pb := by omega
  have FIN : Hid ((w1.setCell ⟨pb, 0, none⟩ (.slice (some ⟨q, 0, none⟩) m cq)).cell? ⟨pb, 0, none⟩ = some (.slice (some ⟨q, 0, none⟩) m cq) ∧ m = (readOf bs at' n).length ∧ w.heap.size ≤ q ∧ RowB (w1.setCell ⟨pb, 0, none⟩ (.slice (some ⟨q, 0, none⟩) m cq)) q cq (readOf bs at' n) ∧ Turns (fun j => j = pb) w (w1.setCell ⟨pb, 0, none⟩ (.slice (some ⟨q, 0, none⟩) m cq))) := by
    refine ⟨t1.cell 0, hm, hq, ?_, (Turns.of_below hb _).trans u1⟩
    obtain ⟨cs, r1, r2, r3⟩ := hr
    exact ⟨cs, u1.heap r1 hqp, r2, r3⟩
  clear hm t1 u1 hr hb
  go_wp2_with fail
  go_ret
  exact ⟨rfl, q, m, cq, FIN.out⟩
end Go.Proofs.Ytefjljdgdoklmaa

/-
  A file system with one file: what each operation makes of it.
-/
namespace Go.Proofs.Ytefjljdgdoklmaa
open Go.RowKit Go.Maps

/-- A directory with one name. -/
def one (name : ByteArray) (g : Nat) : DataW Unit := .map [(key name, .lit (.int .i64 (g : Nat)))]
theorem one_file (name : ByteArray) (g : Nat) : fileOf (one name g) name = some g := by
  have : (one name g).atKey (key name) .nil = .lit (.int .i64 (g : Nat)) := by
    simp [one, DataW.atKey, key, Lit.sameKey]
  unfold fileOf
  rw [this]
  simp
theorem none_file (name : ByteArray) : fileOf (.map []) name = none := by
  unfold fileOf
  simp [DataW.atKey]
theorem apply_first (name : ByteArray) (g : Nat) : applyD (.map []) ⟨⟨#[]⟩, name, some g⟩ = one name g := by
  simp [applyD, one, DataW.del, DataW.put, DataW.insert]

/-- A directory's block has just as many entries as it has names. -/
theorem Dir.tight {w : World} {b n : Nat} {D : DataW Unit} (h : Dir w b n D) : Dir w b (Maps.size D) D := by
  obtain ⟨es, clock, hb, F, _, rfl⟩ := h
  exact ⟨es, clock, hb, F, by simp [Maps.size, length_sorted], rfl⟩

/-- A file system whose directory has the one file g; the synced one is S behind the changes l. -/
structure One (B : Nat) (w : World) (f g : Nat) (name : ByteArray) (l : List Chg) (S : DataW Unit) (bytes : List (BitVec 8)) (s0 : Nat) (limit used lost ops : Int) : Prop where
  fB : B ≤ f
  gB : B ≤ g
  ex : ∃ (bn bs nn ns : Nat) (ch fv : Value), w.heap[f]? = some (.cells (fsCells limit (.map (some bn)) (.map (some bs)) ch used lost true ops (-1) (-1) 0) 57 (0, 0)) ∧ Dir w bn nn (one name g) ∧ Dir w bs ns S ∧ Chs w ch l ∧
    w.heap[g]? = some (.cells #[fv, .int .i64 (s0 : Nat)] 70 (0, 0)) ∧ OwnB w fv bytes ∧ bn ≠ bs ∧ B ≤ bn ∧ B ≤ bs ∧ (∀ k, inRow ch k → B ≤ k) ∧ (∀ k, inRow fv k → B ≤ k) ∧ nn ≤ 1000 ∧ ns ≤ 1000

set_option maxHeartbeats 1000000 in
theorem create_first (B f bn bs nn ns : Nat) (name : ByteArray) (limit ops : Int) (w : World) (h : w.heap[f]? = some (.cells (fsCells limit (.map (some bn)) (.map (some bs)) (.slice none 0 0) 0 0 true ops (-1) (-1) 0) 57 (0, 0))) (hd : Dir w bn nn (.map [])) (hs : Dir w bs ns (.map [])) (hne : bn ≠ bs) (h1 : B ≤ f) (h2 : B ≤ bn) (h3 : B ≤ bs) (hB : B ≤ w.heap.size) (hn : nn ≤ 900) (hn2 : ns ≤ 900) (ho : 0 ≤ ops ∧ ops ≤ 1000) (hgn : goodN name = true) (hnm : name.size ≤ maxLen) :
    Calls Try.prog 9 #[.pointer (some ⟨f, 0, none⟩), .string name] w fun e w' => e = .returned (.int .i64 0) ∧ ∃ g, One B w' f g name [⟨⟨#[]⟩, name, some g⟩] (.map []) [] 0 limit 0 0 (ops + 1) ∧ Below B w w' := by
  refine create_via _ name w _ fun w1 pf pn t1 x0 x1 hpf hpn => ?_
  rw [hgn]
  have hf1 := t1.heap h (fun x => x)
  have hd1 : Dir w1 bn nn (.map []) := hd.keep t1 (fun x => x)
  have hs1 : Dir w1 bs ns (.map []) := hs.keep t1 (fun x => x)
  refine operate_go f bn 37 _ (enters37 _) limit 0 0 ops (-1) (-1) 0 _ _ w1 hf1 (by omega) (by decide) (by decide) (by decide) (by decide) _ fun wc hT => ?_
  have u := Turns.of_tick hT
  have hfn : f ≠ bn := hd1.ne_cells hf1
  have hfs : f ≠ bs := hs1.ne_cells hf1
  have hfw := lt_of_heap h
  have hbw := hd.lt
  refine (create1_new f bn nn pf pn (.map []) [] name limit 0 0 (ops + 1) (tick (-1)) (tick (-1)) 0 true _ _ wc (u.cell x0 (by show ¬ pf = f; omega)) (u.cell x1 (by show ¬ pn = f; omega)) hT.1 (hd1.keep u hfn.symm) (.inl ⟨rfl, rfl⟩) (by unfold maxLen; omega) (by decide) hnm (none_file name)).mono ?_
  rintro e w2 ⟨rfl, ch', k1, k2, k3, k4, k5, k6⟩
  have hnr : ∀ k, inRow (.slice none 0 0) k → False := fun k hk => by obtain ⟨_, _, e⟩ := hk; cases e
  have hwc : w.heap.size ≤ wc.heap.size := Nat.le_trans t1.size u.size
  have hsw := hs.lt
  have tt : Turns (fun k => k < w.heap.size) w1 w2 := (u.mono fun k _ e => by omega).trans (k5.mono fun k _ e => by
    rcases e with e | e | e
    · omega
    · omega
    · exact (hnr k e).elim)
  refine ⟨0, rfl, 0, rfl, ⟨rfl, wc.heap.size, ⟨h1, Nat.le_trans hB hwc, bn, bs, nn + 1, ns, ch', _, k1, ?_, ?_, k4, k2, .inl ⟨rfl, rfl⟩, hne, h2, h3, ?_, ?_, by omega, by omega⟩, ?_⟩, tt⟩
  · rw [← apply_first]
    exact k3
  · refine (hs1.keep u hfs.symm).keep k5 fun e => ?_
    rcases e with e | e | e
    · exact hfs e.symm
    · exact hne e.symm
    · exact hnr _ e
  · intro k hk
    rcases k6 k hk with e | e
    · exact (hnr k e).elim
    · omega
  · intro k hk
    exact (hnr k hk).elim
  · have := t1.below hB (fun _ x => x.elim)
    refine (this.trans ((u.below (by have := t1.size; omega) (fun k e => by have e' : k = f := e; omega)))).trans (k5.below (Nat.le_trans hB hwc) (fun k e => ?_))
    rcases e with e | e | e
    · omega
    · omega
    · exact (hnr k e).elim
end Go.Proofs.Ytefjljdgdoklmaa

/-
  Reading a file, whatever its bytes and wherever one begins.
-/
namespace Go.Proofs.Ytefjljdgdoklmaa
open Go.RowKit Go.Maps

set_option maxRecDepth 100000 in
set_option maxHeartbeats 1000000 in
theorem read_past (g k c L : Nat) (s0 : Int) (at' n : Nat) (w : World) (h : w.heap[g]? = some (.cells #[.slice (some ⟨k, 0, none⟩) L c, .int .i64 s0] 70 (0, 0))) (hc : L ≤ c) (hL2 : L ≤ 1073741824) (h2 : n ≤ 9223372036854775807) (ha : L ≤ at') :
    Calls Try.prog 53 #[.pointer (some ⟨g, 0, none⟩), .int .i64 (at' : Nat), .int .i64 (n : Nat)] w fun e w' => ∃ q cq, e = .returned (.slice (some ⟨q, 0, none⟩) 0 cq) ∧ w.heap.size ≤ q ∧ RowB w' q cq [] ∧ Below w.heap.size w w' := by
  have c0 : w.cell? ⟨g, 0, none⟩ = some (.slice (some ⟨k, 0, none⟩) L c) := cell_of_row w g 0 _ 70 (0, 0) h
  clear h
  have g1 : ¬ (at' : Int) < (L : Int) := by omega
  have hcs : (at' = L ∨ L < at') ∧ (n = 0 ∨ 0 < n) := by omega
  obtain ⟨rfl | hlt, rfl | hn0⟩ := hcs
  all_goals
    go_enter Try.func53, Try.ntmps53
    go_wp2_with fail
    go_quiet (fail)
    go_wp2_with fail
  all_goals
    refine (clone_some _ 0 _ [] rfl (w.drewN nq) (Bytes.nothing _ _) (by simp)).mono ?_
    rintro e w2 ⟨q, cq, rfl, hq, hcq, hr, hb⟩
    have B2 : Hid (Below w.heap.size w w2) := (below_drewN (Below.refl _ _) nq).trans hb
    have R2 := hide hr
    clear hr hb
    go_wp2_with fail
    go_ret
    exact ⟨q, cq, rfl, hq, R2.out, B2.out⟩

set_option maxRecDepth 100000 in
set_option maxHeartbeats 1000000 in
theorem read_nil (g : Nat) (s0 : Int) (at' n : Nat) (w : World) (h : w.heap[g]? = some (.cells #[.slice none 0 0, .int .i64 s0] 70 (0, 0))) (h1 : at' ≤ 9223372036854775807) (h2 : n ≤ 9223372036854775807) :
    Calls Try.prog 53 #[.pointer (some ⟨g, 0, none⟩), .int .i64 (at' : Nat), .int .i64 (n : Nat)] w fun e w' => e = .returned (.slice none 0 0) ∧ Below w.heap.size w w' := by
  have c0 : w.cell? ⟨g, 0, none⟩ = some (.slice none 0 0) := cell_of_row w g 0 _ 70 (0, 0) h
  clear h
  have hcs : (at' = 0 ∨ 0 < at') ∧ (n = 0 ∨ 0 < n) := by omega
  obtain ⟨rfl | hlt, rfl | hn0⟩ := hcs
  all_goals
    go_enter Try.func53, Try.ntmps53
    go_wp2_with fail
    go_quiet (fail)
    go_wp2_with fail
  all_goals
    refine (clone_nil _).mono ?_
    rintro e w2 ⟨rfl, rfl⟩
    go_wp2_with fail
    go_ret
    exact ⟨rfl, below_drewN (Below.refl _ _) nq⟩

/-- What Read answers of a file, in memory of its own. -/
theorem read_all (g : Nat) (v : Value) (s0 : Int) (bs : List (BitVec 8)) (at' n : Nat) (w : World) (h : w.heap[g]? = some (.cells #[v, .int .i64 s0] 70 (0, 0))) (hown : OwnB w v bs) (hL2 : bs.length ≤ 1073741824) (h1 : at' ≤ 9223372036854775807) (h2 : n ≤ 9223372036854775807) :
    Calls Try.prog 53 #[.pointer (some ⟨g, 0, none⟩), .int .i64 (at' : Nat), .int .i64 (n : Nat)] w fun e w' => ∃ a m c, e = .returned (.slice a m c) ∧ OwnB w' (.slice a m c) (readOf bs at' n) ∧ (∀ k, inRow (.slice a m c) k → w.heap.size ≤ k) ∧ Below w.heap.size w w' := by
  rcases hown with ⟨rfl, rfl⟩ | ⟨k, c, L, rfl, rfl, hc, hrow⟩
  · refine (read_nil g s0 at' n w h h1 h2).mono ?_
    rintro e w' ⟨rfl, hb⟩
    refine ⟨none, 0, 0, rfl, .inl ⟨by simp [readOf], rfl⟩, fun k hk => ?_, hb⟩
    obtain ⟨_, _, e⟩ := hk
    cases e
  · rcases Nat.lt_or_ge at' bs.length with hlt | hge
    · refine (read_in g k c bs.length s0 bs at' n w h rfl hrow hc hL2 h1 h2 hlt).mono ?_
      rintro e w' ⟨q, m, cq, rfl, hm, hq, hcq, hr, hb⟩
      refine ⟨_, m, cq, rfl, .inr ⟨q, cq, m, rfl, hm, hcq, hr⟩, fun k hk => ?_, hb⟩
      obtain ⟨_, _, e⟩ := hk
      cases e
      exact hq
    · refine (read_past g k c bs.length s0 at' n w h hc hL2 h2 hge).mono ?_
      rintro e w' ⟨q, cq, rfl, hq, hr, hb⟩
      have hnil : readOf bs at' n = [] := by unfold readOf; rw [List.drop_eq_nil_of_le hge, List.take_nil]
      refine ⟨_, 0, cq, rfl, .inr ⟨q, cq, 0, rfl, by rw [hnil]; rfl, Nat.zero_le _, by rw [hnil]; exact hr⟩, fun k hk => ?_, hb⟩
      obtain ⟨_, _, e⟩ := hk
      cases e
      exact hq

set_option maxRecDepth 100000 in
set_option maxHeartbeats 1000000 in
theorem read1_all (g pa pn pb : Nat) (v : Value) (s0 : Int) (bs : List (BitVec 8)) (at' n : Nat) (w : World) (ha : w.cell? ⟨pa, 0, none⟩ = some (.int .i64 (at' : Nat))) (hn : w.cell? ⟨pn, 0, none⟩ = some (.int .i64 (n : Nat))) (hp : w.heap[pb]? = some (.cells #[.slice none 0 0] 28 (0, 0)))
    (h : w.heap[g]? = some (.cells #[v, .int .i64 s0] 70 (0, 0))) (hown : OwnB w v bs) (hL2 : bs.length ≤ 1073741824) (h1 : at' ≤ 9223372036854775807) (h2 : n ≤ 9223372036854775807) :
    Calls Try.prog 52 #[.pointer (some ⟨g, 0, none⟩), .pointer (some ⟨pa, 0, none⟩), .pointer (some ⟨pn, 0, none⟩), .pointer (some ⟨pb, 0, none⟩)] w fun e w' => e = .returned (.int .i64 0) ∧ ∃ a m c, w'.cell? ⟨pb, 0, none⟩ = some (.slice a m c) ∧ OwnB w' (.slice a m c) (readOf bs at' n) ∧ (∀ k, inRow (.slice a m c) k → w.heap.size ≤ k) ∧ Turns (fun j => j = pb) w w' := by
  have H := hide h
  have HO := hide hown
  have HP := hide hp
  have hpw := lt_of_heap hp
  clear h hown hp
  go_enter Try.func52, Try.ntmps52
  go_wp2_with fail
  refine (read_all g v s0 bs at' n _ H.out HO.out hL2 h1 h2).mono ?_
  rintro e w1 ⟨a, m, c, rfl, ho, hq, hb⟩
  have HP1 := hide (heap_keep hb HP.out)
  have p0 : w1.cell? ⟨pb, 0, none⟩ = some (.slice none 0 0) := cell_of_row w1 pb 0 _ 28 (0, 0) HP1.out
  have z0 : w1.frozen? ⟨pb, 0, none⟩ = false := frozen_of_row w1 pb 0 _ 28 HP1.out
  have t1 := (Tick.refl HP1.out).set 0 (.slice a m c)
  have u1 := Turns.of_tick t1
  have FIN : Hid ((w1.setCell ⟨pb, 0, none⟩ (.slice a m c)).cell? ⟨pb, 0, none⟩ = some (.slice a m c) ∧ OwnB (w1.setCell ⟨pb, 0, none⟩ (.slice a m c)) (.slice a m c) (readOf bs at' n) ∧ (∀ k, inRow (.slice a m c) k → w.heap.size ≤ k) ∧ Turns (fun j => j = pb) w (w1.setCell ⟨pb, 0, none⟩ (.slice a m c))) :=
    ⟨t1.cell 0, ho.keep u1 (fun k hk (e : k = pb) => by have := hq k hk; omega), hq, (Turns.of_below hb _).trans u1⟩
  clear t1 u1 ho hq hb
  go_wp2_with fail
  go_ret
  exact ⟨rfl, a, m, c, FIN.out⟩
end Go.Proofs.Ytefjljdgdoklmaa

/-
  Read goes through the guard, whatever its numbers are.
-/
namespace Go.Proofs.Ytefjljdgdoklmaa
open Go.RowKit Go.Maps

set_option maxRecDepth 100000 in
set_option maxHeartbeats 4000000 in
theorem read_via_all (p : Option Addr) (name : ByteArray) (at' n : Int) (w : World) (R : Ending → World → Prop)
    (HR : ∀ w1, Turns (fun _ => False) w w1 → w1.cell? ⟨w.heap.size, 0, none⟩ = some (.int .i64 at') → w1.cell? ⟨w.heap.size + 1, 0, none⟩ = some (.int .i64 n) → w1.heap[w.heap.size + 2]? = some (.cells #[.slice none 0 0] 28 (0, 0)) → OnVars w1 (w.heap.size + 3) p name 52 #[.pointer (some ⟨w.heap.size, 0, none⟩), .pointer (some ⟨w.heap.size + 1, 0, none⟩), .pointer (some ⟨w.heap.size + 2, 0, none⟩)] →
      Calls Try.prog 36 #[.pointer p, .bool (goodN name && decide (0 ≤ at') && decide (0 ≤ n)), onVal (w.heap.size + 3)] w1 fun e w' => ∃ (z : Int) (v : Value), e = .returned (.int .i64 z) ∧ w'.cell? ⟨w.heap.size + 2, 0, none⟩ = some v ∧ R (.returned (.tuple #[v, .int .i64 z])) w') :
    Calls Try.prog 20 #[.pointer p, .string name, .int .i64 at', .int .i64 n] w R := by
  have hmf := makeF
  have HRR := hide HR
  clear HR
  have hT : Turns (fun _ => False) w (((w.alloc (.cells #[.int .i64 at'] 3)).alloc (.cells #[.int .i64 n] 3)).alloc (.cells #[.slice none 0 0] 28)) := (((Turns.refl _ w).alloc _).alloc _).alloc _
  have x0 : (((w.alloc (.cells #[.int .i64 at'] 3)).alloc (.cells #[.int .i64 n] 3)).alloc (.cells #[.slice none 0 0] 28)).cell? ⟨w.heap.size, 0, none⟩ = some (.int .i64 at') := cell_of_row _ _ 0 _ 3 (0, 0) ((heap_alloc_old _ _ (by simp; omega)).trans ((heap_alloc_old _ _ (by simp)).trans (heap_alloc_new w _)))
  have x1 : (((w.alloc (.cells #[.int .i64 at'] 3)).alloc (.cells #[.int .i64 n] 3)).alloc (.cells #[.slice none 0 0] 28)).cell? ⟨w.heap.size + 1, 0, none⟩ = some (.int .i64 n) := cell_of_row _ _ 0 _ 3 (0, 0) ((heap_alloc_old _ _ (by simp)).trans (heap_alloc2_new w _ _))
  have x2 : (((w.alloc (.cells #[.int .i64 at'] 3)).alloc (.cells #[.int .i64 n] 3)).alloc (.cells #[.slice none 0 0] 28)).heap[w.heap.size + 2]? = some (.cells #[.slice none 0 0] 28 (0, 0)) := by
    have := heap_alloc_new ((w.alloc (.cells #[.int .i64 at'] 3)).alloc (.cells #[.int .i64 n] 3)) (.cells #[.slice none 0 0] 28)
    rwa [show ((w.alloc (.cells #[.int .i64 at'] 3)).alloc (.cells #[.int .i64 n] 3)).heap.size = w.heap.size + 2 by simp] at this
  have hs1 : (((w.alloc (.cells #[.int .i64 at'] 3)).alloc (.cells #[.int .i64 n] 3)).alloc (.cells #[.slice none 0 0] 28)).heap.size = w.heap.size + 3 := by simp
  have HT := hide hT
  have X2 := hide x2
  clear hT x2
  go_enter Try.func20, Try.ntmps20
  go_wp2_with fail
  generalize ((w.alloc (.cells #[.int .i64 at'] 3)).alloc (.cells #[.int .i64 n] 3)).alloc (.cells #[.slice none 0 0] 28) = w1 at *
  generalize hpf : w.heap.size = pf at *
  refine (name_any name _).mono ?_
  rintro e w2 ⟨rfl, rfl⟩
  have hcase : goodN name = false ∨ (goodN name = true ∧ at' < 0) ∨ (goodN name = true ∧ ¬ at' < 0 ∧ n < 0) ∨ (goodN name = true ∧ ¬ at' < 0 ∧ ¬ n < 0) := by
    cases goodN name
    · exact .inl rfl
    · by_cases h1 : at' < 0
      · exact .inr (.inl ⟨rfl, h1⟩)
      · by_cases h2 : n < 0
        · exact .inr (.inr (.inl ⟨rfl, h1, h2⟩))
        · exact .inr (.inr (.inr ⟨rfl, h1, h2⟩))
  rcases hcase with e1 | ⟨e1, e2⟩ | ⟨e1, e2, e3⟩ | ⟨e1, e2, e3⟩
  · rw [e1, Bool.false_and, Bool.false_and] at HRR
    rw [e1]
    go_wp2_with fail
    refine (onFile_any p name 52 _ _).mono ?_
    rintro e w4 ⟨rfl, k0, k1, k2, ht⟩
    rw [hs1] at k0 k1 k2 ⊢
    have HV : Hid (OnVars w4 (pf + 3) p name 52 _) := ⟨k0, k1, k2⟩
    have HC := hide (HRR.out w4 (HT.out.trans ht) (ht.cell x0 (fun x => x)) (ht.cell x1 (fun x => x)) (ht.heap X2.out (fun x => x)) HV.out)
    clear k0 k1 k2 ht
    go_wp2_with fail
    refine HC.out.mono ?_
    rintro e w5 ⟨z, v, rfl, hc, hz⟩
    have HZ := hide hz
    clear hz
    go_wp2_with fail
    exact HZ.out
  · rw [e1, Bool.true_and, decide_eq_false (by omega), Bool.false_and] at HRR
    rw [e1]
    go_wp2_with fail
    refine (onFile_any p name 52 _ _).mono ?_
    rintro e w4 ⟨rfl, k0, k1, k2, ht⟩
    rw [hs1] at k0 k1 k2 ⊢
    have HV : Hid (OnVars w4 (pf + 3) p name 52 _) := ⟨k0, k1, k2⟩
    have HC := hide (HRR.out w4 (HT.out.trans ht) (ht.cell x0 (fun x => x)) (ht.cell x1 (fun x => x)) (ht.heap X2.out (fun x => x)) HV.out)
    clear k0 k1 k2 ht
    go_wp2_with fail
    refine HC.out.mono ?_
    rintro e w5 ⟨z, v, rfl, hc, hz⟩
    have HZ := hide hz
    clear hz
    go_wp2_with fail
    exact HZ.out
  · rw [e1, Bool.true_and, decide_eq_true (by omega), Bool.true_and, decide_eq_false (by omega)] at HRR
    rw [e1]
    go_wp2_with fail
    refine (onFile_any p name 52 _ _).mono ?_
    rintro e w4 ⟨rfl, k0, k1, k2, ht⟩
    rw [hs1] at k0 k1 k2 ⊢
    have HV : Hid (OnVars w4 (pf + 3) p name 52 _) := ⟨k0, k1, k2⟩
    have HC := hide (HRR.out w4 (HT.out.trans ht) (ht.cell x0 (fun x => x)) (ht.cell x1 (fun x => x)) (ht.heap X2.out (fun x => x)) HV.out)
    clear k0 k1 k2 ht
    go_wp2_with fail
    rw [decide_eq_false (show ¬ 0 ≤ n by omega)]
    refine HC.out.mono ?_
    rintro e w5 ⟨z, v, rfl, hc, hz⟩
    have HZ := hide hz
    clear hz
    go_wp2_with fail
    exact HZ.out
  · rw [e1, Bool.true_and, decide_eq_true (by omega), Bool.true_and, decide_eq_true (by omega)] at HRR
    rw [e1]
    go_wp2_with fail
    refine (onFile_any p name 52 _ _).mono ?_
    rintro e w4 ⟨rfl, k0, k1, k2, ht⟩
    rw [hs1] at k0 k1 k2 ⊢
    have HV : Hid (OnVars w4 (pf + 3) p name 52 _) := ⟨k0, k1, k2⟩
    have HC := hide (HRR.out w4 (HT.out.trans ht) (ht.cell x0 (fun x => x)) (ht.cell x1 (fun x => x)) (ht.heap X2.out (fun x => x)) HV.out)
    clear k0 k1 k2 ht
    go_wp2_with fail
    refine HC.out.mono ?_
    rintro e w5 ⟨z, v, rfl, hc, hz⟩
    have HZ := hide hz
    clear hz
    go_wp2_with fail
    exact HZ.out
end Go.Proofs.Ytefjljdgdoklmaa

/-
  A file system with one file: SyncDir, Append, Sync, and Create of a name that is there.
-/
namespace Go.Proofs.Ytefjljdgdoklmaa
open Go.RowKit Go.Maps

set_option maxHeartbeats 1000000 in
theorem syncdir_one (B f g : Nat) (name : ByteArray) (l : List Chg) (S T : DataW Unit) (bytes : List (BitVec 8)) (s0 : Nat) (limit used lost ops : Int) (w : World) (h : One B w f g name l S bytes s0 limit used lost ops) (hT : l.foldl applyD S = T) (hl : l.length ≤ 100) (hnm : ∀ x ∈ l, x.went.size ≤ maxLen ∧ x.became.size ≤ maxLen) (ho : 0 ≤ ops ∧ ops ≤ 1000) (hu : 0 ≤ lost ∧ lost ≤ used ∧ used ≤ 1073741824) (hB : B ≤ w.heap.size) (hS : Maps.size S ≤ 900) :
    Calls Try.prog 13 #[.pointer (some ⟨f, 0, none⟩)] w fun e w' => e = .returned (.int .i64 0) ∧ One B w' f g name [] T bytes s0 limit (used - lost) 0 (ops + 1) ∧ Below B w w' := by
  obtain ⟨fB, gB, bn, bs, nn, ns, ch, fv, hf, hd, hs0, hch, hg, hown, hne, b1, b2, b3, b4, m1, _⟩ := h
  have hs := hs0.tight
  generalize Maps.size S = ns at *
  refine syncdir_via _ w _ fun w1 t1 x0 => ?_
  have hf1 := t1.heap hf (fun x => x)
  refine operate_go f bn 47 _ (enters47 _) limit used lost ops (-1) (-1) 0 _ _ w1 hf1 (by omega) (by decide) (by decide) (by decide) (by decide) _ fun wc hTk => ?_
  have u := Turns.of_tick hTk
  have hd1 : Dir w1 bn nn (one name g) := hd.keep t1 (fun x => x)
  have hs1 : Dir w1 bs ns S := hs.keep t1 (fun x => x)
  have hfn : f ≠ bn := hd1.ne_cells hf1
  have hfs : f ≠ bs := hs1.ne_cells hf1
  have hfw := lt_of_heap hf
  have hsw := hs.lt
  have hgf : g ≠ f := fun e => by rw [e, hf] at hg; cases hg
  have hgn : g ≠ bn := hd.ne_cells hg
  have hgs : g ≠ bs := hs.ne_cells hg
  have hrow : ∀ k, inRow ch k → k ≠ f := fun k hk e => by
    obtain ⟨cs, hc⟩ := hch.row hk
    rw [e, hf] at hc
    cases hc
  have hrowf : ∀ k, inRow fv k → k ≠ f ∧ k ≠ bs := fun k hk => by
    obtain ⟨cs, hc⟩ := hown.row hk
    exact ⟨fun e => (by rw [e, hf] at hc; cases hc), hs.ne_cells hc⟩
  refine (syncdir1_any f bs ns w.heap.size S l limit used lost (ops + 1) (tick (-1)) (tick (-1)) 0 true _ ch wc (u.cell x0 (by show ¬ w.heap.size = f; omega)) hTk.1 (hs1.keep u hfs.symm) ((hch.keep t1 (fun _ _ x => x)).keep u hrow) (by omega) hnm (by omega) (by omega) hu).mono ?_
  rintro e w2 ⟨rfl, k1, k2, k3⟩
  have tall : Turns (fun k => k = f ∨ k = bs) w w2 := ((t1.mono fun _ _ x => x.elim).trans (u.mono fun _ _ e => Or.inl e)).trans k3
  refine ⟨0, rfl, 0, rfl, rfl, ⟨fB, gB, bn, bs, nn, ns + l.length, _, fv, k1, ?_, ?_, .inl ⟨rfl, rfl⟩, ?_, ?_, hne, b1, b2, ?_, b4, m1, by omega⟩, ?_⟩
  · exact hd.keep tall fun e => e.elim hfn.symm hne
  · rw [← hT]
    exact k2
  · exact tall.heap hg fun e => e.elim hgf hgs
  · exact hown.keep tall fun k hk e => e.elim (hrowf k hk).1 (hrowf k hk).2
  · intro k hk
    obtain ⟨_, _, e⟩ := hk
    cases e
  · exact tall.below hB fun k e => by
      rcases e with e | e
      · omega
      · omega

set_option maxHeartbeats 1000000 in
theorem append_one (B f g : Nat) (name : ByteArray) (l : List Chg) (S : DataW Unit) (bytes news : List (BitVec 8)) (s0 : Nat) (limit used lost ops : Int) (a : Option Addr) (n c : Nat) (w : World) (h : One B w f g name l S bytes s0 limit used lost ops) (hb : Bytes w (.slice a n c) news) (hpos : 0 < n) (hroom : (n : Int) ≤ limit - used) (hu : 0 ≤ used ∧ used ≤ limit ∧ limit ≤ 1073741824) (hbl : bytes.length ≤ 1073741824) (ho : 0 ≤ ops ∧ ops ≤ 1000) (hB : B ≤ w.heap.size) (hgn : goodN name = true) (hnm : name.size ≤ maxLen)
    (hbf : ∀ q o, a = some ⟨q, o, none⟩ → q ≠ f) :
    Calls Try.prog 10 #[.pointer (some ⟨f, 0, none⟩), .string name, .slice a n c] w fun e w' => e = .returned (.int .i64 0) ∧ One B w' f g name l S (bytes ++ news) s0 limit (used + n) lost (ops + 1) ∧ Below B w w' := by
  obtain ⟨fB, gB, bn, bs, nn, ns, ch, fv, hf, hd, hs, hch, hg, hown, hne, b1, b2, b3, b4, m1, m2⟩ := h
  refine append_via _ name a n c w _ fun w1 t1 x0 x1 hv => ?_
  obtain ⟨v0, v1, v2⟩ := hv
  rw [hgn]
  have hf1 := t1.heap hf (fun x => x)
  have hd1 : Dir w1 bn nn (one name g) := hd.keep t1 (fun x => x)
  have hs1 : Dir w1 bs ns S := hs.keep t1 (fun x => x)
  have hfn : f ≠ bn := hd1.ne_cells hf1
  have hfs : f ≠ bs := hs1.ne_cells hf1
  have hfw := lt_of_heap hf
  have hgw := lt_of_heap hg
  have hgf : g ≠ f := fun e => by rw [e, hf] at hg; cases hg
  have hgbn : g ≠ bn := hd.ne_cells hg
  have hgs : g ≠ bs := hs.ne_cells hg
  have hrow : ∀ k, inRow ch k → k ≠ f ∧ k ≠ g ∧ ¬ inRow fv k := fun k hk => by
    obtain ⟨cs, hc⟩ := hch.row hk
    refine ⟨fun e => (by rw [e, hf] at hc; cases hc), fun e => (by rw [e, hg] at hc; cases hc), fun e => ?_⟩
    obtain ⟨cs', hc'⟩ := hown.row e
    rw [hc] at hc'
    cases hc'
  have hrowf : ∀ k, inRow fv k → k ≠ f ∧ k ≠ g ∧ k ≠ bn ∧ k ≠ bs ∧ k < w.heap.size := fun k hk => by
    obtain ⟨cs, hc⟩ := hown.row hk
    exact ⟨fun e => (by rw [e, hf] at hc; cases hc), fun e => (by rw [e, hg] at hc; cases hc), hd.ne_cells hc, hs.ne_cells hc, lt_of_heap hc⟩
  refine operate_go f bn 73 _ (enters73 _) limit used lost ops (-1) (-1) 0 _ _ w1 hf1 (by omega) (by decide) (by decide) (by decide) (by decide) _ fun wc hTk => ?_
  have u := Turns.of_tick hTk
  have xf : ∀ q, q ≠ f → ∀ v, w1.cell? ⟨q, 0, none⟩ = some v → wc.cell? ⟨q, 0, none⟩ = some v := fun q hq v hv => u.cell hv hq
  refine onFile1_some f bn nn (w.heap.size + 2) (w.heap.size + 2 + 1) (w.heap.size + 2 + 2) g 40 _ (one name g) name wc (fun w => enters40 _ w) (xf _ (by omega) _ v0) (xf _ (by omega) _ v1) (hTk.cell 1) (xf _ (by omega) _ v2) (hd1.keep u hfn.symm) hnm (one_file name g) _ fun m => ?_
  have tm : Turns (fun _ => False) wc (wc.drewN m) := (Turns.refl _ wc).drewN m
  have hbw : Bytes (wc.drewN m) (.slice a n c) news := by
    obtain ⟨a', c', e, hc⟩ := hb
    refine ⟨a', c', e, fun k hk => ?_⟩
    obtain ⟨q, o, e1, e2⟩ := hc k hk
    refine ⟨q, o, e1, ?_⟩
    have e3 : a = a' := by cases e; rfl
    exact tm.cell (u.cell (t1.cell e2 (fun x => x)) (hbf q o (e3.trans e1))) (fun x => x)
  refine (append1_any f w.heap.size (w.heap.size + 1) g _ fv (s0 : Nat) bytes news n a c limit used (wc.drewN m) (xf _ (by omega) _ x0) (xf _ (by omega) _ x1) hTk.1 rfl rfl hu hroom
    (u.heap (t1.heap hg (fun x => x)) hgf) (((hown.keep t1 (fun _ _ x => x)).keep u (fun k hk => (hrowf k hk).1)).keep tm (fun _ _ x => x)) hbw hpos hbl (by omega) (by omega) (fun e => by have := (hrowf _ e).2.2.2.2; omega) (fun e => by have := (hrowf _ e).2.2.2.2; omega)).mono ?_
  rintro e w2 ⟨rfl, fv', k1, k2, k3, k4, k5⟩
  have tall : Turns (fun k => k = f ∨ k = g ∨ inRow fv k) w w2 := (((t1.mono fun _ _ x => x.elim).trans (u.mono fun _ _ e => Or.inl e)).drewN m).trans k4
  have tsm : Turns (fun k => k < w.heap.size) w1 w2 := ((u.mono fun k _ (e : k = f) => by omega).drewN m).trans (k4.mono fun k _ e => by
    rcases e with e | e | e
    · omega
    · omega
    · exact (hrowf k e).2.2.2.2)
  refine ⟨0, rfl, 0, rfl, 0, rfl, ⟨rfl, ⟨fB, gB, bn, bs, nn, ns, ch, fv', k3, ?_, ?_, ?_, k1, k2, hne, b1, b2, b3, ?_, m1, m2⟩, ?_⟩, tsm⟩
  · exact hd.keep tall fun e => by
      rcases e with e | e | e
      · exact hfn e.symm
      · exact hgbn e.symm
      · exact (hrowf _ e).2.2.1 rfl
  · exact hs.keep tall fun e => by
      rcases e with e | e | e
      · exact hfs e.symm
      · exact hgs e.symm
      · exact (hrowf _ e).2.2.2.1 rfl
  · exact hch.keep tall fun k hk e => by
      rcases e with e | e | e
      · exact (hrow k hk).1 e
      · exact (hrow k hk).2.1 e
      · exact (hrow k hk).2.2 e
  · intro k hk
    rcases k5 k hk with e | e
    · exact b4 k e
    · have h1 := t1.size
      have h2 := u.size
      have h3 := tm.size
      omega
  · exact tall.below hB fun k e => by
      rcases e with e | e | e
      · omega
      · omega
      · exact b4 k e
end Go.Proofs.Ytefjljdgdoklmaa
