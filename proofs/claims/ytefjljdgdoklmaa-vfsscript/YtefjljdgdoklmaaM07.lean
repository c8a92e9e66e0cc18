import Derived.Test.YtefjljdgdoklmaaM06
/-
  Rename and Remove go through the guard with a closure over the file of the name.
-/
namespace Go.Proofs.Ytefjljdgdoklmaa
open Go.RowKit Go.Maps

set_option maxRecDepth 100000 in
set_option maxHeartbeats 4000000 in
theorem remove_via (p : Option Addr) (name : ByteArray) (w : World) (R : Ending → World → Prop)
    (HR : ∀ w1, Turns (fun _ => False) w w1 → w1.cell? ⟨w.heap.size, 0, none⟩ = some (.pointer p) → w1.cell? ⟨w.heap.size + 1, 0, none⟩ = some (.string name) → OnVars w1 (w.heap.size + 2) p name 70 #[.pointer (some ⟨w.heap.size, 0, none⟩), .pointer (some ⟨w.heap.size + 1, 0, none⟩)] →
      Calls Try.prog 36 #[.pointer p, .bool (goodN name), onVal (w.heap.size + 2)] w1 fun e w' => ∃ z : Int, e = .returned (.int .i64 z) ∧ R (.returned (.int .i64 z)) w' ∧ Turns (fun k => k < w.heap.size) w1 w') :
    Calls Try.prog 29 #[.pointer p, .string name] w R := by
  have hmf := makeF
  have HRR := hide HR
  clear HR
  have hT : Turns (fun _ => False) w ((w.alloc (.cells #[.pointer p] 22)).alloc (.cells #[.string name] 9)) := ((Turns.refl _ w).alloc _).alloc _
  have x0 : ((w.alloc (.cells #[.pointer p] 22)).alloc (.cells #[.string name] 9)).cell? ⟨w.heap.size, 0, none⟩ = some (.pointer p) := cell_of_row _ _ 0 _ 22 (0, 0) ((heap_alloc_old _ _ (by simp)).trans (heap_alloc_new w _))
  have x1 : ((w.alloc (.cells #[.pointer p] 22)).alloc (.cells #[.string name] 9)).cell? ⟨w.heap.size + 1, 0, none⟩ = some (.string name) := cell_of_row _ _ 0 _ 9 (0, 0) (heap_alloc2_new w _ _)
  have hs1 : ((w.alloc (.cells #[.pointer p] 22)).alloc (.cells #[.string name] 9)).heap.size = w.heap.size + 2 := by simp
  have HT := hide hT
  clear hT
  go_enter Try.func29, Try.ntmps29
  go_wp2_with fail
  generalize (w.alloc (.cells #[.pointer p] 22)).alloc (.cells #[.string name] 9) = w1 at *
  generalize hpf : w.heap.size = pf at *
  have hs2 : w1.drew.heap.size = pf + 2 := hs1
  have hle : pf ≤ pf + 1 := Nat.le_succ _
  go_region_held (fun w' => w'.cell? ⟨pf, 0, none⟩ = some (.pointer p) ∧ w'.cell? ⟨pf + 1, 0, none⟩ = some (.string name)) (first | (with_reducible exact ⟨g0, g1⟩) | (with_reducible exact ⟨f0, f1⟩) | (simp only [World.cell?_drew]; with_reducible exact ⟨x0, x1⟩)) (first
    | (go_at_call 22; refine (name_any name _).mono ?_; rintro e w2 ⟨rfl, rfl⟩)
    | (go_at_call 39; refine (onFile_any p name 70 _ _).mono ?_; rintro e w4 ⟨rfl, h0, h1, h2, ht⟩; rw [hs2] at h0 h1 h2 ⊢; have f0 := ht.cell (a := w1.drew) x0 (fun x => x); have f1 := ht.cell (a := w1.drew) x1 (fun x => x); have HV : Hid (OnVars w4 (pf + 2) p name 70 _) := ⟨h0, h1, h2⟩; have HT4 := hide (HT.out.drew.trans ht); clear h0 h1 h2 ht)
    | (go_at_call 36; refine (HRR.out _ HT4.out f0 f1 HV.out).mono ?_; rintro e w3 ⟨z, rfl, hz, ht⟩; have HZ := hide hz; have g0 := ht.cell f0 (Nat.lt_irrefl _); have g1 := ht.cell f1 (Nat.not_lt.2 hle); clear hz ht))
  all_goals go_wp2_with fail
  all_goals exact HZ.out

set_option maxRecDepth 100000 in
set_option maxHeartbeats 4000000 in
theorem rename_via (p : Option Addr) (a b : ByteArray) (w : World) (R : Ending → World → Prop)
    (HR : ∀ w1, Turns (fun _ => False) w w1 → w1.cell? ⟨w.heap.size, 0, none⟩ = some (.pointer p) → w1.cell? ⟨w.heap.size + 1, 0, none⟩ = some (.string a) → w1.cell? ⟨w.heap.size + 2, 0, none⟩ = some (.string b) → OnVars w1 (w.heap.size + 3) p a 50 #[.pointer (some ⟨w.heap.size + 1, 0, none⟩), .pointer (some ⟨w.heap.size + 2, 0, none⟩), .pointer (some ⟨w.heap.size, 0, none⟩)] →
      Calls Try.prog 36 #[.pointer p, .bool (goodN a && goodN b), onVal (w.heap.size + 3)] w1 fun e w' => ∃ z : Int, e = .returned (.int .i64 z) ∧ R (.returned (.int .i64 z)) w' ∧ Turns (fun k => k < w.heap.size) w1 w') :
    Calls Try.prog 15 #[.pointer p, .string a, .string b] w R := by
  have hmf := makeF
  have HRR := hide HR
  clear HR
  have hT : Turns (fun _ => False) w (((w.alloc (.cells #[.pointer p] 22)).alloc (.cells #[.string a] 9)).alloc (.cells #[.string b] 9)) := (((Turns.refl _ w).alloc _).alloc _).alloc _
  have x0 : (((w.alloc (.cells #[.pointer p] 22)).alloc (.cells #[.string a] 9)).alloc (.cells #[.string b] 9)).cell? ⟨w.heap.size, 0, none⟩ = some (.pointer p) := cell_of_row _ _ 0 _ 22 (0, 0) ((heap_alloc_old _ _ (by simp; omega)).trans ((heap_alloc_old _ _ (by simp)).trans (heap_alloc_new w _)))
  have x1 : (((w.alloc (.cells #[.pointer p] 22)).alloc (.cells #[.string a] 9)).alloc (.cells #[.string b] 9)).cell? ⟨w.heap.size + 1, 0, none⟩ = some (.string a) := cell_of_row _ _ 0 _ 9 (0, 0) ((heap_alloc_old _ _ (by simp)).trans (heap_alloc2_new w _ _))
  have x2 : (((w.alloc (.cells #[.pointer p] 22)).alloc (.cells #[.string a] 9)).alloc (.cells #[.string b] 9)).cell? ⟨w.heap.size + 2, 0, none⟩ = some (.string b) := by
    have := heap_alloc_new ((w.alloc (.cells #[.pointer p] 22)).alloc (.cells #[.string a] 9)) (.cells #[.string b] 9)
    rw [show ((w.alloc (.cells #[.pointer p] 22)).alloc (.cells #[.string a] 9)).heap.size = w.heap.size + 2 by simp] at this
    exact cell_of_row _ _ 0 _ 9 (0, 0) this
  have hs1 : (((w.alloc (.cells #[.pointer p] 22)).alloc (.cells #[.string a] 9)).alloc (.cells #[.string b] 9)).heap.size = w.heap.size + 3 := by simp
  have HT := hide hT
  clear hT
  go_enter Try.func15, Try.ntmps15
  go_wp2_with fail
  generalize ((w.alloc (.cells #[.pointer p] 22)).alloc (.cells #[.string a] 9)).alloc (.cells #[.string b] 9) = w1 at *
  generalize hpf : w.heap.size = pf at *
  have hs2 : w1.drew.heap.size = pf + 3 := hs1
  have hle : pf ≤ pf + 1 := Nat.le_succ _
  have hle2 : pf ≤ pf + 2 := Nat.le_add_right _ _
  cases hga : goodN a with
  | true =>
    rw [hga, Bool.true_and] at HRR
    go_region_held (fun w' => w'.cell? ⟨pf, 0, none⟩ = some (.pointer p) ∧ w'.cell? ⟨pf + 1, 0, none⟩ = some (.string a) ∧ w'.cell? ⟨pf + 2, 0, none⟩ = some (.string b)) (first | (with_reducible exact ⟨g0, g1, g2⟩) | (with_reducible exact ⟨f0, f1, f2⟩) | (simp only [World.cell?_drew]; with_reducible exact ⟨x0, x1, x2⟩)) (first
      | (go_at_call_of 22 (Value.string a); refine (name_any a _).mono ?_; rintro e w2 ⟨rfl, rfl⟩; rw [hga])
      | (go_at_call_of 22 (Value.string b); refine (name_any b _).mono ?_; rintro e w2 ⟨rfl, rfl⟩)
      | (go_at_call 39; refine (onFile_any p a 50 _ _).mono ?_; rintro e w4 ⟨rfl, h0, h1, h2, ht⟩; rw [hs2] at h0 h1 h2 ⊢; have f0 := ht.cell (a := w1.drew) x0 (fun x => x); have f1 := ht.cell (a := w1.drew) x1 (fun x => x); have f2 := ht.cell (a := w1.drew) x2 (fun x => x); have HV : Hid (OnVars w4 (pf + 3) p a 50 _) := ⟨h0, h1, h2⟩; have HT4 := hide (HT.out.drew.trans ht); clear h0 h1 h2 ht)
      | (go_at_call 36; refine (HRR.out _ HT4.out f0 f1 f2 HV.out).mono ?_; rintro e w3 ⟨z, rfl, hz, ht⟩; have HZ := hide hz; have g0 := ht.cell f0 (Nat.lt_irrefl _); have g1 := ht.cell f1 (Nat.not_lt.2 hle); have g2 := ht.cell f2 (Nat.not_lt.2 hle2); clear hz ht))
    all_goals go_wp2_with fail
    all_goals exact HZ.out
  | false =>
    rw [hga, Bool.false_and] at HRR
    refine wp_region_held_drew (S := fun w' => w'.cell? ⟨pf, 0, none⟩ = some (.pointer p) ∧ w'.cell? ⟨pf + 1, 0, none⟩ = some (.string a) ∧ w'.cell? ⟨pf + 2, 0, none⟩ = some (.string b)) (by kernel_rfl) ?_ (fun hHeld => ?_)
    · simp only [World.cell?_drew]
      exact ⟨x0, x1, x2⟩
    change wpAnyH _ _ _ _ _ 13 (Array.replicate 13 false) _ _
    refine wpAnyH_take (i := 0) (oi := ⟨some 7, .load 22 (.tmp 3), 22, "operate.go:107", #[], none⟩) (v := .pointer p) rfl (by kernel_rfl) (by kernel_rfl) (by kernel_rfl) (fun _ _ _ h => h) (Or.inl ⟨by rfl, ?_⟩) (by assumption) ?_
    · intro w hSw
      go_simp
    simp only [Act.put, List.setIfInBounds_toArray, List.set_cons_zero, List.set_cons_succ]
    refine wpAnyH_take (i := 1) (oi := ⟨some 8, .load 9 (.tmp 4), 9, "operate.go:107", #[], none⟩) (v := .string a) rfl (by kernel_rfl) (by kernel_rfl) (by kernel_rfl) (fun _ _ _ h => h) (Or.inl ⟨by rfl, ?_⟩) (by assumption) ?_
    · intro w hSw
      go_simp
    simp only [Act.put, List.setIfInBounds_toArray, List.set_cons_zero, List.set_cons_succ]
    refine wpAnyH_take (i := 7) (oi := ⟨some 14, .load 22 (.tmp 3), 22, "operate.go:107", #[], none⟩) (v := .pointer p) rfl (by kernel_rfl) (by kernel_rfl) (by kernel_rfl) (fun _ _ _ h => h) (Or.inl ⟨by rfl, ?_⟩) (by assumption) ?_
    · intro w hSw
      go_simp
    simp only [Act.put, List.setIfInBounds_toArray, List.set_cons_zero, List.set_cons_succ]
    refine wpAnyH_take (i := 8) (oi := ⟨some 15, .load 9 (.tmp 4), 9, "operate.go:107", #[], none⟩) (v := .string a) rfl (by kernel_rfl) (by kernel_rfl) (by kernel_rfl) (fun _ _ _ h => h) (Or.inl ⟨by rfl, ?_⟩) (by assumption) ?_
    · intro w hSw
      go_simp
    simp only [Act.put, List.setIfInBounds_toArray, List.set_cons_zero, List.set_cons_succ]
    refine wpAnyH_take (i := 9) (oi := ⟨some 16, .makeFunc (.func 50) #[] #[.tmp 4, .tmp 5, .tmp 3], 74, "operate.go:107", #[], none⟩) (v := .func (.func 50) #[] #[.pointer (some ⟨pf + 1, 0, none⟩), .pointer (some ⟨pf + 2, 0, none⟩), .pointer (some ⟨pf, 0, none⟩)]) rfl (by kernel_rfl) (by kernel_rfl) (by kernel_rfl) (fun _ _ _ h => h) (Or.inl ⟨by rfl, ?_⟩) (by assumption) ?_
    · intro w hSw
      go_simp
    simp only [Act.put, List.setIfInBounds_toArray, List.set_cons_zero, List.set_cons_succ]
    refine wpAnyH_ready (rs := [2]) (by kernel_rfl) (by simp) ?_
    refine AllReadyH.cons rfl (fun K hK => ?_) AllReadyH.nil
    go_simp
    go_wp2_with (go_at_call_of 22 (Value.string a); refine (name_any a _).mono ?_; rintro e w2 ⟨rfl, rfl⟩; rw [hga])
    refine hK.out _ _ ?_ (fun hHeld => ?_)
    · first | exact ⟨g0, g1, g2⟩ | exact ⟨f0, f1, f2⟩ | (simp only [World.cell?_drew]; exact ⟨x0, x1, x2⟩)
    clear hK K
    refine wpAnyH_take (i := 3) (oi := ⟨some 10, .move (.tmp 9), 4, "operate.go:107", #[⟨2, .data⟩, ⟨2, .chain⟩], none⟩) (v := .bool false) rfl (by kernel_rfl) (by kernel_rfl) (by kernel_rfl) (fun _ _ _ h => h) (Or.inl ⟨by rfl, ?_⟩) (by assumption) ?_
    · intro w hSw
      go_simp
    simp only [Act.put, List.setIfInBounds_toArray, List.set_cons_zero, List.set_cons_succ]
    refine wpAnyH_take (i := 4) (oi := ⟨some 11, .load 9 (.tmp 5), 9, "operate.go:107", #[⟨3, .guard⟩], some (3, true)⟩) (v := undef) rfl (by kernel_rfl) (by kernel_rfl) (by kernel_rfl) (fun _ _ _ h => h) (Or.inr ⟨by rfl, rfl⟩) (by assumption) ?_
    simp only [Act.put, List.setIfInBounds_toArray, List.set_cons_zero, List.set_cons_succ]
    refine wpAnyH_take (i := 5) (oi := ⟨some 12, .call { callee := .value (.func 22), args := #[.tmp 11], argTypes := #[9] }, 4, "operate.go:107", #[⟨4, .data⟩, ⟨3, .chain⟩, ⟨3, .guard⟩], some (3, true)⟩) (v := undef) rfl (by kernel_rfl) (by kernel_rfl) (by kernel_rfl) (fun _ _ _ h => h) (Or.inr ⟨by rfl, rfl⟩) (by assumption) ?_
    simp only [Act.put, List.setIfInBounds_toArray, List.set_cons_zero, List.set_cons_succ]
    refine wpAnyH_take (i := 6) (oi := ⟨some 13, .pick (.tmp 10) (.tmp 12) (.const (.bool false)), 4, "operate.go:107", #[⟨3, .data⟩, ⟨5, .data⟩], none⟩) (v := .bool false) rfl (by kernel_rfl) (by kernel_rfl) (by kernel_rfl) (fun _ _ _ h => h) (Or.inl ⟨by rfl, ?_⟩) (by assumption) ?_
    · intro w hSw
      go_simp
    simp only [Act.put, List.setIfInBounds_toArray, List.set_cons_zero, List.set_cons_succ]
    refine wpAnyH_ready (rs := [10]) (by kernel_rfl) (by simp) ?_
    refine AllReadyH.cons rfl (fun K hK => ?_) AllReadyH.nil
    go_simp
    go_wp2_with (go_at_call 39; refine (onFile_any p a 50 _ _).mono ?_; rintro e w4 ⟨rfl, h0, h1, h2, ht⟩; rw [hs2] at h0 h1 h2 ⊢; have f0 := ht.cell (a := w1.drew) x0 (fun x => x); have f1 := ht.cell (a := w1.drew) x1 (fun x => x); have f2 := ht.cell (a := w1.drew) x2 (fun x => x); have HV : Hid (OnVars w4 (pf + 3) p a 50 _) := ⟨h0, h1, h2⟩; have HT4 := hide (HT.out.drew.trans ht); clear h0 h1 h2 ht)
    refine hK.out _ _ ?_ (fun hHeld => ?_)
    · first | exact ⟨g0, g1, g2⟩ | exact ⟨f0, f1, f2⟩ | (simp only [World.cell?_drew]; exact ⟨x0, x1, x2⟩)
    clear hK K
    refine wpAnyH_ready (rs := [11]) (by kernel_rfl) (by simp) ?_
    refine AllReadyH.cons rfl (fun K hK => ?_) AllReadyH.nil
    go_simp
    go_wp2_with (go_at_call 36; refine (HRR.out _ HT4.out f0 f1 f2 HV.out).mono ?_; rintro e w3 ⟨z, rfl, hz, ht⟩; have HZ := hide hz; have g0 := ht.cell f0 (Nat.lt_irrefl _); have g1 := ht.cell f1 (Nat.not_lt.2 hle); have g2 := ht.cell f2 (Nat.not_lt.2 hle2); clear hz ht)
    refine hK.out _ _ ?_ (fun hHeld => ?_)
    · first | exact ⟨g0, g1, g2⟩ | exact ⟨f0, f1, f2⟩ | (simp only [World.cell?_drew]; exact ⟨x0, x1, x2⟩)
    clear hK K
    refine wpAnyH_ready (rs := [12]) (by kernel_rfl) (by simp) ?_
    refine AllReadyH.cons rfl (fun K hK => ?_) AllReadyH.nil
    go_simp
    refine hK.out _ _ ?_ (fun hHeld => ?_)
    · first | exact ⟨g0, g1, g2⟩ | exact ⟨f0, f1, f2⟩ | (simp only [World.cell?_drew]; exact ⟨x0, x1, x2⟩)
    clear hK K
    refine wpAnyH_done (by kernel_rfl) ?_ _
    go_wp2_with fail
    exact HZ.out
end Go.Proofs.Ytefjljdgdoklmaa

/-
  Read's closure: what it read is kept in a variable.
-/
namespace Go.Proofs.Ytefjljdgdoklmaa
open Go.RowKit Go.Maps

theorem enters52 (caps : Array Value) (w : World) : (callFunc 52 caps).run Try.prog w = .ok (.enter 52 caps) w := by kernel_rfl
theorem enters48 (caps : Array Value) (w : World) : (callFunc 48 caps).run Try.prog w = .ok (.enter 48 caps) w := by kernel_rfl
theorem enters40 (caps : Array Value) (w : World) : (callFunc 40 caps).run Try.prog w = .ok (.enter 40 caps) w := by kernel_rfl

set_option maxRecDepth 100000 in
set_option maxHeartbeats 1000000 in
theorem read1_in (g k c L pa pn pb : Nat) (s0 : Int) (bs : List (BitVec 8)) (at' n : Nat) (w : World) (ha : w.cell? ⟨pa, 0, none⟩ = some (.int .i64 (at' : Nat))) (hn : w.cell? ⟨pn, 0, none⟩ = some (.int .i64 (n : Nat))) (hp : w.heap[pb]? = some (.cells #[.slice none 0 0] 28 (0, 0)))
    (h : w.heap[g]? = some (.cells #[.slice (some ⟨k, 0, none⟩) L c, .int .i64 s0] 70 (0, 0))) (hL : L = bs.length) (hrow : RowB w k c bs) (hc : L ≤ c) (hL2 : L ≤ 1073741824) (h1 : at' ≤ 9223372036854775807) (h2 : n ≤ 9223372036854775807) (hlt : at' < L) :
    Calls Try.prog 52 #[.pointer (some ⟨g, 0, none⟩), .pointer (some ⟨pa, 0, none⟩), .pointer (some ⟨pn, 0, none⟩), .pointer (some ⟨pb, 0, none⟩)] w fun e w' => e = .returned (.int .i64 0) ∧ ∃ q m cq, w'.cell? ⟨pb, 0, none⟩ = some (.slice (some ⟨q, 0, none⟩) m cq) ∧ m = (readOf bs at' n).length ∧ w.heap.size ≤ q ∧ RowB w' q cq (readOf bs at' n) ∧ Turns (fun j => j = pb) w w' := by
  have H := hide h
  have HR := hide hrow
  have HL := hide hL
  have HP := hide hp
  have hpw := lt_of_heap hp
  clear h hrow hL hp
  go_enter Try.func52, Try.ntmps52
  go_wp2_with fail
  refine (read_in g k c L s0 bs at' n _ H.out HL.out HR.out hc hL2 h1 h2 hlt).mono ?_
  rintro e w1 ⟨q, m, cq, rfl, hm, hq, hcq, hr, hb⟩
  have HP1 := hide (heap_keep hb HP.out)
  have p0 : w1.cell? ⟨pb, 0, none⟩ = some (.slice none 0 0) := cell_of_row w1 pb 0 _ 28 (0, 0) HP1.out
  have z0 : w1.frozen? ⟨pb, 0, none⟩ = false := frozen_of_row w1 pb 0 _ 28 HP1.out
  have HM := hide hm
  have t1 := (Tick.refl HP1.out).set 0 (.slice (some ⟨q, 0, none⟩) m cq)
  have u1 := Turns.of_tick t1
  have hqp : q ≠ pb := by omega
  have FIN : Hid ((w1.setCell ⟨pb, 0, none⟩ (.slice (some ⟨q, 0, none⟩) m cq)).cell? ⟨pb, 0, none⟩ = some (.slice (some ⟨q, 0, none⟩) m cq) ∧ m = (readOf bs at' n).length ∧ w.heap.size ≤ q ∧ RowB (w1.setCell ⟨pb, 0, none⟩ (.slice (some ⟨q, 0, none⟩) m cq)) q cq (readOf bs at' n) ∧ Turns (fun j => j = pb) w (w1.setCell ⟨pb, 0, none⟩ (.slice (some ⟨q, 0, none⟩) m cq))) := by
    refine ⟨t1.cell 0, hm, hq, ?_, (Turns.of_below hb _).trans u1⟩
    obtain ⟨cs, r1, r2, r3⟩ := hr
    exact ⟨cs, u1.heap r1 hqp, r2, r3⟩
  clear hm t1 u1 hr hb
  go_wp2_with fail
  go_ret
  exact ⟨rfl, q, m, cq, FIN.out⟩
end Go.Proofs.Ytefjljdgdoklmaa

/-
  A file system with one file: what each operation makes of it.
-/
namespace Go.Proofs.Ytefjljdgdoklmaa
open Go.RowKit Go.Maps

/-- A directory with one name. -/
def one (name : ByteArray) (g : Nat) : DataW Unit := .map [(key name, .lit (.int .i64 (g : Nat)))]
theorem one_file (name : ByteArray) (g : Nat) : fileOf (one name g) name = some g := by
  have : (one name g).atKey (key name) .nil = .lit (.int .i64 (g : Nat)) := by
    simp [one, DataW.atKey, key, Lit.sameKey]
  unfold fileOf
  rw [this]
  simp
theorem none_file (name : ByteArray) : fileOf (.map []) name = none := by
  unfold fileOf
  simp [DataW.atKey]
theorem apply_first (name : ByteArray) (g : Nat) : applyD (.map []) ⟨⟨#[]⟩, name, some g⟩ = one name g := by
  simp [applyD, one, DataW.del, DataW.put, DataW.insert]

/-- A directory's block has just as many entries as it has names. -/
theorem Dir.tight {w : World} {b n : Nat} {D : DataW Unit} (h : Dir w b n D) : Dir w b (Maps.size D) D := by
  obtain ⟨es, clock, hb, F, _, rfl⟩ := h
  exact ⟨es, clock, hb, F, by simp [Maps.size, length_sorted], rfl⟩

/-- A file system whose directory has the one file g; the synced one is S behind the changes l. -/
structure One (B : Nat) (w : World) (f g : Nat) (name : ByteArray) (l : List Chg) (S : DataW Unit) (bytes : List (BitVec 8)) (s0 : Nat) (limit used lost ops : Int) : Prop where
  fB : B ≤ f
  gB : B ≤ g
  ex : ∃ (bn bs nn ns : Nat) (ch fv : Value), w.heap[f]? = some (.cells (fsCells limit (.map (some bn)) (.map (some bs)) ch used lost true ops (-1) (-1) 0) 57 (0, 0)) ∧ Dir w bn nn (one name g) ∧ Dir w bs ns S ∧ Chs w ch l ∧
    w.heap[g]? = some (.cells #[fv, .int .i64 (s0 : Nat)] 70 (0, 0)) ∧ OwnB w fv bytes ∧ bn ≠ bs ∧ B ≤ bn ∧ B ≤ bs ∧ (∀ k, inRow ch k → B ≤ k) ∧ (∀ k, inRow fv k → B ≤ k) ∧ nn ≤ 1000 ∧ ns ≤ 1000

set_option maxHeartbeats 1000000 in
theorem create_first (B f bn bs nn ns : Nat) (name : ByteArray) (limit ops : Int) (w : World) (h : w.heap[f]? = some (.cells (fsCells limit (.map (some bn)) (.map (some bs)) (.slice none 0 0) 0 0 true ops (-1) (-1) 0) 57 (0, 0))) (hd : Dir w bn nn (.map [])) (hs : Dir w bs ns (.map [])) (hne : bn ≠ bs) (h1 : B ≤ f) (h2 : B ≤ bn) (h3 : B ≤ bs) (hB : B ≤ w.heap.size) (hn : nn ≤ 900) (hn2 : ns ≤ 900) (ho : 0 ≤ ops ∧ ops ≤ 1000) (hgn : goodN name = true) (hnm : name.size ≤ maxLen) :
    Calls Try.prog 9 #[.pointer (some ⟨f, 0, none⟩), .string name] w fun e w' => e = .returned (.int .i64 0) ∧ ∃ g, One B w' f g name [⟨⟨#[]⟩, name, some g⟩] (.map []) [] 0 limit 0 0 (ops + 1) ∧ Below B w w' := by
  refine create_via _ name w _ fun w1 pf pn t1 x0 x1 hpf hpn => ?_
  rw [hgn]
  have hf1 := t1.heap h (fun x => x)
  have hd1 : Dir w1 bn nn (.map []) := hd.keep t1 (fun x => x)
  have hs1 : Dir w1 bs ns (.map []) := hs.keep t1 (fun x => x)
  refine operate_go f bn 37 _ (enters37 _) limit 0 0 ops (-1) (-1) 0 _ _ w1 hf1 (by omega) (by decide) (by decide) (by decide) (by decide) _ fun wc hT => ?_
  have u := Turns.of_tick hT
  have hfn : f ≠ bn := hd1.ne_cells hf1
  have hfs : f ≠ bs := hs1.ne_cells hf1
  have hfw := lt_of_heap h
  have hbw := hd.lt
  refine (create1_new f bn nn pf pn (.map []) [] name limit 0 0 (ops + 1) (tick (-1)) (tick (-1)) 0 true _ _ wc (u.cell x0 (by show ¬ pf = f; omega)) (u.cell x1 (by show ¬ pn = f; omega)) hT.1 (hd1.keep u hfn.symm) (.inl ⟨rfl, rfl⟩) (by unfold maxLen; omega) (by decide) hnm (none_file name)).mono ?_
  rintro e w2 ⟨rfl, ch', k1, k2, k3, k4, k5, k6⟩
  have hnr : ∀ k, inRow (.slice none 0 0) k → False := fun k hk => by obtain ⟨_, _, e⟩ := hk; cases e
  have hwc : w.heap.size ≤ wc.heap.size := Nat.le_trans t1.size u.size
  have hsw := hs.lt
  have tt : Turns (fun k => k < w.heap.size) w1 w2 := (u.mono fun k _ e => by omega).trans (k5.mono fun k _ e => by
    rcases e with e | e | e
    · omega
    · omega
    · exact (hnr k e).elim)
  refine ⟨0, rfl, 0, rfl, ⟨rfl, wc.heap.size, ⟨h1, Nat.le_trans hB hwc, bn, bs, nn + 1, ns, ch', _, k1, ?_, ?_, k4, k2, .inl ⟨rfl, rfl⟩, hne, h2, h3, ?_, ?_, by omega, by omega⟩, ?_⟩, tt⟩
  · rw [← apply_first]
    exact k3
  · refine (hs1.keep u hfs.symm).keep k5 fun e => ?_
    rcases e with e | e | e
    · exact hfs e.symm
    · exact hne e.symm
    · exact hnr _ e
  · intro k hk
    rcases k6 k hk with e | e
    · exact (hnr k e).elim
    · omega
  · intro k hk
    exact (hnr k hk).elim
  · have := t1.below hB (fun _ x => x.elim)
    refine (this.trans ((u.below (by have := t1.size; omega) (fun k e => by have e' : k = f := e; omega)))).trans (k5.below (Nat.le_trans hB hwc) (fun k e => ?_))
    rcases e with e | e | e
    · omega
    · omega
    · exact (hnr k e).elim
end Go.Proofs.Ytefjljdgdoklmaa
