/-
  A file system that is not there, or that nobody made, refuses every call.
-/
import Derived.Test.YtefjljdgdoklmaaVia
namespace Go.Proofs.Ytefjljdgdoklmaa
open Go.RowKit Go.Maps

theorem NoFs.keep {w w' : World} {p : Option Addr} (h : NoFs w p) (t : Turns (fun _ => False) w w') : NoFs w' p := by
  rcases h with h | ⟨f, h1, h2⟩
  · exact .inl h
  · exact .inr ⟨f, h1, t.cell h2 (fun x => x)⟩
theorem kept {w w1 : World} (t : Turns (fun _ => False) w w1) : Below w.heap.size w w1 := t.below (Nat.le_refl _) (fun _ x => x.elim)
/-- It answers this, and turns nothing. -/
def Says (z : Int) (w : World) (e : Ending) (w' : World) : Prop := e = .returned (.int .i64 z) ∧ Below w.heap.size w w'

theorem create_no (p : Option Addr) (name : ByteArray) (w : World) (h : NoFs w p) : Calls Try.prog 9 #[.pointer p, .string name] w (Says 1 w) :=
  create_via p name w _ fun w1 _ _ t1 _ _ _ _ => (operate_no p _ _ w1 (h.keep t1)).mono fun e w' ⟨he, hw⟩ => ⟨1, he, ⟨rfl, by rw [hw]; exact kept t1⟩, by rw [hw]; exact Turns.refl _ _⟩
theorem append_no (p : Option Addr) (name : ByteArray) (a : Option Addr) (n c : Nat) (w : World) (h : NoFs w p) : Calls Try.prog 10 #[.pointer p, .string name, .slice a n c] w (Says 1 w) :=
  append_via p name a n c w _ fun w1 t1 _ _ _ => (operate_no p _ _ w1 (h.keep t1)).mono fun e w' ⟨he, hw⟩ => ⟨1, he, ⟨rfl, by rw [hw]; exact kept t1⟩, by rw [hw]; exact Turns.refl _ _⟩
theorem sync_no (p : Option Addr) (name : ByteArray) (w : World) (h : NoFs w p) : Calls Try.prog 14 #[.pointer p, .string name] w (Says 1 w) :=
  sync_via p name w _ fun w1 t1 _ => (operate_no p _ _ w1 (h.keep t1)).mono fun e w' ⟨he, hw⟩ => ⟨1, he, rfl, by rw [hw]; exact kept t1⟩
theorem syncdir_no (p : Option Addr) (w : World) (h : NoFs w p) : Calls Try.prog 13 #[.pointer p] w (Says 1 w) :=
  syncdir_via p w _ fun w1 t1 _ => (operate_no p _ _ w1 (h.keep t1)).mono fun e w' ⟨he, hw⟩ => ⟨1, he, rfl, by rw [hw]; exact kept t1⟩

set_option maxRecDepth 100000 in
set_option maxHeartbeats 1000000 in
theorem fuse_no (p : Option Addr) (n : Int) (w : World) (h : NoFs w p) : Calls Try.prog 17 #[.pointer p, .int .i64 n] w (Says 1 w) := by
  have H := hide h
  clear h
  go_enter Try.func17, Try.ntmps17
  go_wp2_with fail
  refine (made_no p _ H.out).mono ?_
  rintro e w1 ⟨rfl, rfl⟩
  go_wp2_with fail
  go_ret
  exact ⟨rfl, Below.refl _ _⟩
set_option maxRecDepth 100000 in
set_option maxHeartbeats 1000000 in
theorem fault_no (p : Option Addr) (n z : Int) (w : World) (h : NoFs w p) : Calls Try.prog 19 #[.pointer p, .int .i64 n, .int .i64 z] w (Says 1 w) := by
  have H := hide h
  clear h
  go_enter Try.func19, Try.ntmps19
  go_wp2_with fail
  refine (made_no p _ H.out).mono ?_
  rintro e w1 ⟨rfl, rfl⟩
  go_wp2_with fail
  go_ret
  exact ⟨rfl, Below.refl _ _⟩
set_option maxRecDepth 100000 in
set_option maxHeartbeats 1000000 in
theorem crash_no (p : Option Addr) (n : Int) (a : Option Addr) (k c : Nat) (w : World) (h : NoFs w p) : Calls Try.prog 11 #[.pointer p, .int .i64 n, .slice a k c] w (Says 1 w) := by
  have H := hide h
  clear h
  go_enter Try.func11, Try.ntmps11
  go_wp2_with fail
  refine (made_no p _ H.out).mono ?_
  rintro e w1 ⟨rfl, rfl⟩
  go_wp2_with fail
  go_ret
  exact ⟨rfl, Below.refl _ _⟩
set_option maxRecDepth 100000 in
set_option maxHeartbeats 1000000 in
theorem turn_no (p : Option Addr) (name : ByteArray) (n : Int) (w : World) (h : NoFs w p) : Calls Try.prog 30 #[.pointer p, .string name, .int .i64 n, .int .u8 1] w (Says 1 w) := by
  have H := hide h
  clear h
  go_enter Try.func30, Try.ntmps30
  go_wp2_with fail
  refine (made_no p _ H.out).mono ?_
  rintro e w1 ⟨rfl, rfl⟩
  go_wp2_with fail
  go_ret
  exact ⟨rfl, Below.refl _ _⟩
set_option maxRecDepth 100000 in
set_option maxHeartbeats 1000000 in
theorem size_no (p : Option Addr) (name : ByteArray) (w : World) (h : NoFs w p) : Calls Try.prog 31 #[.pointer p, .string name] w (Says 0 w) := by
  have H := hide h
  clear h
  go_enter Try.func31, Try.ntmps31
  go_wp2_with fail
  refine (made_no p _ H.out).mono ?_
  rintro e w1 ⟨rfl, rfl⟩
  go_wp2_with fail
  go_ret
  exact ⟨rfl, Below.refl _ _⟩
set_option maxRecDepth 100000 in
set_option maxHeartbeats 1000000 in
theorem used_no (p : Option Addr) (w : World) (h : NoFs w p) : Calls Try.prog 32 #[.pointer p] w (Says 0 w) := by
  have H := hide h
  clear h
  go_enter Try.func32, Try.ntmps32
  go_wp2_with fail
  refine (made_no p _ H.out).mono ?_
  rintro e w1 ⟨rfl, rfl⟩
  go_wp2_with fail
  go_ret
  exact ⟨rfl, Below.refl _ _⟩
set_option maxRecDepth 100000 in
set_option maxHeartbeats 1000000 in
theorem ops_no (p : Option Addr) (w : World) (h : NoFs w p) : Calls Try.prog 33 #[.pointer p] w (Says 0 w) := by
  have H := hide h
  clear h
  go_enter Try.func33, Try.ntmps33
  go_wp2_with fail
  refine (made_no p _ H.out).mono ?_
  rintro e w1 ⟨rfl, rfl⟩
  go_wp2_with fail
  go_ret
  exact ⟨rfl, Below.refl _ _⟩
set_option maxRecDepth 100000 in
set_option maxHeartbeats 1000000 in
theorem on_no (p : Option Addr) (w : World) (h : NoFs w p) : Calls Try.prog 18 #[.pointer p] w fun e w' => e = .returned (.bool false) ∧ w' = w := by
  have H := hide h
  clear h
  go_enter Try.func18, Try.ntmps18
  go_wp2_with fail
  refine (made_no p _ H.out).mono ?_
  rintro e w1 ⟨rfl, rfl⟩
  go_wp2_with fail
  go_ret
  exact ⟨rfl, rfl⟩
set_option maxRecDepth 100000 in
set_option maxHeartbeats 1000000 in
theorem names_no (p : Option Addr) (w : World) (h : NoFs w p) : Calls Try.prog 12 #[.pointer p] w fun e w' => e = .returned (.slice none 0 0) ∧ w' = w := by
  have H := hide h
  clear h
  go_enter Try.func12, Try.ntmps12
  go_wp2_with fail
  refine (made_no p _ H.out).mono ?_
  rintro e w1 ⟨rfl, rfl⟩
  go_wp2_with fail
  go_ret
  exact ⟨rfl, rfl⟩

set_option maxRecDepth 100000 in
set_option maxHeartbeats 4000000 in
theorem remove_no (p : Option Addr) (name : ByteArray) (w : World) (h : NoFs w p) : Calls Try.prog 29 #[.pointer p, .string name] w (Says 1 w) := by
  have hmf := makeF
  have hT : Turns (fun _ => False) w ((w.alloc (.cells #[.pointer p] 22)).alloc (.cells #[.string name] 9)) := ((Turns.refl _ w).alloc _).alloc _
  have x0 : ((w.alloc (.cells #[.pointer p] 22)).alloc (.cells #[.string name] 9)).cell? ⟨w.heap.size, 0, none⟩ = some (.pointer p) := cell_of_row _ _ 0 _ 22 (0, 0) ((heap_alloc_old _ _ (by simp)).trans (heap_alloc_new w _))
  have x1 : ((w.alloc (.cells #[.pointer p] 22)).alloc (.cells #[.string name] 9)).cell? ⟨w.heap.size + 1, 0, none⟩ = some (.string name) := cell_of_row _ _ 0 _ 9 (0, 0) (heap_alloc2_new w _ _)
  have HT := hide hT
  have HN := hide (h.keep hT)
  clear hT h
  go_enter Try.func29, Try.ntmps29
  go_wp2_with fail
  generalize (w.alloc (.cells #[.pointer p] 22)).alloc (.cells #[.string name] 9) = w1 at *
  generalize w.heap.size = pf at x0 x1 ⊢
  go_region_held (fun w' => w'.cell? ⟨pf, 0, none⟩ = some (.pointer p) ∧ w'.cell? ⟨pf + 1, 0, none⟩ = some (.string name)) (first | (with_reducible exact ⟨f0, f1⟩) | (simp only [World.cell?_drew]; with_reducible exact ⟨x0, x1⟩)) (first
    | (go_at_call 22; refine (name_any name _).mono ?_; rintro e w2 ⟨rfl, rfl⟩)
    | (go_at_call 39; refine (onFile_any p name 70 _ _).mono ?_; rintro e w4 ⟨rfl, _, _, _, ht⟩; have f0 := ht.cell (a := w1.drew) x0 (fun x => x); have f1 := ht.cell (a := w1.drew) x1 (fun x => x); have HT4 := hide (HT.out.drew.trans ht); have HN4 := hide (NoFs.keep (w := w1.drew) HN.out ht); clear ht)
    | (go_at_call 36; refine (operate_no p _ _ _ HN4.out).mono ?_; rintro e w3 ⟨rfl, rfl⟩))
  all_goals go_wp2_with fail
  all_goals go_ret
  all_goals exact ⟨rfl, kept HT4.out⟩

set_option maxRecDepth 100000 in
set_option maxHeartbeats 4000000 in
theorem read_no (p : Option Addr) (name : ByteArray) (at' n : Int) (w : World) (h : NoFs w p) :
    Calls Try.prog 20 #[.pointer p, .string name, .int .i64 at', .int .i64 n] w fun e w' => e = .returned (.tuple #[.slice none 0 0, .int .i64 1]) ∧ Below w.heap.size w w' := by
  have hmf := makeF
  have hT : Turns (fun _ => False) w (((w.alloc (.cells #[.int .i64 at'] 3)).alloc (.cells #[.int .i64 n] 3)).alloc (.cells #[.slice none 0 0] 28)) := (((Turns.refl _ w).alloc _).alloc _).alloc _
  have x0 : (((w.alloc (.cells #[.int .i64 at'] 3)).alloc (.cells #[.int .i64 n] 3)).alloc (.cells #[.slice none 0 0] 28)).cell? ⟨w.heap.size, 0, none⟩ = some (.int .i64 at') := cell_of_row _ _ 0 _ 3 (0, 0) ((heap_alloc_old _ _ (by simp; omega)).trans ((heap_alloc_old _ _ (by simp)).trans (heap_alloc_new w _)))
  have x1 : (((w.alloc (.cells #[.int .i64 at'] 3)).alloc (.cells #[.int .i64 n] 3)).alloc (.cells #[.slice none 0 0] 28)).cell? ⟨w.heap.size + 1, 0, none⟩ = some (.int .i64 n) := cell_of_row _ _ 0 _ 3 (0, 0) ((heap_alloc_old _ _ (by simp)).trans (heap_alloc2_new w _ _))
  have x2 : (((w.alloc (.cells #[.int .i64 at'] 3)).alloc (.cells #[.int .i64 n] 3)).alloc (.cells #[.slice none 0 0] 28)).cell? ⟨w.heap.size + 2, 0, none⟩ = some (.slice none 0 0) := by
    have := heap_alloc_new ((w.alloc (.cells #[.int .i64 at'] 3)).alloc (.cells #[.int .i64 n] 3)) (.cells #[.slice none 0 0] 28)
    rw [show ((w.alloc (.cells #[.int .i64 at'] 3)).alloc (.cells #[.int .i64 n] 3)).heap.size = w.heap.size + 2 by simp] at this
    exact cell_of_row _ _ 0 _ 28 (0, 0) this
  have HT := hide hT
  have HN := hide (h.keep hT)
  clear hT h
  go_enter Try.func20, Try.ntmps20
  go_wp2_with fail
  generalize ((w.alloc (.cells #[.int .i64 at'] 3)).alloc (.cells #[.int .i64 n] 3)).alloc (.cells #[.slice none 0 0] 28) = w1 at *
  generalize w.heap.size = pf at x0 x1 x2 ⊢
  refine (name_any name _).mono ?_
  rintro e w2 ⟨rfl, rfl⟩
  have hcase : goodN name = false ∨ (goodN name = true ∧ at' < 0) ∨ (goodN name = true ∧ ¬ at' < 0 ∧ n < 0) ∨ (goodN name = true ∧ ¬ at' < 0 ∧ ¬ n < 0) := by
    cases goodN name
    · exact .inl rfl
    · by_cases h1 : at' < 0
      · exact .inr (.inl ⟨rfl, h1⟩)
      · by_cases h2 : n < 0
        · exact .inr (.inr (.inl ⟨rfl, h1, h2⟩))
        · exact .inr (.inr (.inr ⟨rfl, h1, h2⟩))
  rcases hcase with e1 | ⟨e1, e2⟩ | ⟨e1, e2, e3⟩ | ⟨e1, e2, e3⟩
  all_goals rw [e1]
  all_goals go_wp2_with fail
  all_goals
    refine (onFile_any p name 52 _ _).mono ?_
    rintro e w4 ⟨rfl, _, _, _, ht⟩
    have f2 := ht.cell x2 (fun x => x)
    have HT4 := hide (HT.out.trans ht)
    have HN4 := hide (HN.out.keep ht)
    clear ht
    go_wp2_with fail
    refine (operate_no p _ _ _ HN4.out).mono ?_
    rintro e w5 ⟨rfl, rfl⟩
    go_wp2_with fail
    go_ret2
    exact ⟨rfl, kept HT4.out⟩
end Go.Proofs.Ytefjljdgdoklmaa
