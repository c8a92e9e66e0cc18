/-
  A table that is not there, or that nobody made.
-/
import Derived.Test.YtkeglaplckfllaaLv
namespace Go.Proofs.Ytkeglaplckfllaa
open Go.RowKit
set_option maxRecDepth 100000
set_option maxHeartbeats 4000000
theorem NoTab.quiet {w w' : World} {p : Option Addr} (h : NoTab w p) (t : Turns (fun _ => False) w w') : NoTab w' p := by
  rcases h with rfl | ⟨q, rfl, h⟩
  · exact .inl rfl
  · exact .inr ⟨q, rfl, t.cell h (fun x => x)⟩
def zeroE : Array Value := #[.slice none 0 0, .int .u64 0, .int .i64 0, .slice none 0 0]
section
variable (p : Option Addr) (w : World) (h : NoTab w p)
include h
theorem len_no : Calls Try.prog 13 #[.pointer p] w fun e w' => e = .returned (.int .i64 0) ∧ w' = w := by
  have HM := hide (made_no p w h)
  go_enter Try.func13, Try.ntmps13
  go_wp2_with (go_at_call 35; refine HM.out.mono ?_; rintro e w1 ⟨rfl, rfl⟩)
  go_ret
  exact ⟨rfl, rfl⟩
theorem size_no : Calls Try.prog 22 #[.pointer p] w fun e w' => e = .returned (.int .i64 0) ∧ w' = w := by
  have HM := hide (made_no p w h)
  go_enter Try.func22, Try.ntmps22
  go_wp2_with (go_at_call 35; refine HM.out.mono ?_; rintro e w1 ⟨rfl, rfl⟩)
  go_ret
  exact ⟨rfl, rfl⟩
theorem height_no (k s : Value) : Calls Try.prog 24 #[.pointer p, k, s] w fun e w' => e = .returned (.int .i64 0) ∧ w' = w := by
  have HM := hide (made_no p w h)
  go_enter Try.func24, Try.ntmps24
  go_wp2_with (go_at_call 35; refine HM.out.mono ?_; rintro e w1 ⟨rfl, rfl⟩)
  go_ret
  exact ⟨rfl, rfl⟩
theorem steps_no (k s : Value) : Calls Try.prog 26 #[.pointer p, k, s] w fun e w' => e = .returned (.int .i64 0) ∧ w' = w := by
  have HM := hide (made_no p w h)
  go_enter Try.func26, Try.ntmps26
  go_wp2_with (go_at_call 35; refine HM.out.mono ?_; rintro e w1 ⟨rfl, rfl⟩)
  go_ret
  exact ⟨rfl, rfl⟩
theorem insert_no (a0 a1 a2 a3 : Value) (hh : Int) : Calls Try.prog 8 #[.pointer p, .agg #[a0, a1, a2, a3], .int .i64 hh] w fun e w' => e = .returned (.int .i64 1) ∧ Below w.heap.size w w' := by
  have tk : Turns (fun _ => False) w (w.alloc (.cells #[a0, a1, a2, a3] 29)) := (Turns.refl _ _).alloc _
  have HM := hide (made_no p _ (h.quiet tk))
  have HB := hide (tk.below (Nat.le_refl _) (fun _ x => x.elim))
  clear tk
  go_enter Try.func8, Try.ntmps8
  go_wp2_with (go_at_call 35; refine HM.out.mono ?_; rintro e w1 ⟨rfl, hw1⟩; subst hw1)
  go_ret
  exact ⟨rfl, HB.out⟩
theorem from_no (k : Value) (n : Int) : Calls Try.prog 29 #[.pointer p, k, .int .i64 n] w fun e w' => e = .returned (.slice none 0 0) ∧ Below w.heap.size w w' := by
  have tk : Turns (fun _ => False) w (w.alloc (.cells #[.int .i64 n] 3)) := (Turns.refl _ _).alloc _
  have HM := hide (made_no p _ (h.quiet tk))
  have HB := hide (tk.below (Nat.le_refl _) (fun _ x => x.elim))
  clear tk
  go_enter Try.func29, Try.ntmps29
  go_wp2_with (go_at_call 35; refine HM.out.mono ?_; rintro e w1 ⟨rfl, hw1⟩; subst hw1)
  go_ret
  exact ⟨rfl, HB.out⟩
theorem all_no : Calls Try.prog 11 #[.pointer p] w fun e w' => e = .returned (.slice none 0 0) ∧ Below w.heap.size w w' := by
  have HL := hide (len_no p w h)
  have HF := hide (from_no p w h (.slice none 0 0) 0)
  go_enter Try.func11, Try.ntmps11
  go_wp2_with (first | (go_at_call 13; refine HL.out.mono ?_; rintro e w1 ⟨rfl, hw1⟩; subst hw1) | (go_at_call 29; refine HF.out.mono ?_; rintro e w2 ⟨rfl, b2⟩; have B2 := hide b2; clear b2))
  go_ret
  exact ⟨rfl, B2.out⟩
theorem get_no (k s : Value) : Calls Try.prog 18 #[.pointer p, k, s] w fun e w' => e = .returned (.tuple #[.agg #[.slice none 0 0, .int .u64 0, .int .i64 0, .slice none 0 0], .int .i64 1]) ∧ Below w.heap.size w w' := by
  have tk : Turns (fun _ => False) w (w.alloc (.cells #[.slice none 0 0, .int .u64 0, .int .i64 0, .slice none 0 0] 29)) := (Turns.refl _ _).alloc _
  have HM := hide (made_no p _ (h.quiet tk))
  have HB := hide (tk.below (Nat.le_refl _) (fun _ x => x.elim))
  have HR := hide (heap_alloc_new w (.cells #[.slice none 0 0, .int .u64 0, .int .i64 0, .slice none 0 0] 29))
  clear tk
  go_enter Try.func18, Try.ntmps18
  go_upto_region 2 with (go_at_call 35; refine HM.out.mono ?_; rintro e w1 ⟨rfl, hw1⟩; subst hw1)
  generalize w.alloc (.cells #[.slice none 0 0, .int .u64 0, .int .i64 0, .slice none 0 0] 29) = w1 at *
  generalize hg0 : w.heap.size = g at *
  have q0 := cell_of_row w1 g 0 _ 29 (0, 0) HR.out
  have q1 := cell_of_row w1 g 1 _ 29 (0, 0) HR.out
  have q2 := cell_of_row w1 g 2 _ 29 (0, 0) HR.out
  have q3 := cell_of_row w1 g 3 _ 29 (0, 0) HR.out
  have f0 := frozen_of_row w1 g 0 _ 29 HR.out
  have f1 := frozen_of_row w1 g 1 _ 29 HR.out
  have f2 := frozen_of_row w1 g 2 _ 29 HR.out
  have f3 := frozen_of_row w1 g 3 _ 29 HR.out
  go_wp2_with fail
  have k3 := (((((Tick.refl HR.out).set 0 (.slice none 0 0)).set 1 (.int .u64 0)).set 2 (.int .i64 0)).set 3 (.slice none 0 0))
  refine bodyPost_ret (v := .tuple #[.agg #[.slice none 0 0, .int .u64 0, .int .i64 0, .slice none 0 0], .int .i64 1]) ?_ rfl ?_
  · exact results_cell_tmp Try.results18 _ _ _ _ _ _ _ _ rfl rfl k3.1 Try.underlying29 rfl info29
  · exact ⟨rfl, by rw [hg0]; exact HB.out.trans ((Turns.of_tick k3).below (by have := HB.out.size; omega) (fun k e => by omega))⟩
theorem seek_no (k s : Value) : Calls Try.prog 10 #[.pointer p, k, s] w fun e w' => e = .returned (.tuple #[.agg #[.slice none 0 0, .int .u64 0, .int .i64 0, .slice none 0 0], .bool false]) ∧ Below w.heap.size w w' := by
  have tk : Turns (fun _ => False) w (w.alloc (.cells #[.slice none 0 0, .int .u64 0, .int .i64 0, .slice none 0 0] 29)) := (Turns.refl _ _).alloc _
  have HM := hide (made_no p _ (h.quiet tk))
  have HB := hide (tk.below (Nat.le_refl _) (fun _ x => x.elim))
  have HR := hide (heap_alloc_new w (.cells #[.slice none 0 0, .int .u64 0, .int .i64 0, .slice none 0 0] 29))
  clear tk
  go_enter Try.func10, Try.ntmps10
  go_upto_region 2 with (go_at_call 35; refine HM.out.mono ?_; rintro e w1 ⟨rfl, hw1⟩; subst hw1)
  generalize w.alloc (.cells #[.slice none 0 0, .int .u64 0, .int .i64 0, .slice none 0 0] 29) = w1 at *
  generalize hg0 : w.heap.size = g at *
  have q0 := cell_of_row w1 g 0 _ 29 (0, 0) HR.out
  have q1 := cell_of_row w1 g 1 _ 29 (0, 0) HR.out
  have q2 := cell_of_row w1 g 2 _ 29 (0, 0) HR.out
  have q3 := cell_of_row w1 g 3 _ 29 (0, 0) HR.out
  have f0 := frozen_of_row w1 g 0 _ 29 HR.out
  have f1 := frozen_of_row w1 g 1 _ 29 HR.out
  have f2 := frozen_of_row w1 g 2 _ 29 HR.out
  have f3 := frozen_of_row w1 g 3 _ 29 HR.out
  go_wp2_with fail
  have k3 := (((((Tick.refl HR.out).set 0 (.slice none 0 0)).set 1 (.int .u64 0)).set 2 (.int .i64 0)).set 3 (.slice none 0 0))
  refine bodyPost_ret (v := .tuple #[.agg #[.slice none 0 0, .int .u64 0, .int .i64 0, .slice none 0 0], .bool false]) ?_ rfl ?_
  · exact results_cell_tmp Try.results10 _ _ _ _ _ _ _ _ rfl rfl k3.1 Try.underlying29 rfl info29
  · exact ⟨rfl, by rw [hg0]; exact HB.out.trans ((Turns.of_tick k3).below (by have := HB.out.size; omega) (fun k e => by omega))⟩
end
/-- The same entries are found the same. -/
theorem entry_same (ka va ka' va' : Option Addr) (kn kc vn vc kc' vc' s : Nat) (k : Int) (key val : List (BitVec 8)) (w : World) (h1 : Bytes w (.slice ka kn kc) key) (h2 : Bytes w (.slice va vn vc) val) (h3 : Bytes w (.slice ka' kn kc') key) (h4 : Bytes w (.slice va' vn vc') val) (hk : kn ≤ 1000000) (hv : vn ≤ 1000000) :
    Calls Try.prog 21 #[.agg #[.slice ka kn kc, .int .u64 (s : Nat), .int .i64 k, .slice va vn vc], .agg #[.slice ka' kn kc', .int .u64 (s : Nat), .int .i64 k, .slice va' vn vc']] w fun e w' => e = .returned (.bool true) ∧ Below w.heap.size w w' := by
  have t0 : Turns (fun _ => False) w ((w.alloc (.cells #[.slice ka kn kc, .int .u64 (s : Nat), .int .i64 k, .slice va vn vc] 29)).alloc (.cells #[.slice ka' kn kc', .int .u64 (s : Nat), .int .i64 k, .slice va' vn vc'] 29)) := ((Turns.refl _ w).alloc _).alloc _
  have HB := hide (t0.below (B := w.heap.size) (Nat.le_refl _) (fun _ x => x.elim))
  have H1 := hide (h1.quiet t0)
  have H2 := hide (h2.quiet t0)
  have H3 := hide (h3.quiet t0)
  have H4 := hide (h4.quiet t0)
  have r0 := heap_keep ((Below.refl _ (w.alloc (.cells #[.slice ka kn kc, .int .u64 (s : Nat), .int .i64 k, .slice va vn vc] 29))).alloc (Nat.le_refl _) (.cells #[.slice ka' kn kc', .int .u64 (s : Nat), .int .i64 k, .slice va' vn vc'] 29)) (heap_alloc_new w (.cells #[.slice ka kn kc, .int .u64 (s : Nat), .int .i64 k, .slice va vn vc] 29))
  have r1 := heap_alloc_new (w.alloc (.cells #[.slice ka kn kc, .int .u64 (s : Nat), .int .i64 k, .slice va vn vc] 29)) (.cells #[.slice ka' kn kc', .int .u64 (s : Nat), .int .i64 k, .slice va' vn vc'] 29)
  rw [show (w.alloc (.cells #[.slice ka kn kc, .int .u64 (s : Nat), .int .i64 k, .slice va vn vc] 29)).heap.size = w.heap.size + 1 by simp] at r1
  have R0 := hide r0
  have R1 := hide r1
  clear h1 h2 h3 h4 t0 r0 r1
  go_enter Try.func21, Try.ntmps21
  go_upto_region 1 with (fail)
  generalize (w.alloc (.cells #[.slice ka kn kc, .int .u64 (s : Nat), .int .i64 k, .slice va vn vc] 29)).alloc (.cells #[.slice ka' kn kc', .int .u64 (s : Nat), .int .i64 k, .slice va' vn vc'] 29) = w0 at *
  generalize hg0 : w.heap.size = g at *
  have a0 : w0.cell? ⟨g, 0, none⟩ = some (.slice ka kn kc) := cell_of_row w0 g 0 _ 29 (0, 0) R0.out
  have a1 : w0.cell? ⟨g, 1, none⟩ = some (.int .u64 (s : Nat)) := cell_of_row w0 g 1 _ 29 (0, 0) R0.out
  have a2 : w0.cell? ⟨g, 2, none⟩ = some (.int .i64 k) := cell_of_row w0 g 2 _ 29 (0, 0) R0.out
  have a3 : w0.cell? ⟨g, 3, none⟩ = some (.slice va vn vc) := cell_of_row w0 g 3 _ 29 (0, 0) R0.out
  have b0 : w0.cell? ⟨g + 1, 0, none⟩ = some (.slice ka' kn kc') := cell_of_row w0 (g + 1) 0 _ 29 (0, 0) R1.out
  have b1 : w0.cell? ⟨g + 1, 1, none⟩ = some (.int .u64 (s : Nat)) := cell_of_row w0 (g + 1) 1 _ 29 (0, 0) R1.out
  have b2 : w0.cell? ⟨g + 1, 2, none⟩ = some (.int .i64 k) := cell_of_row w0 (g + 1) 2 _ 29 (0, 0) R1.out
  have b3 : w0.cell? ⟨g + 1, 3, none⟩ = some (.slice va' vn vc') := cell_of_row w0 (g + 1) 3 _ 29 (0, 0) R1.out
  go_wp2_with fail
  refine (bytes_any ka ka' kn kn kc kc' key key w0 H1.out H3.out (by omega)).mono ?_
  rintro e w1 ⟨rfl, m1, rfl⟩
  rw [show decide (key = key) = true by simp]
  go_wp2_with fail
  refine (bytes_any va va' vn vn vc vc' val val _ (H2.out.drewN m1) (H4.out.drewN m1) (by omega)).mono ?_
  rintro e w2 ⟨rfl, m2, rfl⟩
  rw [show decide (val = val) = true by simp]
  go_wp2_with fail
  go_ret
  exact ⟨rfl, by rw [hg0]; exact belowN HB.out (m1 + m2)⟩
end Go.Proofs.Ytkeglaplckfllaa
