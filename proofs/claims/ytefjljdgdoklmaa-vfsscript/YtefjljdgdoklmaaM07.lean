import Derived.Test.YtefjljdgdoklmaaM04
/-
  Reading a file, and its crash.
-/
namespace Go.Proofs.Ytefjljdgdoklmaa
open Go.RowKit Go.Maps

theorem eqnil (a : Addr) (n c : Nat) (w : World) : (binOp .eql 28 (.slice (some a) n c) (.slice none 0 0)).run Try.prog w = .ok (.bool false) w := by kernel_rfl
theorem nilnil (w : World) : (binOp .eql 28 (.slice none 0 0) (.slice none 0 0)).run Try.prog w = .ok (.bool true) w := by kernel_rfl
set_option maxHeartbeats 400000 in
theorem clone_some (a : Addr) (n c0 : Nat) (bs : List (BitVec 8)) (hn0 : n = bs.length) (w : World) (h : Bytes w (.slice (some a) n c0) bs) (hn : bs.length ≤ 140737488355328) :
    Calls Try.prog 77 #[.slice (some a) n c0] w fun e w' => ∃ g c, e = .returned (.slice (some ⟨g, 0, none⟩) n c) ∧ w.heap.size ≤ g ∧ n ≤ c ∧ RowB w' g c bs ∧ Below w.heap.size w w' := by
  have hb : Below w.heap.size w (w.alloc (.cells #[] 5)) := (Below.refl _ _).alloc (Nat.le_refl _) _
  obtain ⟨g, c, w2, hr, hg, hrow, hb2, hc, _⟩ := append_bytes2 (w.alloc (.cells #[] 5)) w.heap.size (some ⟨w.heap.size, 0, none⟩) 0 0 [] rfl (.slice (some a) n c0) bs n hn0 (h.below hb) (by simp)
    (.inr ⟨_, rfl, Nat.le_refl _, Nat.le_refl _, #[], heap_alloc_new w _, Nat.le_refl _, fun k hk => by simp [cellsOf] at hk⟩) (by omega)
  rw [Nat.zero_add] at hr hc
  rw [List.nil_append] at hrow
  have HR := hide hr
  have HW := hide hrow
  have HB := hide (hb.trans hb2)
  clear hr hrow hb hb2 h hn0
  have hnil := eqnil a n c0
  go_enter Try.func77, Try.ntmps77
  go_wp2_with (at_builtin; refine wpList_append_run rfl _ _ 28 rfl _ _ rfl rfl _ _ (HR.out _) ?_)
  go_ret
  exact ⟨g, c, rfl, hg, hc, HW.out, HB.out⟩
set_option maxHeartbeats 400000 in
theorem clone_nil (w : World) :
    Calls Try.prog 77 #[.slice none 0 0] w fun e w' => e = .returned (.slice none 0 0) ∧ w' = w := by
  have hnil := nilnil
  go_enter Try.func77, Try.ntmps77
  go_wp2_with fail
  go_ret
  exact ⟨rfl, rfl⟩

/-- What Read answers of a file's bytes. -/
def readOf (bs : List (BitVec 8)) (at' n : Nat) : List (BitVec 8) := (bs.drop at').take n

set_option maxRecDepth 100000 in
set_option maxHeartbeats 4000000 in
theorem read_in (g k c L : Nat) (s0 : Int) (bs : List (BitVec 8)) (at' n : Nat) (w : World) (h : w.heap[g]? = some (.cells #[.slice (some ⟨k, 0, none⟩) L c, .int .i64 s0] 70 (0, 0))) (hL : L = bs.length) (hrow : RowB w k c bs) (hc : L ≤ c) (hL2 : L ≤ 1073741824) (h1 : at' ≤ 9223372036854775807) (h2 : n ≤ 9223372036854775807) (ha : at' < L) :
    Calls Try.prog 53 #[.pointer (some ⟨g, 0, none⟩), .int .i64 (at' : Nat), .int .i64 (n : Nat)] w fun e w' => ∃ q m cq, e = .returned (.slice (some ⟨q, 0, none⟩) m cq) ∧ m = (readOf bs at' n).length ∧ w.heap.size ≤ q ∧ m ≤ cq ∧ RowB w' q cq (readOf bs at' n) ∧ Below w.heap.size w w' := by
  have c0 : w.cell? ⟨g, 0, none⟩ = some (.slice (some ⟨k, 0, none⟩) L c) := cell_of_row w g 0 _ 70 (0, 0) h
  have HR := hide hrow
  have HL := hide hL
  clear h hrow hL
  have g1 : (at' : Int) < (L : Int) := by omega
  go_enter Try.func53, Try.ntmps53
  go_wp2_with fail
  go_quiet (fail)
  go_wp2_with fail
  · have hcase : L - at' ≤ n := by omega
    refine (clone_some _ _ _ (readOf bs at' n) (by unfold readOf; rw [List.length_take, List.length_drop]; have := HL.out; omega) (w.drewN nq) (by
      have := (RowB.bytes (w := w.drewN nq) (c' := c) HR.out HL.out).part at' (L - at') (c - at') (by have := HL.out; omega)
      rw [Nat.zero_add] at this
      unfold readOf
      rw [List.take_of_length_le (by rw [List.length_drop]; have := HL.out; omega)] at this ⊢
      exact this) (by unfold readOf; rw [List.length_take, List.length_drop]; have := HL.out; omega)).mono ?_
    rintro e w2 ⟨q, cq, rfl, hq, hcq, hr, hb⟩
    have R2 := hide hr
    have B2 : Hid (Below w.heap.size w w2) := (below_drewN (Below.refl _ _) nq).trans hb
    clear hr hb
    go_wp2_with fail
    go_ret
    exact ⟨q, _, cq, rfl, by unfold readOf; rw [List.length_take, List.length_drop]; have := HL.out; omega, hq, hcq, R2.out, B2.out⟩
  · have hcase : n ≤ L - at' := by omega
    refine (clone_some _ _ _ (readOf bs at' n) (by unfold readOf; rw [List.length_take, List.length_drop]; have := HL.out; omega) (w.drewN nq) (by
      have := (RowB.bytes (w := w.drewN nq) (c' := c) HR.out HL.out).part at' n (c - at') (by have := HL.out; omega)
      rw [Nat.zero_add] at this
      exact this) (by unfold readOf; rw [List.length_take, List.length_drop]; have := HL.out; omega)).mono ?_
    rintro e w2 ⟨q, cq, rfl, hq, hcq, hr, hb⟩
    have R2 := hide hr
    have B2 : Hid (Below w.heap.size w w2) := (below_drewN (Below.refl _ _) nq).trans hb
    clear hr hb
    go_wp2_with fail
    go_ret
    exact ⟨q, _, cq, rfl, by unfold readOf; rw [List.length_take, List.length_drop]; have := HL.out; omega, hq, hcq, R2.out, B2.out⟩
end Go.Proofs.Ytefjljdgdoklmaa
