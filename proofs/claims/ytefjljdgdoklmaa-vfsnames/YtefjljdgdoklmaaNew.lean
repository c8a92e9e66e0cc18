/-
  New: a file system without files.
-/
import Derived.Test.YtefjljdgdoklmaaCre
namespace Go.Proofs.Ytefjljdgdoklmaa
open Go.RowKit Go.Maps

set_option maxRecDepth 100000 in
set_option maxHeartbeats 1000000 in
theorem new_good (limit : Int) (w : World) (h1 : 0 ≤ limit) (h2 : limit ≤ 1073741824) :
    Calls Try.prog 8 #[.int .i64 limit] w fun e w' => e = .returned (.tuple #[.pointer (some ⟨w.heap.size + 2, 0, none⟩), .int .i64 0]) ∧
      w'.heap[w.heap.size + 2]? = some (.cells (fsCells limit (.map (some w.heap.size)) (.map (some (w.heap.size + 1))) (.slice none 0 0) 0 0 true 0 (-1) (-1) 0) 57 (0, 0)) ∧ Dir w' w.heap.size 0 (.map []) ∧ Dir w' (w.heap.size + 1) 0 (.map []) ∧ Below w.heap.size w w' := by
  have hmm := @run_makeMap Try.prog
  have g1 : ¬ limit < 0 := by omega
  have g2 : ¬ (1073741824 : Int) < limit := by omega
  have d0 := World.ownsMap_made w Try.prog 9 ptrR
  have d1 := World.ownsMap_made (w.alloc (.map #[] 0)) Try.prog 9 ptrR
  have e1 : (w.alloc (.map #[] 0)).heap.size = w.heap.size + 1 := by simp
  rw [e1] at d1
  have D0 := hide (World.ownsMap.alloc (World.ownsMap.alloc d0 (.map #[] 0)) (.cells (fsCells limit (.map (some w.heap.size)) (.map (some (w.heap.size + 1))) (.slice none 0 0) 0 0 true 0 (-1) (-1) 0) 57))
  have D1 := hide (World.ownsMap.alloc d1 (.cells (fsCells limit (.map (some w.heap.size)) (.map (some (w.heap.size + 1))) (.slice none 0 0) 0 0 true 0 (-1) (-1) 0) 57))
  have B0 : Hid (Below w.heap.size w (((w.alloc (.map #[] 0)).alloc (.map #[] 0)).alloc (.cells (fsCells limit (.map (some w.heap.size)) (.map (some (w.heap.size + 1))) (.slice none 0 0) 0 0 true 0 (-1) (-1) 0) 57))) := (((Below.refl _ _).alloc (Nat.le_refl _) _).alloc (by simp) _).alloc (by simp; omega) _
  have N0 : Hid ((((w.alloc (.map #[] 0)).alloc (.map #[] 0)).alloc (.cells (fsCells limit (.map (some w.heap.size)) (.map (some (w.heap.size + 1))) (.slice none 0 0) 0 0 true 0 (-1) (-1) 0) 57)).heap[w.heap.size + 2]? = some (.cells (fsCells limit (.map (some w.heap.size)) (.map (some (w.heap.size + 1))) (.slice none 0 0) 0 0 true 0 (-1) (-1) 0) 57 (0, 0))) := by
    have := heap_alloc_new ((w.alloc (.map #[] 0)).alloc (.map #[] 0)) (.cells (fsCells limit (.map (some w.heap.size)) (.map (some (w.heap.size + 1))) (.slice none 0 0) 0 0 true 0 (-1) (-1) 0) 57)
    rwa [show ((w.alloc (.map #[] 0)).alloc (.map #[] 0)).heap.size = w.heap.size + 2 by simp] at this
  clear d0 d1 e1
  go_enter Try.func8, Try.ntmps8
  go_wp2_with fail
  go_ret2
  exact ⟨rfl, N0.out, D0.out, D1.out, B0.out⟩
set_option maxRecDepth 100000 in
set_option maxHeartbeats 1000000 in
theorem new_bad (limit : Int) (w : World) (h : limit < 0 ∨ 1073741824 < limit) :
    Calls Try.prog 8 #[.int .i64 limit] w fun e w' => e = .returned (.tuple #[.pointer none, .int .i64 2]) ∧ w' = w := by
  by_cases h1 : limit < 0
  · go_enter Try.func8, Try.ntmps8
    go_wp2_with fail
    go_ret2
    exact ⟨rfl, rfl⟩
  · have g2 : (1073741824 : Int) < limit := by omega
    go_enter Try.func8, Try.ntmps8
    go_wp2_with fail
    go_ret2
    exact ⟨rfl, rfl⟩

set_option maxRecDepth 100000 in
set_option maxHeartbeats 1000000 in
/-- n modulo one more than most; 0 of an n below 0. -/
theorem within_any (n most : Int) (w : World) (h : 0 ≤ most) (h2 : most ≤ 1000000000000) (h3 : n ≤ 9223372036854775807) (h4 : -9223372036854775808 ≤ n) :
    Calls Try.prog 43 #[.int .i64 n, .int .i64 most] w fun e w' => e = .returned (.int .i64 (max n 0 % (most + 1))) ∧ w' = w := by
  have hne : most + 1 ≠ 0 := by omega
  have hne' : ((most + 1 : Int) == 0) = false := by rw [beq_eq_false_iff_ne]; omega
  go_enter Try.func43, Try.ntmps43
  go_wp2_with fail
  · go_ret
    exact ⟨by rw [show max n 0 = 0 by omega]; simp, rfl⟩
  · go_ret
    exact ⟨by rw [show max n 0 = n by omega]; rfl, rfl⟩
end Go.Proofs.Ytefjljdgdoklmaa
