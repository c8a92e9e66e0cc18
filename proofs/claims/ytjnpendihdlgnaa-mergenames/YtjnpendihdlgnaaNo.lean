/-
  A table that is not there, or that nobody made.
-/
import Derived.Test.YtjnpendihdlgnaaTw
namespace Go.Proofs.Ytjnpendihdlgnaa
open Go.RowKit
set_option maxRecDepth 100000
set_option maxHeartbeats 4000000
def zeroE : Array Value := #[.slice none 0 0, .int .u64 0, .int .i64 0, .slice none 0 0]
/-- The same entries are found the same. -/
theorem entry_same (ka va ka' va' : Option Addr) (kn kc vn vc kc' vc' s : Nat) (k : Int) (key val : List (BitVec 8)) (w : World) (h1 : Bytes w (.slice ka kn kc) key) (h2 : Bytes w (.slice va vn vc) val) (h3 : Bytes w (.slice ka' kn kc') key) (h4 : Bytes w (.slice va' vn vc') val) (hk : kn ≤ 1000000) (hv : vn ≤ 1000000) :
    Calls Try.prog 23 #[.agg #[.slice ka kn kc, .int .u64 (s : Nat), .int .i64 k, .slice va vn vc], .agg #[.slice ka' kn kc', .int .u64 (s : Nat), .int .i64 k, .slice va' vn vc']] w fun e w' => e = .returned (.bool true) ∧ Below w.heap.size w w' := by
  have t0 : Turns (fun _ => False) w ((w.alloc (.cells #[.slice ka kn kc, .int .u64 (s : Nat), .int .i64 k, .slice va vn vc] 25)).alloc (.cells #[.slice ka' kn kc', .int .u64 (s : Nat), .int .i64 k, .slice va' vn vc'] 25)) := ((Turns.refl _ w).alloc _).alloc _
  have HB := hide (t0.below (B := w.heap.size) (Nat.le_refl _) (fun _ x => x.elim))
  have H1 := hide (h1.quiet t0)
  have H2 := hide (h2.quiet t0)
  have H3 := hide (h3.quiet t0)
  have H4 := hide (h4.quiet t0)
  have r0 := heap_keep ((Below.refl _ (w.alloc (.cells #[.slice ka kn kc, .int .u64 (s : Nat), .int .i64 k, .slice va vn vc] 25))).alloc (Nat.le_refl _) (.cells #[.slice ka' kn kc', .int .u64 (s : Nat), .int .i64 k, .slice va' vn vc'] 25)) (heap_alloc_new w (.cells #[.slice ka kn kc, .int .u64 (s : Nat), .int .i64 k, .slice va vn vc] 25))
  have r1 := heap_alloc_new (w.alloc (.cells #[.slice ka kn kc, .int .u64 (s : Nat), .int .i64 k, .slice va vn vc] 25)) (.cells #[.slice ka' kn kc', .int .u64 (s : Nat), .int .i64 k, .slice va' vn vc'] 25)
  rw [show (w.alloc (.cells #[.slice ka kn kc, .int .u64 (s : Nat), .int .i64 k, .slice va vn vc] 25)).heap.size = w.heap.size + 1 by simp] at r1
  have R0 := hide r0
  have R1 := hide r1
  clear h1 h2 h3 h4 t0 r0 r1
  go_enter Try.func23, Try.ntmps23
  go_upto_region 1 with (fail)
  generalize (w.alloc (.cells #[.slice ka kn kc, .int .u64 (s : Nat), .int .i64 k, .slice va vn vc] 25)).alloc (.cells #[.slice ka' kn kc', .int .u64 (s : Nat), .int .i64 k, .slice va' vn vc'] 25) = w0 at *
  generalize hg0 : w.heap.size = g at *
  have a0 : w0.cell? ⟨g, 0, none⟩ = some (.slice ka kn kc) := cell_of_row w0 g 0 _ 25 (0, 0) R0.out
  have a1 : w0.cell? ⟨g, 1, none⟩ = some (.int .u64 (s : Nat)) := cell_of_row w0 g 1 _ 25 (0, 0) R0.out
  have a2 : w0.cell? ⟨g, 2, none⟩ = some (.int .i64 k) := cell_of_row w0 g 2 _ 25 (0, 0) R0.out
  have a3 : w0.cell? ⟨g, 3, none⟩ = some (.slice va vn vc) := cell_of_row w0 g 3 _ 25 (0, 0) R0.out
  have b0 : w0.cell? ⟨g + 1, 0, none⟩ = some (.slice ka' kn kc') := cell_of_row w0 (g + 1) 0 _ 25 (0, 0) R1.out
  have b1 : w0.cell? ⟨g + 1, 1, none⟩ = some (.int .u64 (s : Nat)) := cell_of_row w0 (g + 1) 1 _ 25 (0, 0) R1.out
  have b2 : w0.cell? ⟨g + 1, 2, none⟩ = some (.int .i64 k) := cell_of_row w0 (g + 1) 2 _ 25 (0, 0) R1.out
  have b3 : w0.cell? ⟨g + 1, 3, none⟩ = some (.slice va' vn vc') := cell_of_row w0 (g + 1) 3 _ 25 (0, 0) R1.out
  go_wp2_with fail
  refine (bytes_any ka ka' kn kn kc kc' key key w0 H1.out H3.out (by omega)).mono ?_
  rintro e w1 ⟨rfl, m1, rfl⟩
  rw [show decide (key = key) = true by simp]
  go_wp2_with fail
  refine (bytes_any va va' vn vn vc vc' val val _ (H2.out.drewN m1) (H4.out.drewN m1) (by omega)).mono ?_
  rintro e w2 ⟨rfl, m2, rfl⟩
  rw [show decide (val = val) = true by simp]
  go_wp2_with fail
  go_ret
  exact ⟨rfl, by rw [hg0]; exact belowN HB.out (m1 + m2)⟩
end Go.Proofs.Ytjnpendihdlgnaa
