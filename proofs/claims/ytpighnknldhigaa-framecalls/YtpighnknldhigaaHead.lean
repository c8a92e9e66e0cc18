/-
  A head that is read: whether its sum is right.
-/
import Derived.Test.YtpighnknldhigaaLeaf
import Derived.Laws.StructEq
import Derived.ChangeKeysEq
namespace Go.Proofs.Ytpighnknldhigaa
open Go.RowKit

/-- The cells of bytes. -/
def cellsOf (bs : List (BitVec 8)) : List Value := bs.map fun b => .int .u8 (b.toNat : Int)
/-- A row of bytes, somewhere in a block. -/
theorem row_bytes {w : World} {g : Nat} {cs : Array Value} {t : TypeId} {fr : Nat × Nat} (h : w.heap[g]? = some (.cells cs t fr)) (off c : Nat) (bs : List (BitVec 8))
    (hc : ∀ k, k < bs.length → cs[off + k]? = some (.int .u8 ((bs.getD k 0).toNat : Int))) : Bytes w (.slice (some ⟨g, off, none⟩) bs.length c) bs :=
  ⟨_, c, rfl, fun k hk => ⟨g, off, rfl, by rw [cell_of_row w g (off + k) cs t fr h, hc k hk]⟩⟩

theorem at50 (a : Option Addr) (len c : Nat) (h : 4 ≤ len) (w : World) : (Instr.arrayAt 50 (.slice a len c)).run Try.prog w = .ok (.pointer a) w := by
  simp [Instr.arrayAt, Sem.run_bind, show ¬ len < 4 by omega]
theorem at47 (a : Option Addr) (len c : Nat) (h : 8 ≤ len) (w : World) : (Instr.arrayAt 47 (.slice a len c)).run Try.prog w = .ok (.pointer a) w := by
  simp [Instr.arrayAt, Sem.run_bind, show ¬ len < 8 by omega]

theorem cells5 : Try.prog.cellsOf 5 = 1 := by kernel_rfl
theorem info5 : Try.prog.info? 5 = some Try.t5 := by kernel_rfl
theorem plain5 : Try.prog.plainKey 5 = true := by kernel_rfl
theorem part5 (xs : Array Value) (k : Nat) (v : Value) (h : xs[k]? = some v) (w : World) : (part 5 xs k).run Try.prog w = .ok v w := run_part_plain w plain5 h
theorem eq50 (a0 a1 a2 a3 s0 s1 s2 s3 : Int) (w : World) :
    (Op.equalIn 10000 50 (.agg #[.int .u8 a0, .int .u8 a1, .int .u8 a2, .int .u8 a3]) (.agg #[.int .u8 s0, .int .u8 s1, .int .u8 s2, .int .u8 s3])).run Try.prog w = .ok (a0 == s0 && (a1 == s1 && (a2 == s2 && a3 == s3))) w := by
  rw [show (10000 : Nat) = 9998 + 1 + 1 from rfl, run_equalIn_array (i := Try.t5) w _ _ _ Try.underlying50 info5, cells5, show List.range 4 = [0, 1, 2, 3] from rfl]
  have p0 := part5 #[.int .u8 a0, .int .u8 a1, .int .u8 a2, .int .u8 a3] 0 (.int .u8 a0) rfl
  have p1 := part5 #[.int .u8 a0, .int .u8 a1, .int .u8 a2, .int .u8 a3] 1 (.int .u8 a1) rfl
  have p2 := part5 #[.int .u8 a0, .int .u8 a1, .int .u8 a2, .int .u8 a3] 2 (.int .u8 a2) rfl
  have p3 := part5 #[.int .u8 a0, .int .u8 a1, .int .u8 a2, .int .u8 a3] 3 (.int .u8 a3) rfl
  have q0 := part5 #[.int .u8 s0, .int .u8 s1, .int .u8 s2, .int .u8 s3] 0 (.int .u8 s0) rfl
  have q1 := part5 #[.int .u8 s0, .int .u8 s1, .int .u8 s2, .int .u8 s3] 1 (.int .u8 s1) rfl
  have q2 := part5 #[.int .u8 s0, .int .u8 s1, .int .u8 s2, .int .u8 s3] 2 (.int .u8 s2) rfl
  have q3 := part5 #[.int .u8 s0, .int .u8 s1, .int .u8 s2, .int .u8 s3] 3 (.int .u8 s3) rfl
  have he := fun x y => run_equalIn_int w 9998 5 .u8 .u8 x y Try.underlying5
  simp only [Op.eqItems, Sem.run_bind, Nat.mul_one, p0, q0, Result.andThen_ok, he]
  cases a0 == s0
  · rfl
  simp only [Bool.not_true, Bool.false_eq_true, if_false, Sem.run_bind, p1, q1, Result.andThen_ok, he, Bool.true_and]
  cases a1 == s1
  · rfl
  simp only [Bool.not_true, Bool.false_eq_true, if_false, Sem.run_bind, p2, q2, Result.andThen_ok, he, Bool.true_and]
  cases a2 == s2
  · rfl
  simp only [Bool.not_true, Bool.false_eq_true, if_false, Sem.run_bind, p3, q3, Result.andThen_ok, he, Bool.true_and]
  cases a3 == s3 <;> rfl
theorem eq50' (a b c d : BitVec 8) (s : List (BitVec 8)) (s0 s1 s2 s3 : BitVec 8) (hs : s = [s0, s1, s2, s3]) (w : World) :
    (Op.equalIn 10000 50 (.agg #[.int .u8 a.toNat, .int .u8 b.toNat, .int .u8 c.toNat, .int .u8 d.toNat]) (.agg #[.int .u8 s0.toNat, .int .u8 s1.toNat, .int .u8 s2.toNat, .int .u8 s3.toNat])).run Try.prog w = .ok (decide ([a, b, c, d] = s)) w := by
  rw [eq50, hs]
  congr 1
  rw [Bool.eq_iff_iff]
  simp only [Bool.and_eq_true, beq_iff_eq, decide_eq_true_eq, List.cons.injEq, and_true, Int.natCast_inj, ← BitVec.toNat_inj]

theorem four_max (a b c d : BitVec 8) : [a, b, c, d].length ≤ maxLen := by
  show 4 ≤ maxLen
  decide
theorem sumOf_x (v : Value) (bs : List (BitVec 8)) (w : World) (h : Bytes w v bs) (hl : bs.length ≤ maxLen) :
    Calls Try.prog 23 #[v] w fun e w' => ∃ s0 s1 s2 s3 : BitVec 8, Fr.msum bs = [s0, s1, s2, s3] ∧ e = .returned (.agg #[.int .u8 s0.toNat, .int .u8 s1.toNat, .int .u8 s2.toNat, .int .u8 s3.toNat]) ∧ Below w.heap.size w w' := sumOf_any v bs w h hl

set_option maxRecDepth 100000 in
set_option maxHeartbeats 1000000 in
theorem whole_any (b0 b1 b2 b3 b4 b5 b6 b7 : BitVec 8) (w : World) :
    Calls Try.prog 35 #[aggB [b0, b1, b2, b3, b4, b5, b6, b7]] w
      fun e w' => e = .returned (.bool (decide ([b4, b5, b6, b7] = Fr.msum [b0, b1, b2, b3]))) ∧ Below w.heap.size w w' := by
  show Calls Try.prog 35 #[.agg #[.int .u8 b0.toNat, .int .u8 b1.toNat, .int .u8 b2.toNat, .int .u8 b3.toNat, .int .u8 b4.toNat, .int .u8 b5.toNat, .int .u8 b6.toNat, .int .u8 b7.toNat]] w _
  have hnew := heap_alloc_new w (.cells #[.int .u8 b0.toNat, .int .u8 b1.toNat, .int .u8 b2.toNat, .int .u8 b3.toNat, .int .u8 b4.toNat, .int .u8 b5.toNat, .int .u8 b6.toNat, .int .u8 b7.toNat] 47)
  have hb0 : Below w.heap.size w (w.alloc (.cells #[.int .u8 b0.toNat, .int .u8 b1.toNat, .int .u8 b2.toNat, .int .u8 b3.toNat, .int .u8 b4.toNat, .int .u8 b5.toNat, .int .u8 b6.toNat, .int .u8 b7.toNat] 47)) := (Below.refl _ _).alloc (Nat.le_refl _) _
  have hsz : (w.alloc (.cells #[.int .u8 b0.toNat, .int .u8 b1.toNat, .int .u8 b2.toNat, .int .u8 b3.toNat, .int .u8 b4.toNat, .int .u8 b5.toNat, .int .u8 b6.toNat, .int .u8 b7.toNat] 47)).heap.size = w.heap.size + 1 := by simp
  go_enter Try.func35, Try.ntmps35
  go_wp2_with fail
  generalize w.alloc (.cells #[.int .u8 b0.toNat, .int .u8 b1.toNat, .int .u8 b2.toNat, .int .u8 b3.toNat, .int .u8 b4.toNat, .int .u8 b5.toNat, .int .u8 b6.toNat, .int .u8 b7.toNat] 47) = w0 at *
  generalize hg : w.heap.size = g at *
  have c4 := cell_of_row w0 g 4 _ 47 (0, 0) hnew
  have c5 := cell_of_row w0 g 5 _ 47 (0, 0) hnew
  have c6 := cell_of_row w0 g 6 _ 47 (0, 0) hnew
  have c7 := cell_of_row w0 g 7 _ 47 (0, 0) hnew
  have c4' : w0.cell? ⟨g, 4, none⟩ = some (.int .u8 b4.toNat) := c4
  have c5' : w0.cell? ⟨g, 5, none⟩ = some (.int .u8 b5.toNat) := c5
  have c6' : w0.cell? ⟨g, 6, none⟩ = some (.int .u8 b6.toNat) := c6
  have c7' : w0.cell? ⟨g, 7, none⟩ = some (.int .u8 b7.toNat) := c7
  have HN := hide hnew
  have HB := hide hb0
  clear c4 c5 c6 c7 hnew hb0
  have hat := at50 (some ⟨g, 4, none⟩) 4 4 (by omega)
  have hv : Bytes w0.drew (.slice (some ⟨g, 0, none⟩) 4 8) [b0, b1, b2, b3] := row_bytes (w := w0.drew) (bs := [b0, b1, b2, b3]) HN.out 0 8 (fun k hk => by
    have : k = 0 ∨ k = 1 ∨ k = 2 ∨ k = 3 := by simp at hk; omega
    rcases this with rfl | rfl | rfl | rfl <;> rfl)
  have HV := hide hv
  clear hv
  go_region_with (go_at_call 23; refine (sumOf_x _ [b0, b1, b2, b3] _ HV.out (four_max _ _ _ _)).mono ?_; rintro e w1 ⟨s0, s1, s2, s3, hs, rfl, b1'⟩; have d4 := (b1'.cell (p := ⟨g, 4, none⟩) (block_lt_of_cell (w := w0.drew) c4')).trans c4'; have d5 := (b1'.cell (p := ⟨g, 5, none⟩) (block_lt_of_cell (w := w0.drew) c5')).trans c5'; have d6 := (b1'.cell (p := ⟨g, 6, none⟩) (block_lt_of_cell (w := w0.drew) c6')).trans c6'; have d7 := (b1'.cell (p := ⟨g, 7, none⟩) (block_lt_of_cell (w := w0.drew) c7')).trans c7'; have hq := eq50' b4 b5 b6 b7 _ s0 s1 s2 s3 hs; have B1 := hide (then_below (HB.out.drew) b1' (by omega)); clear hs b1')
  all_goals go_wp2_with fail
  all_goals go_ret
  all_goals exact ⟨rfl, by rw [hg]; exact B1.out⟩
end Go.Proofs.Ytpighnknldhigaa
