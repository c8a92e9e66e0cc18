import Derived.Test.YtjklbhdhjfifhaaGreatM23
import Derived.Test.YtjklbhdhjfifhaaGreatM20
import Derived.Laws.StructEq
import Derived.ChangeKeysEq
import Derived.Deep.AppendSrc
import Derived.Laws.AppendOwn
/-
  A head that is read: whether its sum is right.
-/
namespace Go.Proofs.YtjklbhdhjfifhaaGreat
open Go.RowKit

/-- A row of bytes, somewhere in a block. -/
theorem row_bytes {w : World} {g : Nat} {cs : Array Value} {t : TypeId} {fr : Nat × Nat} (h : w.heap[g]? = some (.cells cs t fr)) (off c : Nat) (bs : List (BitVec 8))
    (hc : ∀ k, k < bs.length → cs[off + k]? = some (.int .u8 ((bs.getD k 0).toNat : Int))) : Bytes w (.slice (some ⟨g, off, none⟩) bs.length c) bs :=
  ⟨_, c, rfl, fun k hk => ⟨g, off, rfl, by rw [cell_of_row w g (off + k) cs t fr h, hc k hk]⟩⟩

theorem at50 (a : Option Addr) (len c : Nat) (h : 4 ≤ len) (w : World) : (Instr.arrayAt 188 (.slice a len c)).run Tryz.prog w = .ok (.pointer a) w := by
  simp [Instr.arrayAt, Sem.run_bind, show ¬ len < 4 by omega]
theorem at47 (a : Option Addr) (len c : Nat) (h : 8 ≤ len) (w : World) : (Instr.arrayAt 192 (.slice a len c)).run Tryz.prog w = .ok (.pointer a) w := by
  simp [Instr.arrayAt, Sem.run_bind, show ¬ len < 8 by omega]

theorem plain5 : Tryz.prog.plainKey 5 = true := by kernel_rfl
theorem part5 (xs : Array Value) (k : Nat) (v : Value) (h : xs[k]? = some v) (w : World) : (part 5 xs k).run Tryz.prog w = .ok v w := run_part_plain w plain5 h
theorem eq50 (a0 a1 a2 a3 s0 s1 s2 s3 : Int) (w : World) :
    (Op.equalIn 10000 188 (.agg #[.int .u8 a0, .int .u8 a1, .int .u8 a2, .int .u8 a3]) (.agg #[.int .u8 s0, .int .u8 s1, .int .u8 s2, .int .u8 s3])).run Tryz.prog w = .ok (a0 == s0 && (a1 == s1 && (a2 == s2 && a3 == s3))) w := by
  rw [show (10000 : Nat) = 9998 + 1 + 1 from rfl, run_equalIn_array (i := Tryz.t5) w _ _ _ Tryz.underlying188 info5, cells5, show List.range 4 = [0, 1, 2, 3] from rfl]
  have p0 := part5 #[.int .u8 a0, .int .u8 a1, .int .u8 a2, .int .u8 a3] 0 (.int .u8 a0) rfl
  have p1 := part5 #[.int .u8 a0, .int .u8 a1, .int .u8 a2, .int .u8 a3] 1 (.int .u8 a1) rfl
  have p2 := part5 #[.int .u8 a0, .int .u8 a1, .int .u8 a2, .int .u8 a3] 2 (.int .u8 a2) rfl
  have p3 := part5 #[.int .u8 a0, .int .u8 a1, .int .u8 a2, .int .u8 a3] 3 (.int .u8 a3) rfl
  have q0 := part5 #[.int .u8 s0, .int .u8 s1, .int .u8 s2, .int .u8 s3] 0 (.int .u8 s0) rfl
  have q1 := part5 #[.int .u8 s0, .int .u8 s1, .int .u8 s2, .int .u8 s3] 1 (.int .u8 s1) rfl
  have q2 := part5 #[.int .u8 s0, .int .u8 s1, .int .u8 s2, .int .u8 s3] 2 (.int .u8 s2) rfl
  have q3 := part5 #[.int .u8 s0, .int .u8 s1, .int .u8 s2, .int .u8 s3] 3 (.int .u8 s3) rfl
  have he := fun x y => run_equalIn_int w 9998 5 .u8 .u8 x y Tryz.underlying5
  simp only [Op.eqItems, Sem.run_bind, Nat.mul_one, p0, q0, Result.andThen_ok, he]
  cases a0 == s0
  · rfl
  simp only [Bool.not_true, Bool.false_eq_true, if_false, Sem.run_bind, p1, q1, Result.andThen_ok, he, Bool.true_and]
  cases a1 == s1
  · rfl
  simp only [Bool.not_true, Bool.false_eq_true, if_false, Sem.run_bind, p2, q2, Result.andThen_ok, he, Bool.true_and]
  cases a2 == s2
  · rfl
  simp only [Bool.not_true, Bool.false_eq_true, if_false, Sem.run_bind, p3, q3, Result.andThen_ok, he, Bool.true_and]
  cases a3 == s3 <;> rfl
theorem eq50' (a b c d : BitVec 8) (s : List (BitVec 8)) (s0 s1 s2 s3 : BitVec 8) (hs : s = [s0, s1, s2, s3]) (w : World) :
    (Op.equalIn 10000 188 (.agg #[.int .u8 a.toNat, .int .u8 b.toNat, .int .u8 c.toNat, .int .u8 d.toNat]) (.agg #[.int .u8 s0.toNat, .int .u8 s1.toNat, .int .u8 s2.toNat, .int .u8 s3.toNat])).run Tryz.prog w = .ok (decide ([a, b, c, d] = s)) w := by
  rw [eq50, hs]
  congr 1
  rw [Bool.eq_iff_iff]
  simp only [Bool.and_eq_true, beq_iff_eq, decide_eq_true_eq, List.cons.injEq, and_true, Int.natCast_inj, ← BitVec.toNat_inj]

theorem four_max (a b c d : BitVec 8) : [a, b, c, d].length ≤ maxLen := by
  show 4 ≤ maxLen
  decide
theorem sumOf_x (v : Value) (bs : List (BitVec 8)) (w : World) (h : Bytes w v bs) (hl : bs.length ≤ maxLen) :
    Calls Tryz.prog 156 #[v] w fun e w' => ∃ s0 s1 s2 s3 : BitVec 8, Fr.msum bs = [s0, s1, s2, s3] ∧ e = .returned (.agg #[.int .u8 s0.toNat, .int .u8 s1.toNat, .int .u8 s2.toNat, .int .u8 s3.toNat]) ∧ Below w.heap.size w w' := sumOf_any v bs w h hl

set_option maxRecDepth 100000 in
set_option maxHeartbeats 1000000 in
theorem whole_any (b0 b1 b2 b3 b4 b5 b6 b7 : BitVec 8) (w : World) :
    Calls Tryz.prog 174 #[aggB [b0, b1, b2, b3, b4, b5, b6, b7]] w
      fun e w' => e = .returned (.bool (decide ([b4, b5, b6, b7] = Fr.msum [b0, b1, b2, b3]))) ∧ Below w.heap.size w w' := by
  show Calls Tryz.prog 174 #[.agg #[.int .u8 b0.toNat, .int .u8 b1.toNat, .int .u8 b2.toNat, .int .u8 b3.toNat, .int .u8 b4.toNat, .int .u8 b5.toNat, .int .u8 b6.toNat, .int .u8 b7.toNat]] w _
  have hnew := heap_alloc_new w (.cells #[.int .u8 b0.toNat, .int .u8 b1.toNat, .int .u8 b2.toNat, .int .u8 b3.toNat, .int .u8 b4.toNat, .int .u8 b5.toNat, .int .u8 b6.toNat, .int .u8 b7.toNat] 192)
  have hb0 : Below w.heap.size w (w.alloc (.cells #[.int .u8 b0.toNat, .int .u8 b1.toNat, .int .u8 b2.toNat, .int .u8 b3.toNat, .int .u8 b4.toNat, .int .u8 b5.toNat, .int .u8 b6.toNat, .int .u8 b7.toNat] 192)) := (Below.refl _ _).alloc (Nat.le_refl _) _
  have hsz : (w.alloc (.cells #[.int .u8 b0.toNat, .int .u8 b1.toNat, .int .u8 b2.toNat, .int .u8 b3.toNat, .int .u8 b4.toNat, .int .u8 b5.toNat, .int .u8 b6.toNat, .int .u8 b7.toNat] 192)).heap.size = w.heap.size + 1 := by simp
  go_enter Tryz.func174, Tryz.ntmps174
  go_wp2_with fail
  generalize w.alloc (.cells #[.int .u8 b0.toNat, .int .u8 b1.toNat, .int .u8 b2.toNat, .int .u8 b3.toNat, .int .u8 b4.toNat, .int .u8 b5.toNat, .int .u8 b6.toNat, .int .u8 b7.toNat] 192) = w0 at *
  generalize hg : w.heap.size = g at *
  have c4 := cell_of_row w0 g 4 _ 192 (0, 0) hnew
  have c5 := cell_of_row w0 g 5 _ 192 (0, 0) hnew
  have c6 := cell_of_row w0 g 6 _ 192 (0, 0) hnew
  have c7 := cell_of_row w0 g 7 _ 192 (0, 0) hnew
  have c4' : w0.cell? ⟨g, 4, none⟩ = some (.int .u8 b4.toNat) := c4
  have c5' : w0.cell? ⟨g, 5, none⟩ = some (.int .u8 b5.toNat) := c5
  have c6' : w0.cell? ⟨g, 6, none⟩ = some (.int .u8 b6.toNat) := c6
  have c7' : w0.cell? ⟨g, 7, none⟩ = some (.int .u8 b7.toNat) := c7
  have HN := hide hnew
  have HB := hide hb0
  clear c4 c5 c6 c7 hnew hb0
  have hat := at50 (some ⟨g, 4, none⟩) 4 4 (by omega)
  have hv : Bytes w0.drew (.slice (some ⟨g, 0, none⟩) 4 8) [b0, b1, b2, b3] := row_bytes (w := w0.drew) (bs := [b0, b1, b2, b3]) HN.out 0 8 (fun k hk => by
    have : k = 0 ∨ k = 1 ∨ k = 2 ∨ k = 3 := by simp at hk; omega
    rcases this with rfl | rfl | rfl | rfl <;> rfl)
  have HV := hide hv
  clear hv
  go_region_with (go_at_call 156; refine (sumOf_x _ [b0, b1, b2, b3] _ HV.out (four_max _ _ _ _)).mono ?_; rintro e w1 ⟨s0, s1, s2, s3, hs, rfl, b1'⟩; have d4 := (b1'.cell (p := ⟨g, 4, none⟩) (block_lt_of_cell (w := w0.drew) c4')).trans c4'; have d5 := (b1'.cell (p := ⟨g, 5, none⟩) (block_lt_of_cell (w := w0.drew) c5')).trans c5'; have d6 := (b1'.cell (p := ⟨g, 6, none⟩) (block_lt_of_cell (w := w0.drew) c6')).trans c6'; have d7 := (b1'.cell (p := ⟨g, 7, none⟩) (block_lt_of_cell (w := w0.drew) c7')).trans c7'; have hq := eq50' b4 b5 b6 b7 _ s0 s1 s2 s3 hs; have B1 := hide (then_below (HB.out.drew) b1' (by omega)); clear hs b1')
  all_goals go_wp2_with fail
  all_goals go_ret
  all_goals exact ⟨rfl, by rw [hg]; exact B1.out⟩
end Go.Proofs.YtjklbhdhjfifhaaGreat

/-
  What append answers, whatever is appended to a row that is one's own.
-/
namespace Go.Proofs.YtjklbhdhjfifhaaGreat
open Go.RowKit

section
variable {P : Program}
/-- What append answers: behind 'old', 'news' (n items), in a row of one's own. -/
theorem append_gen (w : World) (B : Nat) (t e : TypeId) (i : TypeInfo) (z : Value) (ht : P.underlying t = some (.slice e)) (hi : P.info? e = some i) (hz : i.zero = some z) (hzc : z.cells.size = i.size)
    (base : Option Addr) (sLen sCap : Nat) (old : List Value) (hold : old.length = sLen * i.size) (x : Value) (n : Nat) (news : List Value) (hs : Src P i.size t x n news w) (hB : B ≤ w.heap.size)
    (hbase : (base = none ∧ sLen = 0 ∧ sCap = 0 ∧ 0 < n) ∨ ∃ g, base = some ⟨g, 0, none⟩ ∧ B ≤ g ∧ sLen ≤ sCap ∧ RowC w g e (sCap * i.size) old) (hfit : (sLen + n) * i.bytes ≤ 140737488355328) (hsm : sLen + n ≤ 140737488355328) :
    ∃ g c w', (∀ ty, (Builtin.append_ #[t, t] ty #[.slice base sLen sCap, x]).run P w = .ok (.slice (some ⟨g, 0, none⟩) (sLen + n) c) w') ∧ B ≤ g ∧ RowC w' g e (c * i.size) (old ++ news) ∧ Below B w w' ∧ sLen + n ≤ c ∧ (sLen + n ≤ sCap → base = some ⟨g, 0, none⟩ ∧ c = sCap) ∧ (sCap < sLen + n → g = w.heap.size) := by
  by_cases hroom : sLen + n ≤ sCap
  · rcases hbase with ⟨_, _, _, _⟩ | ⟨g, rfl, hg, hlc, cs, h1, h2, h3⟩
    · omega
    · have hsz : (sLen + n) * i.size ≤ sCap * i.size := Nat.mul_le_mul_right _ hroom
      have hnl := hs.newsLen
      rw [Nat.add_mul] at hsz
      have hr := fun ty => run_append_room_src (P := P) w t t ty e i ht hi g 0 sLen sCap x n news hs hroom
        (fun j hj => by rw [cell_of_row w g _ cs e (0, 0) h1, Nat.zero_add, Array.getElem?_eq_getElem (by omega)]; rfl)
        (fun j hj => frozen_of_row w g _ cs e h1)
      rw [Nat.zero_add] at hr
      obtain ⟨cs', k1, k2, k3⟩ := heap_setCells g e news (sLen * i.size) w cs h1
      refine ⟨g, sCap, _, hr, hg, ⟨cs', k1, by omega, fun k hk => ?_⟩, below_cells hg _ _ (Below.refl _ _), hroom, fun _ => ⟨rfl, rfl⟩, fun h => by omega⟩
      rw [List.length_append] at hk
      rw [k3 k (by omega), List.getElem?_append]
      by_cases hk2 : k < old.length
      · rw [if_neg (by omega), if_pos hk2, h3 k hk2]
      · rw [if_pos (by omega), if_neg hk2, hold]
  · have hcap : sCap < sLen + n := by omega
    have hold' : (Builtin.firstCells i.size sLen (.slice base sLen sCap)).run P w.drew = .ok old.toArray w.drew := by
      rcases hbase with ⟨rfl, rfl, rfl, _⟩ | ⟨g, rfl, hg, hlc, cs, h1, h2, h3⟩
      · obtain rfl : old = [] := by simpa using hold
        rfl
      · have := Nat.mul_le_mul_right i.size hlc
        refine run_firstCells_some (P := P) w.drew _ _ _ _ _ old hold (fun j v hv => ?_)
        have hj : j < old.length := by
          rcases Nat.lt_or_ge j old.length with h | h
          · exact h
          · rw [List.getElem?_eq_none h] at hv; cases hv
        rw [Go.WideShapes.add_plain, Nat.zero_add, cell_of_row w.drew g j cs e (0, 0) h1, h3 j hj, hv]
    have hr := fun ty => run_append_grow_src (P := P) w t t ty e i z ht hi hz base sLen sCap old hold' x n news hs hcap (by omega) (growslice_fits hcap hfit)
    have hge := grownCap_ge w (sLen + n) sCap e
    generalize grownCap w (sLen + n) sCap e = cp at *
    have hnl := hs.newsLen
    refine ⟨w.heap.size, cp, _, hr, hB, ⟨_, heap_alloc_new w.drew _, ?_, fun k hk => ?_⟩, (Below.refl _ _).drew.alloc hB _, hge, fun h => by omega, fun _ => rfl⟩
    · rw [Array.size_append, size_zeroCells, List.size_toArray, List.length_append, hold, hnl, hzc, ← Nat.add_mul, ← Nat.add_mul]
      exact Nat.mul_le_mul_right _ (by omega)
    · rw [Array.getElem?_append_left (by simpa using hk)]
      simp
end

/-- Append of bytes. -/
theorem append_bytes (w : World) (B : Nat) (base : Option Addr) (sLen sCap : Nat) (bs : List (BitVec 8)) (hl : sLen = bs.length) (x : Value) (news : List (BitVec 8)) (n : Nat) (hn : n = news.length) (hx : Bytes w x news) (hB : B ≤ w.heap.size)
    (hbase : (base = none ∧ sLen = 0 ∧ sCap = 0 ∧ 0 < n) ∨ ∃ g, base = some ⟨g, 0, none⟩ ∧ B ≤ g ∧ sLen ≤ sCap ∧ RowB w g sCap bs) (hsm : sLen + n ≤ 140737488355328) :
    ∃ g c w', (∀ ty, (Builtin.append_ #[28, 28] ty #[.slice base sLen sCap, x]).run Tryz.prog w = .ok (.slice (some ⟨g, 0, none⟩) (sLen + n) c) w') ∧ B ≤ g ∧ RowB w' g c (bs ++ news) ∧ Below B w w' ∧ sLen + n ≤ c ∧ (sLen + n ≤ sCap → base = some ⟨g, 0, none⟩ ∧ c = sCap) ∧ (sCap < sLen + n → g = w.heap.size) := by
  subst hn
  have := append_gen (P := Tryz.prog) w B 28 5 Tryz.t5 (.int .u8 0) Tryz.underlying28 info5 zero5 rfl base sLen sCap (cellsOf bs) (by rw [cellsOf_length, sz5, hl, Nat.mul_one]) x news.length (cellsOf news) (src_of_bytes hx) hB (by rw [sz5, Nat.mul_one]; exact hbase) (by rw [bytes5]; omega) hsm
  rw [sz5] at this
  simp only [Nat.mul_one, ← cellsOf_append] at this
  exact this

end Go.Proofs.YtjklbhdhjfifhaaGreat
