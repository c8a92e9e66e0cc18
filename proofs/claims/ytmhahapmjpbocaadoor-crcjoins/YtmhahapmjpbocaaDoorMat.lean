/-
  Matrices of bits: what an array of rows does to a register, in the code and in the document's answer, is what the linear map does whose rows it holds.
-/
import Derived.Test.YtmhahapmjpbocaaDoorUpd
import Derived.Laws.Rows
import Derived.Laws.Tables
namespace Go.Proofs.YtmhahapmjpbocaaDoor
open Go.RowKit

section
variable {P : Program}
/-- A new variable of an array's type, its noughts behind a name. -/
theorem wpList_alloc_zero {ops : Array Oper} {rest : List Oper} {o : Oper} {a : Act} {w : World} {Q : Exit → Act → World → Prop} (hgd : o.guard = none) (ty : TypeId) (ho : o.op = .alloc ty)
    (zs : Array Value) (hz : ∀ w, (zeroValue ty).run P w = .ok (.agg zs) w)
    (h : wpList P ops Q rest (a.put o.dst (.pointer (some ⟨w.heap.size, 0, none⟩))) (w.alloc (.cells zs ty))) : wpList P ops Q (o :: rest) a w :=
  wpList_plain hgd fun K hK => by
    have hr : (Instr.alloc ty true (.tuple #[])).run P w = .ok (.pointer (some ⟨w.heap.size, 0, none⟩)) (w.alloc (.cells zs ty)) := by
      simp [Instr.alloc, Sem.run_bind, hz w, newVar, newRow, Value.cells]
    unfold Oper.wp execOp
    simp only [ho, Sem.run_bind, Sem.run_pure, Result.andThen_ok, hr]
    exact hK _ _ h
end

def zeros32 : Array Value := Array.replicate 32 (.int .u32 0)
theorem zero38 (w : World) : Sem.run Tryd.prog (zeroValue 38) w = .ok (.agg zeros32) w := by kernel_rfl
theorem zero37 (w : World) : Sem.run Tryd.prog (zeroValue 37) w = .ok (.agg zeros32) w := by kernel_rfl

/-- The rows of a linear map, as an array holds them. -/
def rowsOf (L : BitVec 32 → BitVec 32) : Array Value := Array.ofFn (n := 32) fun i => .int .u32 ((L (1#32 <<< i.val)).toNat : Int)
/-- The first k of them, noughts behind. -/
def fill (L : BitVec 32 → BitVec 32) (k : Nat) : Array Value := Array.ofFn (n := 32) fun i => if i.val < k then .int .u32 ((L (1#32 <<< i.val)).toNat : Int) else .int .u32 0

theorem rowsOf_size (L : BitVec 32 → BitVec 32) : (rowsOf L).size = 32 := by simp [rowsOf]
theorem fill_size (L : BitVec 32 → BitVec 32) (k : Nat) : (fill L k).size = 32 := by simp [fill]
theorem rowsOf_at (L : BitVec 32 → BitVec 32) (k : Nat) (h : k < 32) : (rowsOf L)[k]? = some (.int .u32 ((L (1#32 <<< k)).toNat : Int)) := by
  simp [rowsOf, h]
theorem fill_zero (L : BitVec 32 → BitVec 32) : fill L 0 = zeros32 := by
  apply Array.ext
  · simp [fill, zeros32]
  · intro i h1 h2
    simp [fill, zeros32]
theorem fill_full (L : BitVec 32 → BitVec 32) : fill L 32 = rowsOf L := by
  apply Array.ext
  · simp [fill, rowsOf]
  · intro i h1 h2
    simp [fill, rowsOf]
theorem fill_set (L : BitVec 32 → BitVec 32) (k : Nat) : (fill L k).setIfInBounds k (.int .u32 ((L (1#32 <<< k)).toNat : Int)) = fill L (k + 1) := by
  apply Array.ext
  · simp [fill]
  · intro i h1 h2
    have hi : i < 32 := by simpa [fill] using h2
    rw [Array.getElem_setIfInBounds (by simpa [fill] using hi)]
    by_cases e : k = i
    · subst e; simp [fill]
    · have : (i < k + 1) = (i < k) := by simp; omega
      simp [fill, e, this]
theorem rowsOf_one (L : BitVec 32 → BitVec 32) : (rowsOf L).all (·.oneCell') = true := by
  rw [Array.all_eq_true]
  intro i h
  simp [rowsOf, Value.oneCell']

theorem rows_info38 (L : BitVec 32 → BitVec 32) : (Tryd.prog.info? 38).map (·.size) = some (rowsOf L).size := by rw [rowsOf_size]; kernel_rfl
theorem rows_info37 (L : BitVec 32 → BitVec 32) : (Tryd.prog.info? 37).map (·.size) = some (rowsOf L).size := by rw [rowsOf_size]; kernel_rfl

/-- The cells of an array that holds a map's rows. -/
theorem rows_cell {w : World} {g t : Nat} {L : BitVec 32 → BitVec 32} (h : w.heap[g]? = some (.cells (rowsOf L) t (0, 0))) (k : Nat) (hk : k < 32) : w.cell? ⟨g, k, none⟩ = some (.int .u32 ((L (1#32 <<< k)).toNat : Int)) := by
  rw [cell_of_row w g k _ t (0, 0) h, rowsOf_at L k hk]

set_option maxRecDepth 100000 in
set_option maxHeartbeats 1000000 in
theorem of_any (L : BitVec 32 → BitVec 32) (hL : Crc32.Lin L) (x : BitVec 32) (w : World) (hw : Tab w) :
    Calls Tryd.prog 21 #[.agg (rowsOf L), .int .u32 x.toNat] w fun e w' => e = .returned (.int .u32 (L x).toNat) ∧ Below w.heap.size w w' := by
  have HL := hide hL
  have HW := hide hw
  clear hL hw
  go_enter Tryd.func21, Tryd.ntmps21
  go_wp2
  have hb : Below w.heap.size w (w.alloc (.cells (rowsOf L) 38)) := (Below.refl _ _).alloc (Nat.le_refl _) _
  have hr := heap_alloc_new w (.cells (rowsOf L) 38)
  have ht := HW.out.below hb
  have HB := hide hb
  have HR := hide hr
  have HT := hide ht
  clear hb hr ht
  generalize w.alloc (.cells (rowsOf L) 38) = w1 at *
  go_loopw [1, 5] (fun reg acc wr => ∃ y z : BitVec 32, reg = .int .u32 y.toNat ∧ acc = .int .u32 z.toNat ∧ z ^^^ L y = L x ∧ wr = w1) (fun reg _ _ => (intOf reg).toNat)
  case atStart => exact ⟨x, 0#32, rfl, rfl, BitVec.zero_xor, rfl⟩
  case round =>
    obtain ⟨y, z, rfl, rfl, hz, rfl⟩ := hrel
    have HZ := hide hz
    clear hz
    by_cases hy : y = 0#32
    · subst hy
      go_wp2
      go_ret
      refine ⟨ret_w ?_, HB.out⟩
      rw [← HZ.out, HL.out.zero, BitVec.xor_zero]
    · obtain ⟨t, ht, h1, h2, h3⟩ := Crc32.low y hy
      have hne : ((y.toNat : Int) != 0) = true := by
        rw [bne_iff_ne]
        intro e
        exact hy (BitVec.eq_of_toNat_eq (by simpa using e))
      have hc := rows_cell HR.out t ht
      have HY := hide hy
      have H1 := hide h1
      have HX := xor_w z (L (1#32 <<< t))
      have HS : ((y.toNat : Int) - (1 : Int)) % (4294967296 : Int) = ((y - 1#32).toNat : Int) := sub_w y 1#32
      have HA := and_w y (y - 1#32)
      have HZ2 : Hid ((z ^^^ L (1#32 <<< t)) ^^^ L (y &&& (y - 1#32)) = L x) := by
        unfold Hid
        rw [← HZ.out, HL.out.low y t h2, BitVec.xor_assoc, BitVec.xor_comm (L (1#32 <<< t))]
      have H3 := hide h3
      clear hy h1 h2 h3
      generalize y &&& (y - 1#32) = y2 at *
      generalize y - 1#32 = y1 at *
      go_wp2_with fail
      refine (tz_any y _ HT.out t ht HY.out H1.out).mono ?_
      rintro e w' ⟨rfl, hw⟩
      subst hw
      go_wp2
      go_roundw
      case rel => exact ⟨y2, z ^^^ L (1#32 <<< t), rfl, rfl, HZ2.out, by trivial⟩
      case measure =>
        simp only [intOf, Int.toNat_natCast]
        exact H3.out

theorem heap_keep {w w' : World} (h : Below w.heap.size w w') {g : Nat} {o : Obj} (e : w.heap[g]? = some o) : w'.heap[g]? = some o := by
  rw [h.block g, e]
  rcases Nat.lt_or_ge g w.heap.size with l | l
  · exact l
  · rw [Array.getElem?_eq_none l] at e; cases e
theorem row_there {w : World} {g t : Nat} {cs : Array Value} (h : w.heap[g]? = some (.cells cs t (0, 0))) (hs : cs.size = 32) (k : Nat) (hk : k < 32) : ∃ v, w.cell? ⟨g, k, none⟩ = some v :=
  ⟨cs[k], by rw [cell_of_row w g k _ t (0, 0) h]; simp [hs, hk]⟩
theorem fill_store {w : World} {g t : Nat} {L : BitVec 32 → BitVec 32} {k : Nat} (h : w.heap[g]? = some (.cells (fill L k) t (0, 0))) :
    (w.setCell ⟨g, k, none⟩ (.int .u32 ((L (1#32 <<< k)).toNat : Int))).heap[g]? = some (.cells (fill L (k + 1)) t (0, 0)) := by
  rw [heap_setCell_same w g k _ t _ h, fill_set]

theorem below_setRow {B : Nat} {a w : World} (h : Below B a w) {g : Nat} (hg : B ≤ g) (cs : Array Value) : Below B a (w.setRow g cs) :=
  h.trans ⟨rfl, rfl, rfl, by simp, fun k hk => setRow_other w g k cs (by omega)⟩

theorem heap3_first (w : World) (A B C : Obj) : (((w.alloc A).alloc B).alloc C).heap[w.heap.size]? = some A := by
  rw [Below.heap_alloc _ _ _ (by simp; omega), heap_alloc2_old]
theorem heap3_second (w : World) (A B C : Obj) : (((w.alloc A).alloc B).alloc C).heap[w.heap.size + 1]? = some B := by
  rw [Below.heap_alloc _ _ _ (by simp), heap_alloc2_new]
theorem heap3_third (w : World) (A B C : Obj) : (((w.alloc A).alloc B).alloc C).heap[w.heap.size + 1 + 1]? = some C := by
  have := heap_alloc_new ((w.alloc A).alloc B) C
  simpa using this

theorem run_index38 (L : BitVec 32 → BitVec 32) (k : Nat) (h : k < 32) (w : World) : (Instr.index 38 (.agg (rowsOf L)) (.int .i64 (k : Int))).run Tryd.prog w = .ok (.int .u32 ((L (1#32 <<< k)).toNat : Int)) w := by
  have hs : (sizeOf 22).run Tryd.prog w = .ok 1 w := by kernel_rfl
  simp [Instr.index, asIntOf, Sem.run_bind, run_underlying Tryd.underlying38, hs, part, rowsOf_at L k h, h]

set_option maxRecDepth 100000 in
set_option maxHeartbeats 1000000 in
theorem squared_any (L : BitVec 32 → BitVec 32) (hL : Crc32.Lin L) (w : World) (hw : Tab w) :
    Calls Tryd.prog 22 #[.agg (rowsOf L)] w fun e w' => e = .returned (.agg (rowsOf fun x => L (L x))) ∧ Below w.heap.size w w' := by
  have HL := hide hL
  have HW := hide hw
  clear hL hw
  go_enter Tryd.func22, Tryd.ntmps22
  go_wp2_with (first | (refine wpList_alloc_zero rfl 38 rfl zeros32 zero38 ?_) | (refine wpList_load_row rfl 38 _ rfl _ rfl _ _ _ _ (heap3_first _ _ _ _) Tryd.underlying38 rfl (rows_info38 _) ?_))
  go_loopw [7] (fun i wr => ∃ k : Nat, k ≤ 32 ∧ i = .int .i64 k ∧ Below w.heap.size w wr ∧ wr.heap[w.heap.size]? = some (.cells (rowsOf L) 38 (0, 0)) ∧ wr.heap[w.heap.size + 1]? = some (.cells zeros32 38 (0, 0)) ∧ wr.heap[w.heap.size + 1 + 1]? = some (.cells (fill (fun x => L (L x)) k) 38 (0, 0))) (fun i _ => 32 - (intOf i).toNat)
  case atStart =>
    exact ⟨0, by omega, rfl, (((Below.refl _ _).alloc (Nat.le_refl _) _).alloc (by simp) _).alloc (by simp; omega) _, heap3_first _ _ _ _, heap3_second _ _ _ _, by rw [fill_zero]; exact heap3_third _ _ _ _⟩
  case round =>
    obtain ⟨k, hk, rfl, hb, g0, g1, g2⟩ := hrel
    have HB := hide hb
    have G0 := hide g0
    have G1 := hide g1
    have G2 := hide g2
    clear hb g0 g1 g2
    by_cases hlt : k < 32
    · have hidx := run_index38 L k hlt
      go_wp2_with (refine wpList_load_row rfl 38 _ rfl _ rfl _ _ _ _ G0.out Tryd.underlying38 rfl (rows_info38 _) ?_)
      clear hidx
      refine (of_any L HL.out (L (1#32 <<< k)) _ (HW.out.below HB.out)).mono ?_
      rintro e w' ⟨rfl, hb⟩
      have B' := hide hb
      have G0' := hide (heap_keep hb G0.out)
      have G1' := hide (heap_keep hb G1.out)
      have G2' := hide (heap_keep hb G2.out)
      clear hb
      obtain ⟨v, c1⟩ := row_there G2'.out (fill_size _ _) k hlt
      have c2 := frozen_of_row w' (w.heap.size + 1 + 1) k _ 38 G2'.out
      go_wp2
      go_roundw
      case rel =>
        refine ⟨k + 1, by omega, by go_num, ?_, ?_, ?_, ?_⟩
        · exact (HB.out.trans (B'.out.mono HB.out.size)).setCell (by simp; omega) _
        · rw [heap_setCell_other _ _ _ _ (by simp; omega)]; exact G0'.out
        · rw [heap_setCell_other _ _ _ _ (by simp)]; exact G1'.out
        · exact fill_store G2'.out
      case measure => simp [intOf]; omega
    · obtain rfl : k = 32 := by omega
      rw [fill_full] at G2
      go_wp2_with (first | (refine wpList_load_row rfl 38 _ rfl _ rfl _ _ _ _ G2.out Tryd.underlying38 rfl (rows_info38 _) ?_) | (refine wpList_store_row rfl 38 _ _ rfl _ _ rfl rfl _ _ G1.out (rows_info38 _) (by rw [rowsOf_size]; rfl) (rowsOf_one _) ?_))
      refine bodyPost_ret (v := .agg (rowsOf fun x => L (L x))) ?_ rfl ⟨rfl, ?_⟩
      · exact results_cell_row Tryd.results22 _ _ _ _ _ _ _ rfl (setRow_heap _ _ _ _ _ _ G1.out) Tryd.underlying38 rfl (rows_info38 _)
      · exact below_setRow HB.out (by omega) _

theorem shl1_w (k : Nat) (h : k < 32) : (2 : Int) ^ k % (4294967296 : Int) = ((1#32 <<< k).toNat : Int) := by
  have : ∀ k : Fin 32, (2 : Int) ^ k.val % (4294967296 : Int) = ((1#32 <<< k.val).toNat : Int) := by decide +kernel
  exact this ⟨k, h⟩

set_option maxRecDepth 100000 in
set_option maxHeartbeats 1000000 in
theorem oneByte_any (w : World) (hw : Tab w) :
    Calls Tryd.prog 20 #[] w fun e w' => e = .returned (.agg (rowsOf Crc32.s8)) ∧ Below w.heap.size w w' := by
  have HW := hide hw
  clear hw
  go_enter Tryd.func20, Tryd.ntmps20
  go_wp2_with (refine wpList_alloc_zero rfl 38 rfl zeros32 zero38 ?_)
  go_loopw [3] (fun i wr => ∃ k : Nat, k ≤ 32 ∧ i = .int .i64 k ∧ Below w.heap.size w wr ∧ wr.heap[w.heap.size]? = some (.cells zeros32 38 (0, 0)) ∧ wr.heap[w.heap.size + 1]? = some (.cells (fill Crc32.step k) 38 (0, 0))) (fun i _ => 32 - (intOf i).toNat)
  case atStart =>
    exact ⟨0, by omega, rfl, ((Below.refl _ _).alloc (Nat.le_refl _) _).alloc (by simp) _, heap_alloc2_old _ _ _, by rw [fill_zero]; exact heap_alloc2_new _ _ _⟩
  case round =>
    obtain ⟨k, hk, rfl, hb, g0, g1⟩ := hrel
    have HB := hide hb
    have G0 := hide g0
    have G1 := hide g1
    clear hb g0 g1
    by_cases hlt : k < 32
    · obtain ⟨v, c1⟩ := row_there G1.out (fill_size _ _) k hlt
      have c2 := frozen_of_row wr (w.heap.size + 1) k _ 38 G1.out
      go_wp2_with fail
      rw [shl1_w k hlt]
      refine (step_any _ _).mono ?_
      rintro e w' ⟨rfl, hw⟩
      subst hw
      go_wp2
      go_roundw
      case rel =>
        refine ⟨k + 1, by omega, by go_num, ?_, ?_, ?_⟩
        · exact HB.out.setCell (by simp) _
        · rw [heap_setCell_other _ _ _ _ (by simp)]; exact G0.out
        · exact fill_store G1.out
      case measure => simp [intOf]; omega
    · obtain rfl : k = 32 := by omega
      rw [fill_full] at G1
      go_wp2_with (first | (refine wpList_load_row rfl 38 _ rfl _ rfl _ _ _ _ G1.out Tryd.underlying38 rfl (rows_info38 _) ?_))
      refine (squared_any _ Crc32.step_lin _ (HW.out.below HB.out)).mono ?_
      rintro e w1 ⟨rfl, b1⟩
      have B1 := hide (HB.out.trans (b1.mono HB.out.size))
      have G1 := hide (heap_keep b1 G0.out)
      clear b1
      go_wp2_with fail
      refine (squared_any _ (Crc32.step_lin.it 2) _ (HW.out.below B1.out)).mono ?_
      rintro e w2 ⟨rfl, b2⟩
      have B2 := hide (B1.out.trans (b2.mono B1.out.size))
      have G2 := hide (heap_keep b2 G1.out)
      clear b2
      go_wp2_with fail
      refine (squared_any _ (Crc32.step_lin.it 4) _ (HW.out.below B2.out)).mono ?_
      rintro e w3 ⟨rfl, b3⟩
      have B3 := hide (B2.out.trans (b3.mono B2.out.size))
      have G3 := hide (heap_keep b3 G2.out)
      clear b3
      go_wp2_with (first | (refine wpList_store_row rfl 38 _ _ rfl _ _ rfl rfl _ _ G3.out (rows_info38 _) (by rw [rowsOf_size]; rfl) (rowsOf_one _) ?_))
      refine bodyPost_ret (v := .agg (rowsOf Crc32.s8)) ?_ rfl ⟨rfl, ?_⟩
      · exact results_cell_row Tryd.results20 _ _ _ _ _ _ _ rfl (setRow_heap _ _ _ _ _ _ G3.out) Tryd.underlying38 rfl (rows_info38 _)
      · exact below_setRow B3.out (by omega) _

theorem lsb_w (x : BitVec 32) (k : Nat) : ((x.toNat : Int) / 2 ^ k % (2 : Int) == 1) = x.getLsbD k := by
  have e : (x.toNat : Int) / 2 ^ k % (2 : Int) = ((x.toNat / 2 ^ k % 2 : Nat) : Int) := by
    simp only [Int.natCast_emod, Int.natCast_ediv, Int.natCast_pow, Int.cast_ofNat_Int]
  rw [e]
  show _ = x.toNat.testBit k
  rw [Nat.testBit_eq_decide_div_mod_eq]
  rw [Bool.eq_iff_iff, beq_iff_eq, decide_eq_true_iff]
  omega

set_option maxRecDepth 100000 in
set_option maxHeartbeats 1000000 in
theorem mul_any (L : BitVec 32 → BitVec 32) (hL : Crc32.Lin L) (x : BitVec 32) (w : World) :
    Calls Tryd.prog 24 #[.agg (rowsOf L), .int .u32 x.toNat] w fun e w' => e = .returned (.int .u32 (L x).toNat) ∧ Below w.heap.size w w' := by
  have HL := hide hL
  clear hL
  go_enter Tryd.func24, Tryd.ntmps24
  go_wp2
  have hb : Below w.heap.size w (w.alloc (.cells (rowsOf L) 37)) := (Below.refl _ _).alloc (Nat.le_refl _) _
  have HB := hide hb
  have HR := hide (heap_alloc_new w (.cells (rowsOf L) 37))
  clear hb
  generalize w.alloc (.cells (rowsOf L) 37) = w1 at *
  go_loop [5, 6] (fun acc i => ∃ k : Nat, k ≤ 32 ∧ i = .int .i64 k ∧ acc = .int .u32 (L (Crc32.lows x k)).toNat) (fun _ i => 32 - (intOf i).toNat)
  case atStart => exact ⟨0, by omega, rfl, by rw [show Crc32.lows x 0 = 0#32 from rfl, HL.out.zero]; rfl⟩
  case round =>
    obtain ⟨k, hk, rfl, rfl⟩ := hrel
    by_cases hlt : k < 32
    · have hc := rows_cell HR.out k hlt
      have hbit := lsb_w x k
      have HX := xor_w (L (Crc32.lows x k)) (L (1#32 <<< k))
      have HN := hide (HL.out.lows x k)
      have hnn : 0 ≤ (x.toNat : Int) / 2 ^ k := Int.ediv_nonneg (by omega) (Int.pow_nonneg (by omega))
      generalize L (Crc32.lows x k) = acc at *
      generalize L (1#32 <<< k) = rk at *
      generalize acc ^^^ rk = nx at *
      cases hg : x.getLsbD k
      · rw [hg] at hbit
        have HG := hide hg
        clear hg
        go_wp2
        go_round
        case rel => exact ⟨k + 1, by omega, by go_num, by rw [HN.out, HG.out]; rfl⟩
        case measure => simp [intOf]; omega
      · rw [hg] at hbit
        have HG := hide hg
        clear hg
        go_wp2
        go_round
        case rel => exact ⟨k + 1, by omega, by go_num, by rw [HN.out, HG.out]; rfl⟩
        case measure => simp [intOf]; omega
    · obtain rfl : k = 32 := by omega
      go_wp2
      go_ret
      exact ⟨ret_w (by rw [Crc32.lows_all]), HB.out⟩

end Go.Proofs.YtmhahapmjpbocaaDoor
