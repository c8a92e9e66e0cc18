import Derived.Test.YtjklbhdhjfifhaaGreatM16
import Derived.BigQuiet
import Derived.Deep.RegionWith
import Derived.Laws.Rows
import Derived.Laws.Tables
import Derived.Laws.CopyOwn
/-
  Leaves of package frame: what a Size, a Kind, a length, a masked sum and a head answer.
-/
namespace Go.Proofs.YtjklbhdhjfifhaaGreat
open Go.RowKit

set_option maxHeartbeats 400000 in
theorem fsize_any (n : Int) (w : World) (h : n ≤ 1152921504606846976) (_h2 : -9223372036854775808 ≤ n) :
    Calls Tryz.prog 137 #[.int .i64 n] w fun e w' => e = .returned (.int .i64 (max n 0 + 12)) ∧ w' = w := by
  rcases Int.lt_or_le n 0 with hn | hn
  · go_enter Tryz.func137, Tryz.ntmps137
    go_wp2
    go_ret
    exact ⟨ret_int (by omega), rfl⟩
  · go_enter Tryz.func137, Tryz.ntmps137
    go_wp2
    go_ret
    exact ⟨ret_int (by omega), rfl⟩
/-- Bytes as the cells of an array. -/
def aggB (bs : List (BitVec 8)) : Value := .agg (bs.map fun b => Value.int .u8 (b.toNat : Int)).toArray

set_option maxHeartbeats 400000 in
theorem kind_any (b0 b1 b2 b3 b4 b5 b6 b7 : BitVec 8) (w : World) :
    Calls Tryz.prog 136 #[aggB [b0, b1, b2, b3, b4, b5, b6, b7]] w
      fun e w' => e = .returned (.int .u8 b0.toNat) ∧ Below w.heap.size w w' := by
  show Calls Tryz.prog 136 #[.agg #[.int .u8 b0.toNat, .int .u8 b1.toNat, .int .u8 b2.toNat, .int .u8 b3.toNat, .int .u8 b4.toNat, .int .u8 b5.toNat, .int .u8 b6.toNat, .int .u8 b7.toNat]] w _
  go_enter Tryz.func136, Tryz.ntmps136
  go_wp2
  go_ret
  exact ⟨rfl, (Below.refl _ _).alloc (Nat.le_refl _) _⟩

theorem or_i64 (x y : Nat) (h : x ||| y < 9223372036854775808) (hx : x < 9223372036854775808) (hy : y < 9223372036854775808) : bits .or .i64 (x : Int) (y : Int) = ((x ||| y : Nat) : Int) := by
  show IntKind.i64.wrap ((BitVec.ofInt 64 (x : Int) ||| BitVec.ofInt 64 (y : Int)).toNat : Int) = _
  rw [show BitVec.ofInt 64 (x : Int) = BitVec.ofNat 64 x from rfl, show BitVec.ofInt 64 (y : Int) = BitVec.ofNat 64 y from rfl, BitVec.toNat_or, BitVec.toNat_ofNat, BitVec.toNat_ofNat, Nat.mod_eq_of_lt (by omega), Nat.mod_eq_of_lt (by omega)]
  rw [IntKind.wrap_i64]
  generalize x ||| y = z at *
  omega
theorem or_low (x y i : Nat) (h : x < 2 ^ i) : x ||| 2 ^ i * y = x + 2 ^ i * y := by
  rw [Nat.or_comm, ← Nat.two_pow_add_eq_or_of_lt h, Nat.add_comm]
theorem or3 (a b c : BitVec 8) : bits .or .i64 (bits .or .i64 (a.toNat : Int) ((b.toNat : Int) * 256)) ((c.toNat : Int) * 65536) = ((a.toNat + 256 * b.toNat + 65536 * c.toNat : Nat) : Int) := by
  have ha := a.isLt
  have hb := b.isLt
  have hc := c.isLt
  have e1 := or_low a.toNat b.toNat 8 ha
  have e2 := or_low (a.toNat + 256 * b.toNat) c.toNat 16 (by omega)
  rw [show (2 : Nat) ^ 8 = 256 from rfl] at e1
  rw [show (2 : Nat) ^ 16 = 65536 from rfl] at e2
  rw [show (b.toNat : Int) * 256 = ((256 * b.toNat : Nat) : Int) by omega, or_i64 _ _ (by rw [e1]; omega) (by omega) (by omega), e1,
    show (c.toNat : Int) * 65536 = ((65536 * c.toNat : Nat) : Int) by omega, or_i64 _ _ (by rw [e2]; omega) (by omega) (by omega), e2]

set_option maxHeartbeats 400000 in
theorem length_any (b0 b1 b2 b3 b4 b5 b6 b7 : BitVec 8) (w : World) :
    Calls Tryz.prog 175 #[aggB [b0, b1, b2, b3, b4, b5, b6, b7]] w
      fun e w' => e = .returned (.int .i64 ((b1.toNat + 256 * b2.toNat + 65536 * b3.toNat : Nat) : Int)) ∧ Below w.heap.size w w' := by
  show Calls Tryz.prog 175 #[.agg #[.int .u8 b0.toNat, .int .u8 b1.toNat, .int .u8 b2.toNat, .int .u8 b3.toNat, .int .u8 b4.toNat, .int .u8 b5.toNat, .int .u8 b6.toNat, .int .u8 b7.toNat]] w _
  have H := hide (or3 b1 b2 b3)
  go_enter Tryz.func175, Tryz.ntmps175
  go_wp2
  go_ret
  exact ⟨ret_int H.out, (Below.refl _ _).alloc (Nat.le_refl _) _⟩

theorem byte0_w (x : BitVec 32) : (x.toNat : Int) % (256 : Int) = ((x.setWidth 8).toNat : Int) := low8_w x
theorem byte1_w (x : BitVec 32) : (x.toNat : Int) / (256 : Int) % (256 : Int) = (((x >>> 8).setWidth 8).toNat : Int) := by rw [shr8_w, low8_w]
theorem byte2_w (x : BitVec 32) : (x.toNat : Int) / (65536 : Int) % (256 : Int) = (((x >>> 16).setWidth 8).toNat : Int) := by
  rw [show (x.toNat : Int) / (65536 : Int) = ((x >>> 16).toNat : Int) from shr_w x 16, low8_w]
theorem byte3_w (x : BitVec 32) : (x.toNat : Int) / (16777216 : Int) = (((x >>> 24).setWidth 8).toNat : Int) := by
  have e : (x.toNat : Int) / (16777216 : Int) = ((x >>> 24).toNat : Int) := shr_w x 24
  have h := x.isLt
  have h2 : (x.toNat : Int) / (16777216 : Int) % (256 : Int) = (x.toNat : Int) / (16777216 : Int) := by omega
  rw [← h2, e, low8_w]

theorem info50 : (Tryz.prog.info? 188).map (·.size) = some 4 := by kernel_rfl
theorem info47 : (Tryz.prog.info? 192).map (·.size) = some 8 := by kernel_rfl
theorem info27 : (Tryz.prog.info? 135).map (·.size) = some 2 := by kernel_rfl

set_option maxHeartbeats 400000 in
theorem sumOf_any (v : Value) (bs : List (BitVec 8)) (w : World) (h : Bytes w v bs) (hl : bs.length ≤ maxLen) :
    Calls Tryz.prog 156 #[v] w fun e w' => ∃ s0 s1 s2 s3 : BitVec 8, Fr.msum bs = [s0, s1, s2, s3] ∧ e = .returned (aggB [s0, s1, s2, s3]) ∧ Below w.heap.size w w' := by
  have H := hide h
  clear h
  go_enter Tryz.func156, Tryz.ntmps156
  go_wp2_with fail
  refine (sum_any v bs _ (H.out.below ((Below.refl _ _).alloc (Nat.le_refl _) _)) hl).mono ?_
  rintro e w1 ⟨rfl, b1⟩
  have hc : w1.heap[w.heap.size]? = some (.cells #[.int .u8 0, .int .u8 0, .int .u8 0, .int .u8 0] 188 (0, 0)) := by
    rw [b1.block _ (by simp), heap_alloc_new]
  have B1 := hide (((Below.refl w.heap.size w).alloc (Nat.le_refl _) _).trans (b1.mono (by simp)))
  have HC := hide hc
  clear b1 hc
  go_wp2_with fail
  refine (mask_any _ _).mono ?_
  rintro e w2 ⟨rfl, hw⟩
  subst hw
  generalize hx : mask (Crc32.sum bs) = x
  have HX := hide hx
  clear hx
  go_wp2_with (refine wpList_store_row rfl 188 _ _ rfl _ _ rfl rfl _ _ HC.out ?_ ?_ ?_ ?_; (exact info50); (simp only [List.size_toArray, List.length_cons, List.length_nil]); (simp [Value.oneCell']))
  refine bodyPost_ret (v := .agg #[.int .u8 ((x.toNat : Int) % (256 : Int)), .int .u8 ((x.toNat : Int) / (256 : Int) % (256 : Int)), .int .u8 ((x.toNat : Int) / (65536 : Int) % (256 : Int)), .int .u8 ((x.toNat : Int) / (16777216 : Int))]) ?_ rfl ?_
  · exact results_cell_row Tryz.results156 _ _ _ _ _ _ _ rfl (setRow_heap _ _ _ _ _ _ HC.out) Tryz.underlying188 rfl info50
  · refine ⟨x.setWidth 8, (x >>> 8).setWidth 8, (x >>> 16).setWidth 8, (x >>> 24).setWidth 8, ?_, ?_, below_setRow B1.out (Nat.le_refl _) _⟩
    · rw [← HX.out]
      unfold Fr.msum Fr.four
      exact Eq.refl _
    · rw [byte0_w, byte1_w, byte2_w, byte3_w]
      simp only [aggB, List.map_cons, List.map_nil]
end Go.Proofs.YtjklbhdhjfifhaaGreat
