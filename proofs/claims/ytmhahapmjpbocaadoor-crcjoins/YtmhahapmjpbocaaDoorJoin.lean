/-
  Join, of the code and of the document's answer: the one sum, moved on by as many bytes 0 as the other has, put to the other.
-/
import Derived.Test.YtmhahapmjpbocaaDoorMat
namespace Go.Proofs.YtmhahapmjpbocaaDoor
open Go.RowKit

theorem pow_sq (f : BitVec 32 → BitVec 32) (k : Nat) : (fun x => Crc32.it f (2 ^ k) (Crc32.it f (2 ^ k) x)) = Crc32.it f (2 ^ (k + 1)) := by
  funext x
  rw [← Crc32.it_add, Nat.pow_succ, Nat.mul_two]
theorem it_odd (f : BitVec 32 → BitVec 32) (m k : Nat) (y : BitVec 32) (h : m % 2 = 1) : Crc32.it f (m / 2 * 2 ^ (k + 1)) (Crc32.it f (2 ^ k) y) = Crc32.it f (m * 2 ^ k) y := by
  rw [← Crc32.it_add]
  congr 1
  rw [Nat.pow_succ, Nat.mul_comm (2 ^ k) 2, ← Nat.mul_assoc, show m / 2 * 2 = m - 1 by omega, ← Nat.succ_mul]
  congr 1
  omega
theorem it_even (f : BitVec 32 → BitVec 32) (m k : Nat) (y : BitVec 32) (h : m % 2 = 0) : Crc32.it f (m / 2 * 2 ^ (k + 1)) y = Crc32.it f (m * 2 ^ k) y := by
  rw [Nat.pow_succ, Nat.mul_comm (2 ^ k) 2, ← Nat.mul_assoc, show m / 2 * 2 = m by omega]

set_option maxHeartbeats 400000 in
theorem join_bad (a b : BitVec 32) (n : Int) (w : World) (h : n < 0 ∨ 1099511627776 < n) :
    Calls Tryd.prog 7 #[.int .u32 a.toNat, .int .u32 b.toNat, .int .i64 n] w fun e w' => e = .returned (.tuple #[.int .u32 0, .int .i64 2]) ∧ w' = w := by
  rcases h with h | h
  · go_enter Tryd.func7, Tryd.ntmps7
    go_wp2
    go_ret2
    exact ⟨rfl, rfl⟩
  · have h0 : ¬ n < 0 := by omega
    go_enter Tryd.func7, Tryd.ntmps7
    go_wp2
    go_ret2
    exact ⟨rfl, rfl⟩

set_option maxRecDepth 100000 in
set_option maxHeartbeats 1000000 in
theorem join_any (a b : BitVec 32) (n : Nat) (w : World) (hn : n ≤ 1099511627776) (hw : Tab w) :
    Calls Tryd.prog 7 #[.int .u32 a.toNat, .int .u32 b.toNat, .int .i64 n] w fun e w' => e = .returned (.tuple #[.int .u32 (Crc32.join a b n).toNat, .int .i64 0]) ∧ Below w.heap.size w w' := by
  have HW := hide hw
  clear hw
  have h1 : ¬ (n : Int) < 0 := by omega
  have h2 : ¬ (1099511627776 : Int) < (n : Int) := by omega
  go_enter Tryd.func7, Tryd.ntmps7
  go_wp2_with fail
  refine (oneByte_any _ HW.out).mono ?_
  rintro e w1 ⟨rfl, b1⟩
  have B1 := hide b1
  have hs1 := b1.size
  clear b1
  go_wp2_with (first | (refine wpList_alloc_zero rfl 38 rfl zeros32 zero38 ?_) | (refine wpList_store_row rfl 38 _ _ rfl _ _ rfl rfl _ _ (heap_alloc_new _ _) (rows_info38 _) (by rw [rowsOf_size]; rfl) (rowsOf_one _) ?_))
  simp only [Act.put, List.setIfInBounds_toArray, List.set_cons_succ, List.set_cons_zero]
  have hb2 := below_setRow ((B1.out).alloc hs1 (.cells zeros32 38)) (g := w1.heap.size) hs1 (rowsOf Crc32.s8)
  have g2 := setRow_heap (w1.alloc (.cells zeros32 38)) w1.heap.size _ (rowsOf Crc32.s8) 38 (0, 0) (heap_alloc_new w1 _)
  generalize (w1.alloc (.cells zeros32 38)).setRow w1.heap.size (rowsOf Crc32.s8) = w2 at *
  have HB2 := hide hb2
  have G2 := hide g2
  clear hb2 g2
  generalize w1.heap.size = B at *
  go_loopw [0, 2] (fun av nv wr => ∃ (m k : Nat) (y : BitVec 32), m ≤ 1099511627776 ∧ nv = .int .i64 m ∧ av = .int .u32 y.toNat ∧ Crc32.it Crc32.s8 (m * 2 ^ k) y = Crc32.it Crc32.s8 n a ∧ Below w.heap.size w wr ∧ wr.heap[B]? = some (.cells (rowsOf (Crc32.it Crc32.s8 (2 ^ k))) 38 (0, 0))) (fun _ nv _ => (intOf nv).toNat)
  case atStart => exact ⟨n, 0, a, hn, rfl, rfl, by simp, HB2.out, G2.out⟩
  case round =>
    clear HB2 G2
    obtain ⟨m, k, y, hm, rfl, rfl, hy, hb, g⟩ := hrel
    have HY := hide hy
    have HB := hide hb
    have G := hide g
    clear hy hb g
    have HLin := hide (Crc32.s8_lin.it (2 ^ k))
    have HSq := hide (pow_sq Crc32.s8 k)
    by_cases h0 : m = 0
    · subst h0
      have HX := xor_w y b
      have HJ : Hid (y ^^^ b = Crc32.join a b n) := by
        unfold Hid Crc32.join
        rw [← HY.out]
        simp [Crc32.it]
      generalize y ^^^ b = j at *
      go_wp2
      go_ret2
      refine ⟨?_, HB.out⟩
      rw [← HJ.out]
      rfl
    · have hpos : 0 < (m : Int) := by omega
      by_cases ho : m % 2 = 1
      · have HO := hide (it_odd Crc32.s8 m k y ho)
        have ht : ((m : Int) % (2 : Int) == 1) = true := by rw [beq_iff_eq]; omega
        generalize hL : Crc32.it Crc32.s8 (2 ^ k) = L at *
        have HL := hide hL
        clear hL ho h0
        go_wp2_with (refine wpList_load_row rfl 38 _ rfl _ rfl _ _ _ _ G.out Tryd.underlying38 rfl (rows_info38 _) ?_)
        refine (of_any L HLin.out y _ (HW.out.below HB.out)).mono ?_
        rintro e w3 ⟨rfl, b3⟩
        have B3 := hide (HB.out.trans (b3.mono HB.out.size))
        have G3 := hide (heap_keep b3 G.out)
        clear b3
        go_wp2_with (refine wpList_load_row rfl 38 _ rfl _ rfl _ _ _ _ G3.out Tryd.underlying38 rfl (rows_info38 _) ?_)
        refine (squared_any L HLin.out _ (HW.out.below B3.out)).mono ?_
        rintro e w4 ⟨rfl, b4⟩
        have B4 := hide (B3.out.trans (b4.mono B3.out.size))
        have G4 := hide (heap_keep b4 G3.out)
        clear b4
        rw [HSq.out]
        go_wp2_with (first | (refine wpList_store_row rfl 38 _ _ rfl _ _ rfl rfl _ _ G4.out (rows_info38 _) (by rw [rowsOf_size, rowsOf_size]) (rowsOf_one _) ?_))
        go_roundw
        case rel => exact ⟨m / 2, k + 1, L y, by omega, by go_num, rfl, by rw [HO.out]; exact HY.out, below_setRow B4.out hs1 _, setRow_heap _ _ _ _ _ _ G4.out⟩
        case measure => simp [intOf]; omega
      · have HO := hide (it_even Crc32.s8 m k y (by omega))
        have ht : ((m : Int) % (2 : Int) == 1) = false := by rw [beq_eq_false_iff_ne]; omega
        generalize hL : Crc32.it Crc32.s8 (2 ^ k) = L at *
        clear hL ho h0
        go_wp2_with (refine wpList_load_row rfl 38 _ rfl _ rfl _ _ _ _ G.out Tryd.underlying38 rfl (rows_info38 _) ?_)
        refine (squared_any L HLin.out _ (HW.out.below HB.out)).mono ?_
        rintro e w4 ⟨rfl, b4⟩
        have B4 := hide (HB.out.trans (b4.mono HB.out.size))
        have G4 := hide (heap_keep b4 G.out)
        clear b4
        rw [HSq.out]
        go_wp2_with (first | (refine wpList_store_row rfl 38 _ _ rfl _ _ rfl rfl _ _ G4.out (rows_info38 _) (by rw [rowsOf_size, rowsOf_size]) (rowsOf_one _) ?_))
        go_roundw
        case rel => exact ⟨m / 2, k + 1, y, by omega, by go_num, rfl, by rw [HO.out]; exact HY.out, below_setRow B4.out hs1 _, setRow_heap _ _ _ _ _ _ G4.out⟩
        case measure => simp [intOf]; omega

end Go.Proofs.YtmhahapmjpbocaaDoor
