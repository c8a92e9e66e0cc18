/-
  Marks: a number's four bytes.
-/
import Derived.Test.YtolaaodhnhdadaaB2
import Derived.Test.YtolaaodhnhdadaaAp
namespace Go.Proofs.Ytolaaodhnhdadaa
open Go.RowKit
set_option maxRecDepth 100000
set_option maxHeartbeats 4000000
def by4 (n j : Nat) : Value := .int .u8 ((n / 2 ^ (8 * j) % 256 : Nat) : Int)
theorem by4_eq (n j : Nat) {z : Int} (h : z = ((n / 2 ^ (8 * j) % 256 : Nat) : Int)) : Value.int .u8 z = by4 n j := by rw [h]; rfl
theorem put_any (b n : Nat) (hn : n ≤ 1000000000) (w : World) (x0 x1 x2 x3 : Value) (h : w.heap[b]? = some (.cells #[x0, x1, x2, x3] 67 (0, 0))) :
    Calls Try.prog 38 #[.pointer (some ⟨b, 0, none⟩), .int .i64 (n : Nat)] w fun e w' => (∃ v, e = .returned v) ∧ w'.heap[b]? = some (.cells #[by4 n 0, by4 n 1, by4 n 2, by4 n 3] 67 (0, 0)) ∧ Turns (fun k => k = b) w w' := by
  have H := hide h
  clear h
  go_enter Try.func38, Try.ntmps38
  go_wp2_with fail
  go_loopw [5] (fun i wr => ∃ (k : Nat) (y0 y1 y2 y3 : Value), i = .int .i64 (k : Nat) ∧ k ≤ 4 ∧ wr.heap[b]? = some (.cells #[y0, y1, y2, y3] 67 (0, 0)) ∧ (0 < k → y0 = by4 n 0) ∧ (1 < k → y1 = by4 n 1) ∧ (2 < k → y2 = by4 n 2) ∧ (3 < k → y3 = by4 n 3) ∧ Turns (fun k => k = b) w wr) (fun i _ => 4 - (intOf i).toNat)
  case atStart => exact ⟨0, _, _, _, _, rfl, by omega, H.out, by omega, by omega, by omega, by omega, Turns.refl _ _⟩
  case round =>
    obtain ⟨k, y0, y1, y2, y3, rfl, hk, hh, e0, e1, e2, e3, ht⟩ := hrel
    have E0 := hide e0
    have E1 := hide e1
    have E2 := hide e2
    have E3 := hide e3
    have HT := hide ht
    have HH := hide hh
    clear e0 e1 e2 e3 ht hh
    have hcase : k = 0 ∨ k = 1 ∨ k = 2 ∨ k = 3 ∨ k = 4 := by omega
    rcases hcase with rfl | rfl | rfl | rfl | rfl
    · have zk := frozen_of_row wr b 0 _ 67 HH.out
      have ck : wr.cell? ⟨b, 0, none⟩ = some y0 := cell_of_row wr _ 0 _ 67 (0, 0) HH.out
      go_wp2_with fail
      go_region
      go_wp2_with fail
      go_roundw
      case rel =>
        have s1 := fun v => heap_setCell_same wr b 0 _ 67 v HH.out
        simp only [List.setIfInBounds_toArray, List.set_cons_zero] at s1
        refine ⟨0 + 1, _, _, _, _, by go_num, by omega, s1 _, fun _ => by4_eq n 0 (by omega), fun h => absurd h (by omega), fun h => absurd h (by omega), fun h => absurd h (by omega), ?_⟩
        exact (turns_cell HT.out 0 _).drew
      case measure => simp [intOf]
    · have zk := frozen_of_row wr b 1 _ 67 HH.out
      have ck : wr.cell? ⟨b, 1, none⟩ = some y1 := cell_of_row wr _ 1 _ 67 (0, 0) HH.out
      go_wp2_with fail
      go_region
      go_wp2_with fail
      go_roundw
      case rel =>
        have s1 := fun v => heap_setCell_same wr b 1 _ 67 v HH.out
        simp only [List.setIfInBounds_toArray, List.set_cons_succ, List.set_cons_zero] at s1
        refine ⟨1 + 1, _, _, _, _, by go_num, by omega, s1 _, fun _ => E0.out (by omega), fun _ => by4_eq n 1 (by omega), fun h => absurd h (by omega), fun h => absurd h (by omega), ?_⟩
        exact (turns_cell HT.out 1 _).drew
      case measure => simp [intOf]
    · have zk := frozen_of_row wr b 2 _ 67 HH.out
      have ck : wr.cell? ⟨b, 2, none⟩ = some y2 := cell_of_row wr _ 2 _ 67 (0, 0) HH.out
      go_wp2_with fail
      go_region
      go_wp2_with fail
      go_roundw
      case rel =>
        have s1 := fun v => heap_setCell_same wr b 2 _ 67 v HH.out
        simp only [List.setIfInBounds_toArray, List.set_cons_succ, List.set_cons_zero] at s1
        refine ⟨2 + 1, _, _, _, _, by go_num, by omega, s1 _, fun _ => E0.out (by omega), fun _ => E1.out (by omega), fun _ => by4_eq n 2 (by omega), fun h => absurd h (by omega), ?_⟩
        exact (turns_cell HT.out 2 _).drew
      case measure => simp [intOf]
    · have zk := frozen_of_row wr b 3 _ 67 HH.out
      have ck : wr.cell? ⟨b, 3, none⟩ = some y3 := cell_of_row wr _ 3 _ 67 (0, 0) HH.out
      go_wp2_with fail
      go_region
      go_wp2_with fail
      go_roundw
      case rel =>
        have s1 := fun v => heap_setCell_same wr b 3 _ 67 v HH.out
        simp only [List.setIfInBounds_toArray, List.set_cons_succ, List.set_cons_zero] at s1
        refine ⟨3 + 1, _, _, _, _, by go_num, by omega, s1 _, fun _ => E0.out (by omega), fun _ => E1.out (by omega), fun _ => E2.out (by omega), fun _ => by4_eq n 3 (by omega), ?_⟩
        exact (turns_cell HT.out 3 _).drew
      case measure => simp [intOf]
    · go_wp2_with fail
      go_end0
      exact ⟨⟨_, rfl⟩, by have h9 := HH.out; rw [E0.out (by omega), E1.out (by omega), E2.out (by omega), E3.out (by omega)] at h9; exact h9, HT.out⟩
theorem or_u32 (y v j : Nat) (h : y < 2 ^ j) (hv : y + v * 2 ^ j < 4294967296) : bits .or .u32 (y : Int) ((v * 2 ^ j : Nat) : Int) = ((y + v * 2 ^ j : Nat) : Int) := by
  have hw : ∀ z : Nat, z < 4294967296 → IntKind.u32.wrap (z : Int) = z := fun z hz => by
    simp [IntKind.wrap, IntKind.bits, IntKind.signed]
    omega
  show IntKind.u32.wrap ((BitVec.ofInt 32 (y : Int) ||| BitVec.ofInt 32 ((v * 2 ^ j : Nat) : Int)).toNat : Int) = _
  rw [BitVec.ofInt_natCast, BitVec.ofInt_natCast, BitVec.toNat_or, BitVec.toNat_ofNat, BitVec.toNat_ofNat, Nat.mod_eq_of_lt (by omega), Nat.mod_eq_of_lt (by omega)]
  have h2 : y ||| v * 2 ^ j = y + v * 2 ^ j := by
    rw [Nat.or_comm, Nat.mul_comm, ← Nat.two_pow_add_eq_or_of_lt h, Nat.add_comm]
  rw [h2, hw _ (by omega)]
theorem idx67_0 (a b c d : Int) (w : World) : (Instr.index 67 (.agg #[.int .u8 a, .int .u8 b, .int .u8 c, .int .u8 d]) (.int .i64 0)).run Try.prog w = .ok (.int .u8 a) w := by kernel_rfl
theorem idx67_1 (a b c d : Int) (w : World) : (Instr.index 67 (.agg #[.int .u8 a, .int .u8 b, .int .u8 c, .int .u8 d]) (.int .i64 1)).run Try.prog w = .ok (.int .u8 b) w := by kernel_rfl
theorem idx67_2 (a b c d : Int) (w : World) : (Instr.index 67 (.agg #[.int .u8 a, .int .u8 b, .int .u8 c, .int .u8 d]) (.int .i64 2)).run Try.prog w = .ok (.int .u8 c) w := by kernel_rfl
theorem idx67_3 (a b c d : Int) (w : World) : (Instr.index 67 (.agg #[.int .u8 a, .int .u8 b, .int .u8 c, .int .u8 d]) (.int .i64 3)).run Try.prog w = .ok (.int .u8 d) w := by kernel_rfl
def arr4 (a b c d : BitVec 8) : Value := .agg #[.int .u8 (a.toNat : Int), .int .u8 (b.toNat : Int), .int .u8 (c.toNat : Int), .int .u8 (d.toNat : Int)]
theorem number4_any (a b c d : BitVec 8) (w : World) : Calls Try.prog 51 #[arr4 a b c d] w fun e w' => e = .returned (.int .u32 (le4 a b c d : Nat)) ∧ Below w.heap.size w w' := by
  unfold arr4 le4
  have h1 := a.isLt
  have h2 := b.isLt
  have h3 := c.isLt
  have h4 := d.isLt
  generalize a.toNat = A at *
  generalize b.toNat = B at *
  generalize c.toNat = C at *
  generalize d.toNat = D at *
  go_enter Try.func51, Try.ntmps51
  go_wp2_with fail
  have ixs : ∀ w : World, (Instr.index 67 (.agg #[.int .u8 (A : Int), .int .u8 (B : Int), .int .u8 (C : Int), .int .u8 (D : Int)]) (.int .i64 0)).run Try.prog w = .ok (.int .u8 (A : Int)) w ∧ (Instr.index 67 (.agg #[.int .u8 (A : Int), .int .u8 (B : Int), .int .u8 (C : Int), .int .u8 (D : Int)]) (.int .i64 1)).run Try.prog w = .ok (.int .u8 (B : Int)) w ∧ (Instr.index 67 (.agg #[.int .u8 (A : Int), .int .u8 (B : Int), .int .u8 (C : Int), .int .u8 (D : Int)]) (.int .i64 2)).run Try.prog w = .ok (.int .u8 (C : Int)) w ∧ (Instr.index 67 (.agg #[.int .u8 (A : Int), .int .u8 (B : Int), .int .u8 (C : Int), .int .u8 (D : Int)]) (.int .i64 3)).run Try.prog w = .ok (.int .u8 (D : Int)) w := fun w => ⟨idx67_0 _ _ _ _ w, idx67_1 _ _ _ _ w, idx67_2 _ _ _ _ w, idx67_3 _ _ _ _ w⟩
  have IXS := hide ixs
  clear ixs
  go_loopw [3, 7] (fun v i wr => ∃ (k T : Nat), v = .int .u32 (T : Nat) ∧ i = .int .i64 (k : Nat) ∧ k ≤ 4 ∧ T = ((if 0 < k then A else 0) + (if 1 < k then 256 * B else 0) + (if 2 < k then 65536 * C else 0) + (if 3 < k then 16777216 * D else 0)) ∧ Below w.heap.size w wr) (fun _ i _ => 4 - (intOf i).toNat)
  case atStart => exact ⟨0, 0, rfl, rfl, by omega, rfl, (Below.refl _ _).alloc (Nat.le_refl _) _⟩
  case round =>
    obtain ⟨k, T, rfl, rfl, hk, hT, hb⟩ := hrel
    have HB := hide hb
    have HT := hide hT
    clear hb hT
    have hcase : k = 0 ∨ k = 1 ∨ k = 2 ∨ k = 3 ∨ k = 4 := by omega
    rcases hcase with rfl | rfl | rfl | rfl | rfl
    · have ix := fun u => ((IXS.out u).1)
      have hT2 := HT.out
      simp at hT2
      have hor := or_u32 T A 0 (by omega) (by omega)
      rw [show ((A * 2 ^ 0 : Nat) : Int) = (A : Int) by omega] at hor
      generalize hT3 : T + A * 2 ^ 0 = T2 at *
      have HT3 := hide hT3
      have HT2 := hide hT2
      clear hT2 hT3
      go_wp2_with fail
      go_roundw
      case rel => exact ⟨0 + 1, T2, by first | rfl | rw [hor], by go_num, by omega, by have h1 := HT3.out; have h2 := HT2.out; simp; omega, HB.out⟩
      case measure => simp [intOf]
    · have ix := fun u => ((IXS.out u).2.1)
      have hT2 := HT.out
      simp at hT2
      have hor := or_u32 T B 8 (by omega) (by omega)
      rw [show ((B * 2 ^ 8 : Nat) : Int) = (B : Int) * 256 by omega] at hor
      generalize hT3 : T + B * 2 ^ 8 = T2 at *
      have HT3 := hide hT3
      have HT2 := hide hT2
      clear hT2 hT3
      go_wp2_with fail
      go_roundw
      case rel => exact ⟨1 + 1, T2, by first | rfl | rw [hor], by go_num, by omega, by have h1 := HT3.out; have h2 := HT2.out; simp; omega, HB.out⟩
      case measure => simp [intOf]
    · have ix := fun u => ((IXS.out u).2.2.1)
      have hT2 := HT.out
      simp at hT2
      have hor := or_u32 T C 16 (by omega) (by omega)
      rw [show ((C * 2 ^ 16 : Nat) : Int) = (C : Int) * 65536 by omega] at hor
      generalize hT3 : T + C * 2 ^ 16 = T2 at *
      have HT3 := hide hT3
      have HT2 := hide hT2
      clear hT2 hT3
      go_wp2_with fail
      go_roundw
      case rel => exact ⟨2 + 1, T2, by first | rfl | rw [hor], by go_num, by omega, by have h1 := HT3.out; have h2 := HT2.out; simp; omega, HB.out⟩
      case measure => simp [intOf]
    · have ix := fun u => ((IXS.out u).2.2.2)
      have hT2 := HT.out
      simp at hT2
      have hor := or_u32 T D 24 (by omega) (by omega)
      rw [show ((D * 2 ^ 24 : Nat) : Int) = (D : Int) * 16777216 by omega] at hor
      generalize hT3 : T + D * 2 ^ 24 = T2 at *
      have HT3 := hide hT3
      have HT2 := hide hT2
      clear hT2 hT3
      go_wp2_with fail
      go_roundw
      case rel => exact ⟨3 + 1, T2, by first | rfl | rw [hor], by go_num, by omega, by have h1 := HT3.out; have h2 := HT2.out; simp; omega, HB.out⟩
      case measure => simp [intOf]
    · have hT2 := HT.out
      simp only [if_true, Nat.reduceLT] at hT2
      have HT2 := hide hT2
      clear hT2
      go_wp2_with fail
      go_ret
      exact ⟨by rw [HT2.out]; rfl, HB.out⟩
end Go.Proofs.Ytolaaodhnhdadaa
