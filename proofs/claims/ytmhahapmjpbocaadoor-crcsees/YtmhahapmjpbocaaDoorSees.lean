/-
  CrcSees of any bytes, place and change: 32 bits side by side that are turned change the sum.
-/
import Derived.Test.YtmhahapmjpbocaaDoorCalls
namespace Go.Proofs.YtmhahapmjpbocaaDoor
open Go.RowKit

theorem RowOf.cell {w : World} {g q : Nat} {bs : List (BitVec 8)} (h : RowOf w g bs) (hq : q < bs.length) : w.cell? ⟨g, q, none⟩ = some (.int .u8 ((bs.getD q 0).toNat : Int)) := by
  obtain ⟨cs, h1, h2⟩ := h
  rw [cell_of_row w g q cs 5 (0, 0) h1, h2 q hq]
theorem RowOf.frozen {w : World} {g q : Nat} {bs : List (BitVec 8)} (h : RowOf w g bs) : w.frozen? ⟨g, q, none⟩ = false := by
  obtain ⟨cs, h1, h2⟩ := h
  exact frozen_of_row w g q cs 5 h1
theorem RowOf.store {w : World} {g q : Nat} {bs : List (BitVec 8)} (h : RowOf w g bs) (hq : q < bs.length) (e : BitVec 8) :
    RowOf (w.setCell ⟨g, q, none⟩ (.int .u8 (((bs.getD q 0) ^^^ e).toNat : Int))) g (bs.modify q (fun b => b ^^^ e)) := by
  obtain ⟨cs, h1, h2⟩ := h
  refine ⟨_, heap_setCell_same w g q cs 5 _ h1, fun k hk => ?_⟩
  have hk' : k < bs.length := by simpa using hk
  have hq' : q < cs.size := by
    have := h2 q hq
    rcases Nat.lt_or_ge q cs.size with l | l
    · exact l
    · rw [Array.getElem?_eq_none l] at this; cases this
  rw [Array.getElem?_setIfInBounds]
  by_cases e : q = k
  · subst e
    rw [if_pos rfl, if_pos hq']
    simp [List.getD, hq]
  · rw [if_neg e, h2 k hk']
    simp [List.getD, hk', e]

theorem shl1_b (k : Nat) (h : k < 8) : (2 : Int) ^ k % (256 : Int) = ((1#8 <<< k).toNat : Int) := by
  have : ∀ k : Fin 8, (2 : Int) ^ k.val % (256 : Int) = ((1#8 <<< k.val).toNat : Int) := by decide +kernel
  exact this ⟨k, h⟩

set_option maxRecDepth 100000 in
set_option maxHeartbeats 1000000 in
theorem sees_any (v : Value) (bs : List (BitVec 8)) (at_ : Int) (d : BitVec 32) (w : World) (hw : Tab w) (h : Bytes w v bs) (hl : bs.length ≤ maxLen) (lo : -9223372036854775808 ≤ at_) (hi : at_ ≤ 9223372036854775807) :
    Calls Tryd.prog 6 #[v, .int .i64 at_, .int .u32 d.toNat] w fun e w' => e = .returned (.bool true) ∧ Below w.heap.size w w' := by
  have HW := hide hw
  have HV := hide h
  clear hw h
  have HL := hide hl
  obtain ⟨a, c, hv, _⟩ := HV.out
  subst hv
  by_cases hgt : (3000 : Int) < (bs.length : Int)
  · go_enter Tryd.func6, Tryd.ntmps6
    go_wp2_with fail
    refine (lives_any _ HW.out).mono ?_
    rintro e w1 ⟨rfl, b1⟩
    go_wp2_with fail
    go_ret
    exact ⟨rfl, b1⟩
  by_cases hlt : (bs.length : Int) < 5
  · go_enter Tryd.func6, Tryd.ntmps6
    go_wp2_with fail
    refine (lives_any _ HW.out).mono ?_
    rintro e w1 ⟨rfl, b1⟩
    go_wp2_with fail
    go_ret
    exact ⟨rfl, b1⟩
  by_cases hd : d = 0#32
  · subst hd
    go_enter Tryd.func6, Tryd.ntmps6
    go_wp2_with fail
    refine (lives_any _ HW.out).mono ?_
    rintro e w1 ⟨rfl, b1⟩
    go_wp2_with fail
    go_ret
    exact ⟨rfl, b1⟩
  have hd0 : ((d.toNat : Int) == 0) = false := by
    rw [beq_eq_false_iff_ne]
    intro e
    exact hd (BitVec.eq_of_toNat_eq (by simpa using e))
  have HD := hide hd
  clear hd
  go_enter Tryd.func6, Tryd.ntmps6
  go_wp2_with fail
  refine (lives_any _ HW.out).mono ?_
  rintro e w1 ⟨rfl, b1⟩
  have B1 := hide b1
  clear b1
  go_wp2_with fail
  refine (own_any _ bs _ (HV.out.below B1.out) (by omega)).mono ?_
  rintro e w2 ⟨g, c2, rfl, hg, r2, b2⟩
  have hgw : w.heap.size ≤ g := Nat.le_trans B1.out.size hg
  have B2 := hide (then_below B1.out b2 (Nat.le_refl _))
  have R2 := hide r2
  clear b2 r2 hg
  go_wp2_with fail
  have hpr := pick_range at_ (((bs.length : Int) - 4) * 8) (by omega)
  refine (pick_any at_ (((bs.length : Int) - 4) * 8) _ (by omega) (by omega) lo hi).mono ?_
  rintro e w3 ⟨rfl, hw⟩
  subst hw
  generalize pick at_ (((bs.length : Int) - 4) * 8) = pk at *
  obtain ⟨kk, rfl⟩ := Int.eq_ofNat_of_zero_le hpr.1
  obtain ⟨_, hkk⟩ := hpr
  generalize hn : bs.length = n at *
  have HN := hide hn
  clear hn
  go_wp2
  go_loopw [9] (fun i wr => ∃ (k : Nat) (xs : List (BitVec 8)), k ≤ 32 ∧ i = .int .i64 k ∧ xs.length = n ∧ Crc32.upd (~~~0#32) xs = Crc32.upd (~~~0#32) bs ^^^ Crc32.it Crc32.step (8 * n - kk) (Crc32.lows d k) ∧ RowOf wr g xs ∧ Below w.heap.size w wr) (fun i _ => 32 - (intOf i).toNat)
  case atStart => exact ⟨0, bs, by omega, rfl, HN.out, by rw [show Crc32.lows d 0 = 0#32 from rfl, (Crc32.step_lin.it _).zero, BitVec.xor_zero], R2.out, B2.out⟩
  case round =>
    obtain ⟨k, xs, hk, rfl, hxn, hup, hrow, hb⟩ := hrel
    have HXN := hide hxn
    have HUP := hide hup
    have HR := hide hrow
    have HB := hide hb
    clear hxn hup hrow hb
    by_cases hk32 : k < 32
    · have hbit := lsb_w d k
      have hnn : 0 ≤ (d.toNat : Int) / 2 ^ k := Int.ediv_nonneg (by omega) (Int.pow_nonneg (by omega))
      have HLin := hide ((Crc32.step_lin.it (8 * n - kk)).lows d k)
      cases hg : d.getLsbD k
      · rw [hg] at hbit
        have HG := hide hg
        clear hg
        go_wp2
        go_roundw
        case rel => exact ⟨k + 1, xs, by omega, by go_num, HXN.out, by rw [HLin.out, HG.out]; exact HUP.out, HR.out, HB.out⟩
        case measure => simp [intOf]; omega
      · rw [hg] at hbit
        have HG := hide hg
        clear hg
        have hq : (kk + k) / 8 < n := by omega
        have c1 := HR.out.cell (q := (kk + k) / 8) (by rw [HXN.out]; exact hq)
        have c2' := HR.out.frozen (q := (kk + k) / 8)
        go_wp2
        go_roundw
        case rel =>
          have hq' : (kk + k) / 8 < xs.length := by rw [HXN.out]; exact hq
          have hv : bits BinOp.xor IntKind.u8 ((xs[(kk + k) / 8]?.getD 0#8).toNat : Int) (2 ^ ((kk + k) % 8) % (256 : Int)) = ((xs.getD ((kk + k) / 8) 0 ^^^ 1#8 <<< ((kk + k) % 8)).toNat : Int) := by
            rw [shl1_b _ (Nat.mod_lt _ (by omega)), xor_b, List.getD_eq_getElem?_getD]
            rfl
          rw [hv]
          refine ⟨k + 1, Crc32.turn xs (kk + k), by omega, by go_num, ?_, ?_, HR.out.store hq' _, HB.out.setCell hgw _⟩
          · rw [Crc32.turn_length]; exact HXN.out
          · rw [Crc32.upd_turn _ xs kk k hk32 (by rw [HXN.out]; omega), HXN.out, HUP.out, HLin.out, HG.out, if_pos rfl, BitVec.xor_assoc]
        case measure => simp [intOf]; omega
    · obtain rfl : k = 32 := by omega
      have hsees := Crc32.sum_sees bs xs (8 * n - kk) d HD.out (by have := HUP.out; rwa [Crc32.lows_all] at this)
      have HS := hide hsees
      clear hsees
      go_wp2_with fail
      have hx := HR.out.bytes (c := c2)
      rw [HXN.out] at hx
      refine (sum_any _ xs _ hx (by rw [HXN.out]; exact HL.out)).mono ?_
      rintro e w4 ⟨rfl, b4⟩
      have B4 := hide (then_below HB.out b4 (Nat.le_refl _))
      clear b4 hx
      go_wp2_with fail
      refine (own_any _ bs _ (HV.out.below B4.out) (by rw [HN.out]; omega)).mono ?_
      rintro e w5 ⟨g5, c5, rfl, hg5, r5, b5⟩
      have B5 := hide (then_below B4.out b5 (Nat.le_refl _))
      have R5 := hide r5
      clear b5 r5 hg5
      go_wp2_with fail
      refine (sum_any _ bs _ R5.out.bytes (by rw [HN.out]; exact HL.out)).mono ?_
      rintro e w6 ⟨rfl, b6⟩
      have B6 := hide (then_below B5.out b6 (Nat.le_refl _))
      clear b6
      have hne : (((Crc32.sum xs).toNat : Int) != ((Crc32.sum bs).toNat : Int)) = true := by
        rw [bne_iff_ne]
        intro e
        exact HS.out (BitVec.eq_of_toNat_eq (by omega))
      generalize Crc32.sum xs = s1 at *
      generalize Crc32.sum bs = s2 at *
      go_wp2_with fail
      go_ret
      exact ⟨rfl, B6.out⟩
end Go.Proofs.YtmhahapmjpbocaaDoor
