/-
  A head goes down.
-/
import Derived.Test.YtjnpendihdlgnaaUp
namespace Go.Proofs.Ytjnpendihdlgnaa
open Go.RowKit
set_option maxRecDepth 100000
set_option maxHeartbeats 4000000
theorem swap_drop {L : List Hd} {i j m : Nat} (hi : i < m) (hj : j < m) (_ : m ≤ L.length) : (Hp.swapL L i j (hf L i) (hf L j)).drop m = L.drop m := Hp.swapL_drop L i j m _ _ hi hj
theorem down_any (S : Nat → Prop) (p o t g c n i0 m : Nat) (cs : Array Value) (L : List Hd) (w : World) (h : HB S w p o t cs (.slice (some ⟨g, 0, none⟩) n c) L) (hrow : HRow w g c L) (hn : n = L.length) (hgp : g ≠ p) (hsg : S g) (hi0 : i0 < n) (hm : m ≤ n) (hh : Hp.HeapDown ltH (hf L) m i0) :
    Calls Try.prog 68 #[.iface 82 (.pointer (some ⟨p, o, none⟩)), .int .i64 (i0 : Nat), .int .i64 (m : Nat)] w fun e w' => ∃ L', (∃ b, e = .returned (.bool b)) ∧ HB S w' p o t cs (.slice (some ⟨g, 0, none⟩) n c) L' ∧ HRow w' g c L' ∧ L'.Perm L ∧ L'.drop m = L.drop m ∧ Hp.Heap ltH (hf L') m ∧ Turns (fun k => k = g) w w' := by
  have HN := hide hn
  have H0 := hide h
  have HR0 := hide hrow
  have HH := hide hh
  have hlen : (n : Int) ≤ 1000000 := by have := h.len; omega
  have HM := hide hm
  have hmi : (m : Int) ≤ 1000000 := by omega
  clear h hrow hn hh hm
  go_enter Try.func68, Try.ntmps68
  go_wp2_with fail
  go_loopw [7] (fun v7 wr => ∃ (i : Nat) (L' : List Hd), v7 = .int .i64 (i : Nat) ∧ i < n ∧ HB S wr p o t cs (.slice (some ⟨g, 0, none⟩) n c) L' ∧ HRow wr g c L' ∧ L'.Perm L ∧ L'.drop m = L.drop m ∧ Hp.HeapDown ltH (hf L') m i ∧ Turns (fun k => k = g) w wr) (fun v7 _ => (1000000 - intOf v7).toNat)
  case atStart =>
    exact ⟨i0, L, rfl, hi0, H0.out, HR0.out, .refl _, rfl, HH.out, Turns.refl _ _⟩
  case round =>
    obtain ⟨i, L1, rfl, hi, hB, hR, hP, hD, hU, hT⟩ := hrel
    have B1 := hide hB
    have R1 := hide hR
    have P1 := hide hP
    have D1 := hide hD
    have U1 := hide hU
    have T1 := hide hT
    have hcell := hB.cell
    have hL := hide (show L1.length = n by rw [hP.length_eq]; exact HN.out.symm)
    clear hB hR hP hU hT hD
    have hm1 := method_less p o n c _ wr hcell
    have hi2 : (i : Int) < n := by omega
    by_cases h1 : (m : Int) ≤ 2 * i + 1
    · have X := hide (show Hp.Heap ltH (hf L1) m from Hp.down_done1 U1.out (by omega))
      go_wp2_with fail
      all_goals go_ret
      all_goals exact ⟨L1, ⟨_, rfl⟩, B1.out, R1.out, P1.out, D1.out, X.out, T1.out⟩
    · have hx1 := at_hf (L := L1) (k := 2 * i + 1) (by have := hL.out; have := HM.out; omega)
      by_cases h2 : (2 * (i : Int) + 1 + 1) < m
      · have hx2 := at_hf (L := L1) (k := 2 * i + 1 + 1) (by have := hL.out; have := HM.out; omega)
        go_wp2_with fail
        refine (less_any g c n (2 * i + 1 + 1) (2 * i + 1) L1 _ _ wr R1.out hL.out.symm hx2 hx1 (B1.out.each _ (List.mem_of_getElem? hx2)).1 (B1.out.each _ (List.mem_of_getElem? hx1)).1).mono ?_
        rintro e w1 ⟨rfl, hb⟩
        have t1 := Turns.of_below hb (fun _ => False)
        have hcellq := t1.cell hcell (fun x => x)
        have hmq := method_less p o n c _ w1 hcellq
        have Bq := hide (B1.out.quiet t1)
        have Rq := hide (R1.out.keep t1 (fun x => x))
        have Tq := hide (T1.out.trans (Turns.of_below hb _))
        clear hb t1
        by_cases hl : ltH (hf L1 (2 * i + 1 + 1)) (hf L1 (2 * i + 1))
        · simp only [hl, decide_true]
          have HC := hide (show ∀ k, 0 < k → k < m → (k - 1) / 2 = i → ¬ ltH (hf L1 k) (hf L1 (2 * i + 1 + 1)) from fun k h0 hk e => by
            rcases (show k = 2 * i + 1 ∨ k = 2 * i + 1 + 1 by omega) with rfl | rfl
            · exact ltH_asym _ _ hl
            · exact ltH_irr _)
          clear hl
          go_wp2_with fail
          have hxJ := at_hf (L := L1) (k := 2 * i + 1 + 1) (by have := hL.out; have := HM.out; omega)
          have hyI := at_hf (L := L1) (k := i) (by have := hL.out; have := HM.out; omega)
          refine (less_any g c n (2 * i + 1 + 1) i L1 _ _ _ Rq.out hL.out.symm hxJ hyI (Bq.out.each _ (List.mem_of_getElem? hxJ)).1 (Bq.out.each _ (List.mem_of_getElem? hyI)).1).mono ?_
          rintro e w2 ⟨rfl, hb⟩
          have t1 := Turns.of_below hb (fun _ => False)
          have hcell2 := t1.cell hcellq (fun x => x)
          have hm3 := method_swap p o n c _ w2 hcell2
          have B2 := hide (Bq.out.quiet t1)
          have R2 := hide (Rq.out.keep t1 (fun x => x))
          have T2 := hide (Tq.out.trans (Turns.of_below hb _))
          clear hb t1
          by_cases hl : ltH (hf L1 (2 * i + 1 + 1)) (hf L1 i)
          · simp only [hl, decide_true]
            have HL := hide hl
            clear hl
            go_wp2_with fail
            refine (swap_any g c n i (2 * i + 1 + 1) L1 _ _ w2 R2.out hL.out.symm hyI hxJ).mono ?_
            rintro e w3 ⟨⟨v, rfl⟩, hR3, hT3⟩
            have hP3 := Hp.swapL_perm L1 i (2 * i + 1 + 1) _ _ hyI hxJ
            have B3 := hide (HB.turn (by rw [hL.out]; exact B2.out) hT3 hR3 hP3 hgp hsg)
            have R3 := hide hR3
            have P3 := hide (hP3.trans P1.out)
            have D3 := hide ((swap_drop (L := L1) (i := i) (j := 2 * i + 1 + 1) (m := m) (by omega) (by omega) (by rw [hL.out]; exact HM.out)).trans D1.out)
            have T3 := hide (T2.out.trans hT3)
            have U3 := hide (show Hp.HeapDown ltH (hf (Hp.swapL L1 i (2 * i + 1 + 1) (hf L1 i) (hf L1 (2 * i + 1 + 1)))) m (2 * i + 1 + 1) by
              rw [hf_swap L1 _ _ (by have := hL.out; have := HM.out; omega) (by have := hL.out; have := HM.out; omega)]
              exact Hp.down_step ltH_asym U1.out (by omega) (by omega) (by omega) HC.out HL.out)
            clear hR3 hT3 hP3
            go_wp2_with fail
            go_roundw
            case rel => exact ⟨2 * i + 1 + 1, _, rfl, by have := HM.out; omega, by have := B3.out; rw [hL.out] at this; exact this, R3.out, P3.out, D3.out, U3.out, T3.out⟩
            case measure => simp [intOf]; omega
          · simp only [hl, decide_false]
            have HL := hide hl
            clear hl
            go_wp2_with fail
            go_ret
            exact ⟨L1, ⟨_, rfl⟩, B2.out, R2.out, P1.out, D1.out, Hp.down_done2 ltH_tr U1.out HC.out HL.out, T2.out⟩
        · simp only [hl, decide_false]
          have HC := hide (show ∀ k, 0 < k → k < m → (k - 1) / 2 = i → ¬ ltH (hf L1 k) (hf L1 (2 * i + 1)) from fun k h0 hk e => by
            rcases (show k = 2 * i + 1 ∨ k = 2 * i + 1 + 1 by omega) with rfl | rfl
            · exact ltH_irr _
            · exact hl)
          clear hl
          go_wp2_with fail
          have hxJ := at_hf (L := L1) (k := 2 * i + 1) (by have := hL.out; have := HM.out; omega)
          have hyI := at_hf (L := L1) (k := i) (by have := hL.out; have := HM.out; omega)
          refine (less_any g c n (2 * i + 1) i L1 _ _ _ Rq.out hL.out.symm hxJ hyI (Bq.out.each _ (List.mem_of_getElem? hxJ)).1 (Bq.out.each _ (List.mem_of_getElem? hyI)).1).mono ?_
          rintro e w2 ⟨rfl, hb⟩
          have t1 := Turns.of_below hb (fun _ => False)
          have hcell2 := t1.cell hcellq (fun x => x)
          have hm3 := method_swap p o n c _ w2 hcell2
          have B2 := hide (Bq.out.quiet t1)
          have R2 := hide (Rq.out.keep t1 (fun x => x))
          have T2 := hide (Tq.out.trans (Turns.of_below hb _))
          clear hb t1
          by_cases hl : ltH (hf L1 (2 * i + 1)) (hf L1 i)
          · simp only [hl, decide_true]
            have HL := hide hl
            clear hl
            go_wp2_with fail
            refine (swap_any g c n i (2 * i + 1) L1 _ _ w2 R2.out hL.out.symm hyI hxJ).mono ?_
            rintro e w3 ⟨⟨v, rfl⟩, hR3, hT3⟩
            have hP3 := Hp.swapL_perm L1 i (2 * i + 1) _ _ hyI hxJ
            have B3 := hide (HB.turn (by rw [hL.out]; exact B2.out) hT3 hR3 hP3 hgp hsg)
            have R3 := hide hR3
            have P3 := hide (hP3.trans P1.out)
            have D3 := hide ((swap_drop (L := L1) (i := i) (j := 2 * i + 1) (m := m) (by omega) (by omega) (by rw [hL.out]; exact HM.out)).trans D1.out)
            have T3 := hide (T2.out.trans hT3)
            have U3 := hide (show Hp.HeapDown ltH (hf (Hp.swapL L1 i (2 * i + 1) (hf L1 i) (hf L1 (2 * i + 1)))) m (2 * i + 1) by
              rw [hf_swap L1 _ _ (by have := hL.out; have := HM.out; omega) (by have := hL.out; have := HM.out; omega)]
              exact Hp.down_step ltH_asym U1.out (by omega) (by omega) (by omega) HC.out HL.out)
            clear hR3 hT3 hP3
            go_wp2_with fail
            go_roundw
            case rel => exact ⟨2 * i + 1, _, rfl, by have := HM.out; omega, by have := B3.out; rw [hL.out] at this; exact this, R3.out, P3.out, D3.out, U3.out, T3.out⟩
            case measure => simp [intOf]; omega
          · simp only [hl, decide_false]
            have HL := hide hl
            clear hl
            go_wp2_with fail
            go_ret
            exact ⟨L1, ⟨_, rfl⟩, B2.out, R2.out, P1.out, D1.out, Hp.down_done2 ltH_tr U1.out HC.out HL.out, T2.out⟩
      · have HC := hide (show ∀ k, 0 < k → k < m → (k - 1) / 2 = i → ¬ ltH (hf L1 k) (hf L1 (2 * i + 1)) from fun k h0 hk e => by
          obtain rfl : k = 2 * i + 1 := by omega
          exact ltH_irr _)
        have hcellq := hcell
        have Bq := B1
        have Rq := R1
        have Tq := T1
        go_wp2_with fail
        have hxJ := at_hf (L := L1) (k := 2 * i + 1) (by have := hL.out; have := HM.out; omega)
        have hyI := at_hf (L := L1) (k := i) (by have := hL.out; have := HM.out; omega)
        refine (less_any g c n (2 * i + 1) i L1 _ _ _ Rq.out hL.out.symm hxJ hyI (Bq.out.each _ (List.mem_of_getElem? hxJ)).1 (Bq.out.each _ (List.mem_of_getElem? hyI)).1).mono ?_
        rintro e w2 ⟨rfl, hb⟩
        have t1 := Turns.of_below hb (fun _ => False)
        have hcell2 := t1.cell hcellq (fun x => x)
        have hm3 := method_swap p o n c _ w2 hcell2
        have B2 := hide (Bq.out.quiet t1)
        have R2 := hide (Rq.out.keep t1 (fun x => x))
        have T2 := hide (Tq.out.trans (Turns.of_below hb _))
        clear hb t1
        by_cases hl : ltH (hf L1 (2 * i + 1)) (hf L1 i)
        · simp only [hl, decide_true]
          have HL := hide hl
          clear hl
          go_wp2_with fail
          refine (swap_any g c n i (2 * i + 1) L1 _ _ w2 R2.out hL.out.symm hyI hxJ).mono ?_
          rintro e w3 ⟨⟨v, rfl⟩, hR3, hT3⟩
          have hP3 := Hp.swapL_perm L1 i (2 * i + 1) _ _ hyI hxJ
          have B3 := hide (HB.turn (by rw [hL.out]; exact B2.out) hT3 hR3 hP3 hgp hsg)
          have R3 := hide hR3
          have P3 := hide (hP3.trans P1.out)
          have D3 := hide ((swap_drop (L := L1) (i := i) (j := 2 * i + 1) (m := m) (by omega) (by omega) (by rw [hL.out]; exact HM.out)).trans D1.out)
          have T3 := hide (T2.out.trans hT3)
          have U3 := hide (show Hp.HeapDown ltH (hf (Hp.swapL L1 i (2 * i + 1) (hf L1 i) (hf L1 (2 * i + 1)))) m (2 * i + 1) by
            rw [hf_swap L1 _ _ (by have := hL.out; have := HM.out; omega) (by have := hL.out; have := HM.out; omega)]
            exact Hp.down_step ltH_asym U1.out (by omega) (by omega) (by omega) HC.out HL.out)
          clear hR3 hT3 hP3
          go_wp2_with fail
          go_roundw
          case rel => exact ⟨2 * i + 1, _, rfl, by have := HM.out; omega, by have := B3.out; rw [hL.out] at this; exact this, R3.out, P3.out, D3.out, U3.out, T3.out⟩
          case measure => simp [intOf]; omega
        · simp only [hl, decide_false]
          have HL := hide hl
          clear hl
          go_wp2_with fail
          go_ret
          exact ⟨L1, ⟨_, rfl⟩, B2.out, R2.out, P1.out, D1.out, Hp.down_done2 ltH_tr U1.out HC.out HL.out, T2.out⟩
end Go.Proofs.Ytjnpendihdlgnaa
