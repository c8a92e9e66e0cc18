/-
  A head goes up.
-/
import Derived.Test.YtjnpendihdlgnaaMt
namespace Go.Proofs.Ytjnpendihdlgnaa
open Go.RowKit
set_option maxRecDepth 100000
set_option maxHeartbeats 4000000
theorem up_any (S : Nat → Prop) (p o t g c n j : Nat) (cs : Array Value) (L : List Hd) (w : World) (h : HB S w p o t cs (.slice (some ⟨g, 0, none⟩) n c) L) (hrow : HRow w g c L) (hn : n = L.length) (hgp : g ≠ p) (hsg : S g) (hj : j < n) (hh : Hp.HeapUp ltH (hf L) n j) :
    Calls Try.prog 65 #[.iface 82 (.pointer (some ⟨p, o, none⟩)), .int .i64 (j : Nat)] w fun e w' => ∃ L', (∃ v, e = .returned v) ∧ HB S w' p o t cs (.slice (some ⟨g, 0, none⟩) n c) L' ∧ HRow w' g c L' ∧ L'.Perm L ∧ Hp.Heap ltH (hf L') n ∧ Turns (fun k => k = g) w w' := by
  have HN := hide hn
  have H0 := hide h
  have HR0 := hide hrow
  have HH := hide hh
  have hlen : (n : Int) ≤ 1000000 := by have := h.len; omega
  clear h hrow hn hh
  go_enter Try.func65, Try.ntmps65
  go_wp2_with fail
  go_loopw [1] (fun v1 wr => ∃ (j : Nat) (L' : List Hd), v1 = .int .i64 (j : Nat) ∧ j < n ∧ HB S wr p o t cs (.slice (some ⟨g, 0, none⟩) n c) L' ∧ HRow wr g c L' ∧ L'.Perm L ∧ Hp.HeapUp ltH (hf L') n j ∧ Turns (fun k => k = g) w wr) (fun v1 _ => (intOf v1).toNat)
  case atStart =>
    exact ⟨j, L, rfl, hj, H0.out, HR0.out, .refl _, HH.out, Turns.refl _ _⟩
  case round =>
    obtain ⟨i, L1, rfl, hi, hB, hR, hP, hU, hT⟩ := hrel
    have B1 := hide hB
    have R1 := hide hR
    have P1 := hide hP
    have U1 := hide hU
    have T1 := hide hT
    have hcell := hB.cell
    clear hB hR hP hU hT
    rcases i with _ | i
    · go_wp2_with fail
      go_end0
      exact ⟨L1, ⟨_, rfl⟩, B1.out, R1.out, P1.out, Hp.up_done U1.out (.inl rfl), T1.out⟩
    · have hm1 := method_less p o n c _ wr hcell
      have hlt : ¬ ((i : Int) / 2 = i + 1) := by omega
      go_wp2_with fail
      have hL : L1.length = n := by rw [P1.out.length_eq]; exact HN.out.symm
      have hx := at_hf (L := L1) (k := i + 1) (by omega)
      have hy := at_hf (L := L1) (k := i / 2) (by omega)
      refine (less_any g c n (i + 1) (i / 2) L1 _ _ wr R1.out hL.symm hx hy (B1.out.each _ (List.mem_of_getElem? hx)).1 (B1.out.each _ (List.mem_of_getElem? hy)).1).mono ?_
      rintro e w1 ⟨rfl, hb⟩
      have t1 := Turns.of_below hb (fun _ => False)
      have hcell1 := t1.cell hcell (fun x => x)
      have hm2 := method_swap p o n c _ w1 hcell1
      have B2 := hide (B1.out.quiet t1)
      have R2 := hide (R1.out.keep t1 (fun x => x))
      have T2 := hide (T1.out.trans (Turns.of_below hb _))
      clear hb t1
      by_cases hl : ltH (hf L1 (i + 1)) (hf L1 (i / 2))
      · simp only [hl, decide_true]
        have HL := hide hl
        clear hl
        go_wp2_with fail
        refine (swap_any g c n (i / 2) (i + 1) L1 _ _ w1 R2.out hL.symm hy hx).mono ?_
        rintro e w2 ⟨⟨v, rfl⟩, hR3, hT3⟩
        have hP3 := Hp.swapL_perm L1 (i / 2) (i + 1) _ _ hy hx
        have B3 := hide (HB.turn (by rw [hL]; exact B2.out) hT3 hR3 hP3 hgp hsg)
        have R3 := hide hR3
        have P3 := hide (hP3.trans P1.out)
        have T3 := hide (T2.out.trans hT3)
        have U3 := hide (show Hp.HeapUp ltH (hf (Hp.swapL L1 (i / 2) (i + 1) (hf L1 (i / 2)) (hf L1 (i + 1)))) n (i / 2) by
          rw [hf_swap L1 _ _ (by omega) (by omega)]
          have := Hp.up_step ltH_asym ltH_tr U1.out (by omega) hi (by rw [show (i + 1 - 1) / 2 = i / 2 by omega]; exact HL.out)
          rw [show (i + 1 - 1) / 2 = i / 2 by omega] at this
          exact this)
        clear hR3 hT3 hP3
        go_wp2_with fail
        go_roundw
        case rel => exact ⟨i / 2, _, rfl, by omega, by have := B3.out; rw [hL] at this; exact this, R3.out, P3.out, U3.out, T3.out⟩
        case measure => simp [intOf]; omega
      · simp only [hl, decide_false]
        have HL := hide hl
        clear hl
        go_wp2_with fail
        go_end0
        exact ⟨L1, ⟨_, rfl⟩, B2.out, R2.out, P1.out, Hp.up_done U1.out (.inr (by rw [show (i + 1 - 1) / 2 = i / 2 by omega]; exact HL.out)), T2.out⟩
end Go.Proofs.Ytjnpendihdlgnaa
