/-
  How many bytes the whole edit has: a bound.
-/
import Derived.Test.YtkmcdjbadngfgaaVg
namespace Go.Proofs.Ytkmcdjbadngfgaa
open Go.RowKit Go.Maps
set_option maxRecDepth 100000
set_option maxHeartbeats 4000000
def verAgg (a : Option Addr) (n c next seq log : Nat) : Value := .agg #[.slice a n c, .int .u64 (next : Nat), .int .u64 (seq : Nat), .int .u64 (log : Nat)]
theorem conv_nat (k : Nat) (h : k < 18446744073709551616) (w : World) : (convert 3 23 (.int .i64 (k : Nat))).run Try.prog w = .ok (.int .u64 (k : Nat)) w := by
  have e : IntKind.u64.wrap (k : Int) = k := by simp [IntKind.wrap, IntKind.bits, IntKind.signed]; omega
  have : (convert 3 23 (.int .i64 (k : Nat))).run Try.prog w = .ok (.int .u64 (IntKind.u64.wrap (k : Nat))) w := by kernel_rfl
  rw [this, e]
theorem wholeSize_any (a : Option Addr) (n c next seq log : Nat) (L : List Lv) (w : World) (h : Levs w a L) (hn : n = L.length) (hmx : n ≤ 1000) (hc : cnt L ≤ 10000) (hf : Fit L) (hw : ∀ x ∈ L, ∀ y ∈ x.l, wrongF y.f = false)
    (h1 : next < 18446744073709551616) (h2 : seq < 18446744073709551616) (h3 : log < 18446744073709551616) (hby : byts L ≤ 100000000) :
    Calls Try.prog 74 #[verAgg a n c next seq log] w fun e w' => ∃ t : Nat, e = .returned (.int .i64 (t : Nat)) ∧ t ≤ 50 + 70 * cnt L + byts L ∧ Turns (fun _ => False) w w' := by
  have H := hide h
  have HL := hide hn
  have HC := hide hc
  have HF := hide hf
  have HWR := hide hw
  have HBY := hide hby
  have hni : (n : Int) ≤ 1000 := by omega
  have TA := hide ((Turns.refl (fun _ => False) w).alloc (.cells #[.slice a n c, .int .u64 (next : Nat), .int .u64 (seq : Nat), .int .u64 (log : Nat)] 25))
  have CN := hide (count_any a n c L _ (h.quiet TA.out) hn hmx (by omega))
  have R0 := hide (heap_alloc_new w (.cells #[.slice a n c, .int .u64 (next : Nat), .int .u64 (seq : Nat), .int .u64 (log : Nat)] 25))
  unfold verAgg
  have hci : (cnt L : Int) ≤ 10000 := by omega
  clear h hn hc hf hw hby
  go_enter Try.func74, Try.ntmps74
  go_wp2_with fail
  refine CN.out.mono ?_
  rintro e w1 ⟨rfl, t1⟩
  have r1 := t1.heap R0.out (fun x => x)
  have c0 := cell_of_row w1 w.heap.size 0 _ 25 (0, 0) r1
  have c1 := cell_of_row w1 w.heap.size 1 _ 25 (0, 0) r1
  have c2 := cell_of_row w1 w.heap.size 2 _ 25 (0, 0) r1
  have c3 := cell_of_row w1 w.heap.size 3 _ 25 (0, 0) r1
  have T1 := hide (TA.out.trans t1)
  generalize hT : cnt L = T at *
  have HT := hide hT
  have hTN : T ≤ 10000 := HC.out
  have HN := hide (numbersSize_any (some ⟨w1.heap.size, 0, none⟩) 5 5 [next, seq, log, 0, T] (w1.alloc (.cells #[.int .u64 (next : Nat), .int .u64 (seq : Nat), .int .u64 (log : Nat), .int .u64 0, .int .u64 (T : Nat)] 23)) (nums_of_block (heap_alloc_new w1 _) (by simp; omega)) rfl (by omega))
  have T2 := hide ((Turns.refl (fun _ => False) w1).alloc (.cells #[.int .u64 (next : Nat), .int .u64 (seq : Nat), .int .u64 (log : Nat), .int .u64 0, .int .u64 (T : Nat)] 23))
  have d0 := T2.out.cell c0 (fun x => x)
  have C0 := hide c0
  clear hT t1 CN r1
  go_wp2_with fail
  refine HN.out.mono ?_
  rintro e w2 ⟨t0, rfl, ht0, rfl⟩
  clear c0 c1 c2 c3 HN
  generalize hw2 : w1.alloc (.cells #[.int .u64 (next : Nat), .int .u64 (seq : Nat), .int .u64 (log : Nat), .int .u64 0, .int .u64 (T : Nat)] 23) = w2 at *
  have TW := hide (T1.out.trans T2.out)
  clear hw2 T2 T1
  go_wp2_with fail
  go_loopw [5, 29] (fun s i wr => ∃ k t : Nat, i = .int .i64 (k : Nat) ∧ s = .int .i64 (t : Nat) ∧ k ≤ n ∧ t ≤ 50 + 70 * cnt (L.take k) + byts (L.take k) ∧ Turns (fun _ => False) w wr) (fun _ i _ => n - (intOf i).toNat)
  case atStart => exact ⟨0, t0, rfl, rfl, Nat.zero_le _, by simp [cnt, byts]; omega, TW.out⟩
  case round =>
    obtain ⟨k, t, rfl, rfl, hk, ht, hb⟩ := hrel
    have HB := hide hb
    have HTT := hide ht
    clear hb ht
    by_cases hkn : k < n
    · obtain ⟨x, hx⟩ : ∃ x, L[k]? = some x := ⟨_, List.getElem?_eq_getElem (by have := HL.out; omega)⟩
      obtain ⟨⟨b, off, rfl, hcl⟩, hfb⟩ := (H.out.quiet HB.out) k x hx
      have i1 : (k : Int) < (n : Int) := by omega
      have i0 : (0 : Int) ≤ (k : Int) := by omega
      have HCT := hide (cnt_take hx)
      have HBT := hide (byts_take hx)
      have q1 := cnt_take_le L (k + 1)
      have q2 := byts_take_le L (k + 1)
      have q3 := HCT.out
      have q4 := HBT.out
      have q5 := HBY.out
      have q6 := HT.out
      have HFX := hide (HF.out x (List.mem_of_getElem? hx))
      have HWX := hide (HWR.out x (List.mem_of_getElem? hx))
      have HFI := hide (H.out k x hx).2
      have HLE := hide (show cnt (L.take k) + x.l.length ≤ 10000 ∧ byts (L.take k) + (x.l.map keyB).sum ≤ 100000000 by omega)
      obtain ⟨xa, xc, xl⟩ := x
      simp only at *
      clear hfb hx q1 q2 q3 q4 q5 q6
      generalize hXL : xl.length = XL at *
      have HXL := hide hXL
      have hxi : (XL : Int) ≤ 10000 := by have := HLE.out; omega
      clear hXL
      go_wp2_with fail
      go_loopw [5, 36] (fun s i wq => ∃ q t : Nat, i = .int .i64 (q : Nat) ∧ s = .int .i64 (t : Nat) ∧ q ≤ XL ∧ t ≤ 50 + 70 * (cnt (L.take k) + q) + (byts (L.take k) + ((xl.take q).map keyB).sum) ∧ Turns (fun _ => False) w wq) (fun _ i _ => XL - (intOf i).toNat)
      case atStart => exact ⟨0, t, rfl, rfl, Nat.zero_le _, by have := HTT.out; simp; omega, HB.out⟩
      case round =>
        clear HTT
        obtain ⟨q, tq, rfl, rfl, hq, ht, hb⟩ := hrel
        have HB2 := hide hb
        have HTT := hide ht
        clear hb ht
        by_cases hqn : q < XL
        · obtain ⟨y, hy⟩ : ∃ y, xl[q]? = some y := ⟨_, List.getElem?_eq_getElem (by have := HXL.out; omega)⟩
          obtain ⟨b', off', rfl, h6, hfb⟩ := fc_of (HFI.out.quiet HB2.out) hy
          have j1 : (q : Int) < (XL : Int) := by omega
          have j0 : (0 : Int) ≤ (q : Int) := by omega
          have hno := HFX.out y (List.mem_of_getElem? hy)
          obtain ⟨v1, v2, v3, v4, v5, v6, v7, v8, v9, v10, v11⟩ := wrongF_false (HWX.out y (List.mem_of_getElem? hy))
          have HKT := hide (keyB_take hy)
          have hkl := keyB_take_le xl (q + 1)
          have hle := HLE.out
          have htt := HTT.out
          have hkt := HKT.out
          have htl : (tq : Int) ≤ 200000000 := by omega
          have CO := hide (fun (u : World) => numbersOf_any k y u (by omega) hno v3 v4 (by omega) v6 (by omega))
          unfold keyB at hkt
          have HKK := hide (show ((xl.take (q + 1)).map keyB).sum = ((xl.take q).map keyB).sum + (y.f.least.length + y.f.most.length) from HKT.out)
          clear hkl hle htt hkt HKT
          obtain ⟨la, lc, ma, mc, ⟨no, sz, ls, ms, en, sq⟩⟩ := y
          obtain ⟨y0, y1, y2, y3, y4, y5⟩ := h6
          unfold addAgg at CO
          simp only at *
          generalize hL1 : ls.length = L1 at *
          generalize hL2 : ms.length = L2 at *
          have v8i : (L1 : Int) ≤ 4096 := by omega
          have v10i : (L2 : Int) ≤ 4096 := by omega
          clear hfb hy hno v1 v2 v3 v4 v5 v6 v7 v9 v11 hL1 hL2
          have TF := hide ((Turns.refl (fun _ => False) wr).alloc (.cells #[.int .u64 (no : Nat), .int .i64 sz, .slice la L1 lc, .slice ma L2 mc, .int .i64 en, .int .u64 (sq : Nat)] 29))
          have RF := hide (heap_alloc_new wr (.cells #[.int .u64 (no : Nat), .int .i64 sz, .slice la L1 lc, .slice ma L2 mc, .int .i64 en, .int .u64 (sq : Nat)] 29))
          go_wp2_with fail
          refine (CO.out _).mono ?_
          rintro e w3 ⟨g, rfl, hnm, t3⟩
          have T3 := hide (TF.out.trans t3)
          have r3 := t3.heap RF.out (fun x => x)
          have HN3 := hide (numbersSize_any (some ⟨g, 0, none⟩) 5 5 _ w3 hnm rfl (by omega))
          clear hnm t3 CO y0 y1 y2 y3 y4 y5
          go_wp2_with fail
          refine HN3.out.mono ?_
          rintro e w4 ⟨s1, rfl, hs1, rfl⟩
          have e2 : w4.cell? ⟨wr.heap.size, 2, none⟩ = some (.slice la L1 lc) := cell_of_row w4 wr.heap.size 2 _ 29 (0, 0) r3
          have e3 : w4.cell? ⟨wr.heap.size, 3, none⟩ = some (.slice ma L2 mc) := cell_of_row w4 wr.heap.size 3 _ 29 (0, 0) r3
          clear r3 HN3 RF
          generalize wr.heap.size = G at *
          go_wp2_with fail
          have HN4 := hide (numbersSize_any (some ⟨w4.heap.size, 0, none⟩) 2 2 [L1, L2] (w4.drew.alloc (.cells #[.int .u64 (L1 : Nat), .int .u64 (L2 : Nat)] 23)) (nums_of_block (heap_alloc_new w4.drew _) (by simp; omega)) rfl (by omega))
          have t4 := ((Turns.refl (fun _ => False) w4).drew.alloc (.cells #[.int .u64 (L1 : Nat), .int .u64 (L2 : Nat)] 23))
          have k2 := t4.cell e2 (fun x => x)
          have k3 := t4.cell e3 (fun x => x)
          have T4 := hide t4
          clear t4
          have cv1 := conv_nat L1 (by omega)
          have cv2 := conv_nat L2 (by omega)
          have t5 := ((Turns.refl (fun _ => False) w4).alloc (.cells #[.int .u64 (L1 : Nat), .int .u64 (L2 : Nat)] 23))
          have k4 := t5.cell e2 (fun x => x)
          have k5 := t5.cell e3 (fun x => x)
          clear t5
          go_region_held (fun w' => w'.cell? ⟨G, 2, none⟩ = some (.slice la L1 lc) ∧ w'.cell? ⟨G, 3, none⟩ = some (.slice ma L2 mc)) (first | (with_reducible exact ⟨k2, k3⟩) | (simp only [World.cell?_drew]; with_reducible exact ⟨k4, k5⟩) | (simp only [World.cell?_drew]; with_reducible exact ⟨e2, e3⟩)) (first
            | (go_at_call 85; refine HN4.out.mono ?_; rintro e w5 ⟨s2, rfl, hs2, rfl⟩))
          have hs2i : (s2 : Int) ≤ 20 := by omega
          have hs1i : (s1 : Int) ≤ 50 := by omega
          go_wp2_with fail
          go_roundw
          case rel => exact ⟨q + 1, tq + s1 + (s2 + L1 + L2), by go_num, by rw [wrapI ((s2 : Int) + L1) (by omega) (by omega), wrapI ((s2 : Int) + L1 + L2) (by omega) (by omega), wrapI ((tq : Int) + s1 + (s2 + L1 + L2)) (by omega) (by omega)]; simp, by omega, by have := HTT.out; have := HKK.out; omega, HB2.out.trans (T3.out.trans T4.out)⟩
          case measure => simp [intOf]; omega
        · obtain rfl : q = XL := by omega
          have ht : xl.take q = xl := List.take_of_length_le (by have := HXL.out; omega)
          rw [ht] at HTT
          go_wp2_with fail
          go_roundw
          case rel => exact ⟨k + 1, tq, by go_num, rfl, by omega, by have := HTT.out; rw [HCT.out, HBT.out]; omega, HB2.out⟩
          case measure => simp [intOf]; omega
    · obtain rfl : k = n := by omega
      have ht : L.take k = L := List.take_of_length_le (by have := HL.out; omega)
      rw [ht] at HTT
      go_wp2_with fail
      go_ret
      exact ⟨t, rfl, by have := HTT.out; have := HT.out; omega, HB.out⟩
end Go.Proofs.Ytkmcdjbadngfgaa
