import Derived.Test.YtmmcikbedegigaaM07
/-
  How many bytes the whole edit has: a bound.
-/
namespace Go.Proofs.Ytmmcikbedegigaa
open Go.RowKit Go.Maps
set_option maxRecDepth 100000
set_option maxHeartbeats 4000000
def verAgg (a : Option Addr) (n c next seq log : Nat) : Value := .agg #[.slice a n c, .int .u64 (next : Nat), .int .u64 (seq : Nat), .int .u64 (log : Nat)]
theorem conv_nat (k : Nat) (h : k < 18446744073709551616) (w : World) : (convert 3 23 (.int .i64 (k : Nat))).run Try.prog w = .ok (.int .u64 (k : Nat)) w := by
  have e : IntKind.u64.wrap (k : Int) = k := by simp [IntKind.wrap, IntKind.bits, IntKind.signed]; omega
  have : (convert 3 23 (.int .i64 (k : Nat))).run Try.prog w = .ok (.int .u64 (IntKind.u64.wrap (k : Nat))) w := by kernel_rfl
  rw [this, e]
theorem wholeSize_any (a : Option Addr) (n c next seq log : Nat) (L : List Lv) (w : World) (h : Levs w a L) (hn : n = L.length) (hmx : n ≤ 1000) (hc : cnt L ≤ 10000) (hf : Fit L) (hw : ∀ x ∈ L, ∀ y ∈ x.l, wrongF y.f = false)
    (h1 : next < 18446744073709551616) (h2 : seq < 18446744073709551616) (h3 : log < 18446744073709551616) (hby : byts L ≤ 100000000) :
    Calls Try.prog 61 #[verAgg a n c next seq log] w fun e w' => ∃ t : Nat, e = .returned (.int .i64 (t : Nat)) ∧ t ≤ 50 + 70 * cnt L + byts L ∧ Turns (fun _ => False) w w' := by
  have H := hide h
  have HL := hide hn
  have HC := hide hc
  have HF := hide hf
  have HWR := hide hw
  have HBY := hide hby
  have hni : (n : Int) ≤ 1000 := by omega
  have TA := hide ((Turns.refl (fun _ => False) w).alloc (.cells #[.slice a n c, .int .u64 (next : Nat), .int .u64 (seq : Nat), .int .u64 (log : Nat)] 25))
  have CN := hide (count_any a n c L _ (h.quiet TA.out) hn hmx (by omega))
  have R0 := hide (heap_alloc_new w (.cells #[.slice a n c, .int .u64 (next : Nat), .int .u64 (seq : Nat), .int .u64 (log : Nat)] 25))
  unfold verAgg
  have hci : (cnt L : Int) ≤ 10000 := by omega
  clear h hn hc hf hw hby
  go_enter Try.func61, Try.ntmps61
  go_wp2_with fail
  refine CN.out.mono ?_
  rintro e w1 ⟨rfl, t1⟩
  have r1 := t1.heap R0.out (fun x => x)
  have c0 := cell_of_row w1 w.heap.size 0 _ 25 (0, 0) r1
  have c1 := cell_of_row w1 w.heap.size 1 _ 25 (0, 0) r1
  have c2 := cell_of_row w1 w.heap.size 2 _ 25 (0, 0) r1
  have c3 := cell_of_row w1 w.heap.size 3 _ 25 (0, 0) r1
  have T1 := hide (TA.out.trans t1)
  generalize hT : cnt L = T at *
  have HT := hide hT
  have hTN : T ≤ 10000 := HC.out
  have HN := hide (numbersSize_any (some ⟨w1.heap.size, 0, none⟩) 5 5 [next, seq, log, 0, T] (w1.alloc (.cells #[.int .u64 (next : Nat), .int .u64 (seq : Nat), .int .u64 (log : Nat), .int .u64 0, .int .u64 (T : Nat)] 23)) (nums_of_block (heap_alloc_new w1 _) (by simp; omega)) rfl (by omega))
  have T2 := hide ((Turns.refl (fun _ => False) w1).alloc (.cells #[.int .u64 (next : Nat), .int .u64 (seq : Nat), .int .u64 (log : Nat), .int .u64 0, .int .u64 (T : Nat)] 23))
  have d0 := T2.out.cell c0 (fun x => x)
  have C0 := hide c0
  clear hT t1 CN r1
  go_wp2_with fail
  refine HN.out.mono ?_
  rintro e w2 ⟨t0, rfl, ht0, rfl⟩
  clear c0 c1 c2 c3 HN
  generalize hw2 : w1.alloc (.cells #[.int .u64 (next : Nat), .int .u64 (seq : Nat), .int .u64 (log : Nat), .int .u64 0, .int .u64 (T : Nat)] 23) = w2 at *
  have TW := hide (T1.out.trans T2.out)
  clear hw2 T2 T1
  go_wp2_with fail
  go_loopw [5, 29] (fun s i wr => ∃ k t : Nat, i = .int .i64 (k : Nat) ∧ s = .int .i64 (t : Nat) ∧ k ≤ n ∧ t ≤ 50 + 70 * cnt (L.take k) + byts (L.take k) ∧ Turns (fun _ => False) w wr) (fun _ i _ => n - (intOf i).toNat)
  case atStart => exact ⟨0, t0, rfl, rfl, Nat.zero_le _, by simp [cnt, byts]; omega, TW.out⟩
  case round =>
    obtain ⟨k, t, rfl, rfl, hk, ht, hb⟩ := hrel
    have HB := hide hb
    have HTT := hide ht
    clear hb ht
    by_cases hkn : k < n
    · obtain ⟨x, hx⟩ : ∃ x, L[k]? = some x := ⟨_, List.getElem?_eq_getElem (by have := HL.out; omega)⟩
      obtain ⟨⟨b, off, rfl, hcl⟩, hfb⟩ := (H.out.quiet HB.out) k x hx
      have i1 : (k : Int) < (n : Int) := by omega
      have i0 : (0 : Int) ≤ (k : Int) := by omega
      have HCT := hide (cnt_take hx)
      have HBT := hide (byts_take hx)
      have q1 := cnt_take_le L (k + 1)
      have q2 := byts_take_le L (k + 1)
      have q3 := HCT.out
      have q4 := HBT.out
      have q5 := HBY.out
      have q6 := HT.out
      have HFX := hide (HF.out x (List.mem_of_getElem? hx))
      have HWX := hide (HWR.out x (List.mem_of_getElem? hx))
      have HFI := hide (H.out k x hx).2
      have HLE := hide (show cnt (L.take k) + x.l.length ≤ 10000 ∧ byts (L.take k) + (x.l.map keyB).sum ≤ 100000000 by omega)
      obtain ⟨xa, xc, xl⟩ := x
      simp only at *
      clear hfb hx q1 q2 q3 q4 q5 q6
      generalize hXL : xl.length = XL at *
      have HXL := hide hXL
      have hxi : (XL : Int) ≤ 10000 := by have := HLE.out; omega
      clear hXL
      go_wp2_with fail
      go_loopw [5, 36] (fun s i wq => ∃ q t : Nat, i = .int .i64 (q : Nat) ∧ s = .int .i64 (t : Nat) ∧ q ≤ XL ∧ t ≤ 50 + 70 * (cnt (L.take k) + q) + (byts (L.take k) + ((xl.take q).map keyB).sum) ∧ Turns (fun _ => False) w wq) (fun _ i _ => XL - (intOf i).toNat)
      case atStart => exact ⟨0, t, rfl, rfl, Nat.zero_le _, by have := HTT.out; simp; omega, HB.out⟩
      case round =>
        clear HTT
        obtain ⟨q, tq, rfl, rfl, hq, ht, hb⟩ := hrel
        have HB2 := hide hb
        have HTT := hide ht
        clear hb ht
        by_cases hqn : q < XL
        · obtain ⟨y, hy⟩ : ∃ y, xl[q]? = some y := ⟨_, List.getElem?_eq_getElem (by have := HXL.out; omega)⟩
          obtain ⟨b', off', rfl, h6, hfb⟩ := fc_of (HFI.out.quiet HB2.out) hy
          have j1 : (q : Int) < (XL : Int) := by omega
          have j0 : (0 : Int) ≤ (q : Int) := by omega
          have hno := HFX.out y (List.mem_of_getElem? hy)
          obtain ⟨v1, v2, v3, v4, v5, v6, v7, v8, v9, v10, v11⟩ := wrongF_false (HWX.out y (List.mem_of_getElem? hy))
          have HKT := hide (keyB_take hy)
          have hkl := keyB_take_le xl (q + 1)
          have hle := HLE.out
          have htt := HTT.out
          have hkt := HKT.out
          have htl : (tq : Int) ≤ 200000000 := by omega
          have CO := hide (fun (u : World) => numbersOf_any k y u (by omega) hno v3 v4 (by omega) v6 (by omega))
          unfold keyB at hkt
          have HKK := hide (show ((xl.take (q + 1)).map keyB).sum = ((xl.take q).map keyB).sum + (y.f.least.length + y.f.most.length) from HKT.out)
          clear hkl hle htt hkt HKT
          obtain ⟨la, lc, ma, mc, ⟨no, sz, ls, ms, en, sq⟩⟩ := y
          obtain ⟨y0, y1, y2, y3, y4, y5⟩ := h6
          unfold addAgg at CO
          simp only at *
          generalize hL1 : ls.length = L1 at *
          generalize hL2 : ms.length = L2 at *
          have v8i : (L1 : Int) ≤ 4096 := by omega
          have v10i : (L2 : Int) ≤ 4096 := by omega
          clear hfb hy hno v1 v2 v3 v4 v5 v6 v7 v9 v11 hL1 hL2
          have TF := hide ((Turns.refl (fun _ => False) wr).alloc (.cells #[.int .u64 (no : Nat), .int .i64 sz, .slice la L1 lc, .slice ma L2 mc, .int .i64 en, .int .u64 (sq : Nat)] 37))
          have RF := hide (heap_alloc_new wr (.cells #[.int .u64 (no : Nat), .int .i64 sz, .slice la L1 lc, .slice ma L2 mc, .int .i64 en, .int .u64 (sq : Nat)] 37))
          go_wp2_with fail
          refine (CO.out _).mono ?_
          rintro e w3 ⟨g, rfl, hnm, t3⟩
          have T3 := hide (TF.out.trans t3)
          have r3 := t3.heap RF.out (fun x => x)
          have HN3 := hide (numbersSize_any (some ⟨g, 0, none⟩) 5 5 _ w3 hnm rfl (by omega))
          clear hnm t3 CO y0 y1 y2 y3 y4 y5
          go_wp2_with fail
          refine HN3.out.mono ?_
          rintro e w4 ⟨s1, rfl, hs1, rfl⟩
          have e2 : w4.cell? ⟨wr.heap.size, 2, none⟩ = some (.slice la L1 lc) := cell_of_row w4 wr.heap.size 2 _ 37 (0, 0) r3
          have e3 : w4.cell? ⟨wr.heap.size, 3, none⟩ = some (.slice ma L2 mc) := cell_of_row w4 wr.heap.size 3 _ 37 (0, 0) r3
          clear r3 HN3 RF
          generalize wr.heap.size = G at *
          go_wp2_with fail
          have HN4 := hide (numbersSize_any (some ⟨w4.heap.size, 0, none⟩) 2 2 [L1, L2] (w4.drew.alloc (.cells #[.int .u64 (L1 : Nat), .int .u64 (L2 : Nat)] 23)) (nums_of_block (heap_alloc_new w4.drew _) (by simp; omega)) rfl (by omega))
          have t4 := ((Turns.refl (fun _ => False) w4).drew.alloc (.cells #[.int .u64 (L1 : Nat), .int .u64 (L2 : Nat)] 23))
          have k2 := t4.cell e2 (fun x => x)
          have k3 := t4.cell e3 (fun x => x)
          have T4 := hide t4
          clear t4
          have cv1 := conv_nat L1 (by omega)
          have cv2 := conv_nat L2 (by omega)
          have t5 := ((Turns.refl (fun _ => False) w4).alloc (.cells #[.int .u64 (L1 : Nat), .int .u64 (L2 : Nat)] 23))
          have k4 := t5.cell e2 (fun x => x)
          have k5 := t5.cell e3 (fun x => x)
          clear t5
          go_region_held (fun w' => w'.cell? ⟨G, 2, none⟩ = some (.slice la L1 lc) ∧ w'.cell? ⟨G, 3, none⟩ = some (.slice ma L2 mc)) (first | (with_reducible exact ⟨k2, k3⟩) | (simp only [World.cell?_drew]; with_reducible exact ⟨k4, k5⟩) | (simp only [World.cell?_drew]; with_reducible exact ⟨e2, e3⟩)) (first
            | (go_at_call 77; refine HN4.out.mono ?_; rintro e w5 ⟨s2, rfl, hs2, rfl⟩))
          have hs2i : (s2 : Int) ≤ 20 := by omega
          have hs1i : (s1 : Int) ≤ 50 := by omega
          go_wp2_with fail
          go_roundw
          case rel => exact ⟨q + 1, tq + s1 + (s2 + L1 + L2), by go_num, by rw [wrapI ((s2 : Int) + L1) (by omega) (by omega), wrapI ((s2 : Int) + L1 + L2) (by omega) (by omega), wrapI ((tq : Int) + s1 + (s2 + L1 + L2)) (by omega) (by omega)]; simp, by omega, by have := HTT.out; have := HKK.out; omega, HB2.out.trans (T3.out.trans T4.out)⟩
          case measure => simp [intOf]; omega
        · obtain rfl : q = XL := by omega
          have ht : xl.take q = xl := List.take_of_length_le (by have := HXL.out; omega)
          rw [ht] at HTT
          go_wp2_with fail
          go_roundw
          case rel => exact ⟨k + 1, tq, by go_num, rfl, by omega, by have := HTT.out; rw [HCT.out, HBT.out]; omega, HB2.out⟩
          case measure => simp [intOf]; omega
    · obtain rfl : k = n := by omega
      have ht : L.take k = L := List.take_of_length_le (by have := HL.out; omega)
      rw [ht] at HTT
      go_wp2_with fail
      go_ret
      exact ⟨t, rfl, by have := HTT.out; have := HT.out; omega, HB.out⟩
end Go.Proofs.Ytmmcikbedegigaa

/-
  Whether a version may be.
-/
namespace Go.Proofs.Ytmmcikbedegigaa
open Go.RowKit Go.Maps
set_option maxRecDepth 100000
set_option maxHeartbeats 4000000
/-- What is wrong with a level. -/
def wrongLv (next lev : Nat) (l : List Tf) : Bool := l.any wrongT || l.any (newT next) || !ordF lev (fls l)
def headBad (next seq log : Nat) : Bool := decide (next < 1) || decide (1000000000000 < next) || decide (72057594037927935 < seq) || decide (1000000000000 ≤ log)
/-- What is wrong with a version. -/
def wrongV (L : List Lv) (next seq log : Nat) : Bool :=
  headBad next seq log || decide (L.length ≠ 5) || L.zipIdx.any (fun p => wrongLv next p.2 p.1.l) || !decide (numsL L).Nodup
theorem wrongLv_take {L : List Lv} {next k : Nat} {x : Lv} (h : L[k]? = some x) : (L.take (k + 1)).zipIdx.any (fun p => wrongLv next p.2 p.1.l) = ((L.take k).zipIdx.any (fun p => wrongLv next p.2 p.1.l) || wrongLv next k x.l) := by
  have hi := (List.getElem?_eq_some_iff.1 h).1
  have e : L.take (k + 1) = L.take k ++ [x] := by rw [List.take_add_one, h]; rfl
  have hl : (L.take k).length = k := by rw [List.length_take]; omega
  rw [e, List.zipIdx_append, List.any_append, hl, Nat.zero_add]
  simp
theorem wrongLv_mem {L : List Lv} {next k : Nat} {x : Lv} (h : L[k]? = some x) (hw : wrongLv next k x.l = true) : L.zipIdx.any (fun p => wrongLv next p.2 p.1.l) = true :=
  List.any_eq_true.2 ⟨(x, k), List.mem_zipIdx_iff_getElem?.2 h, hw⟩
theorem isWrong_any (a : Option Addr) (n c next seq log : Nat) (L : List Lv) (w : World) (h : Levs w a L) (hn : n = L.length) (hc : cnt L ≤ 1000000) (hf : Fit L) :
    Calls Try.prog 30 #[verAgg a n c next seq log] w fun e w' => e = .returned (.bool (wrongV L next seq log)) ∧ Turns (fun _ => False) w w' := by
  have H := hide h
  have HL := hide hn
  have HC := hide hc
  have HF := hide hf
  have TA := hide ((Turns.refl (fun _ => False) w).alloc (.cells #[.slice a n c, .int .u64 (next : Nat), .int .u64 (seq : Nat), .int .u64 (log : Nat)] 25))
  have R0 := hide (heap_alloc_new w (.cells #[.slice a n c, .int .u64 (next : Nat), .int .u64 (seq : Nat), .int .u64 (log : Nat)] 25))
  unfold verAgg
  clear h hn hc hf
  by_cases h1 : next < 1
  · have i1 : (next : Int) < 1 := by omega
    go_enter Try.func30, Try.ntmps30
    go_wp2_with fail
    go_ret
    exact ⟨congrArg Ending.returned (congrArg Value.bool (by simp [wrongV, headBad, h1])), TA.out⟩
  have i1 : ¬ (next : Int) < 1 := by omega
  by_cases h2 : 1000000000000 < next
  · have i2 : (1000000000000 : Int) < next := by omega
    go_enter Try.func30, Try.ntmps30
    go_wp2_with fail
    go_ret
    exact ⟨congrArg Ending.returned (congrArg Value.bool (by simp [wrongV, headBad, h2])), TA.out⟩
  have i2 : ¬ (1000000000000 : Int) < next := by omega
  by_cases h3 : 72057594037927935 < seq
  · have i3 : (72057594037927935 : Int) < seq := by omega
    go_enter Try.func30, Try.ntmps30
    go_wp2_with fail
    go_ret
    exact ⟨congrArg Ending.returned (congrArg Value.bool (by simp [wrongV, headBad, h3])), TA.out⟩
  have i3 : ¬ (72057594037927935 : Int) < seq := by omega
  by_cases h4 : 1000000000000 ≤ log
  · have i4 : (1000000000000 : Int) ≤ log := by omega
    go_enter Try.func30, Try.ntmps30
    go_wp2_with fail
    go_ret
    exact ⟨congrArg Ending.returned (congrArg Value.bool (by simp [wrongV, headBad, h4])), TA.out⟩
  have i4 : ¬ (1000000000000 : Int) ≤ log := by omega
  have HH := hide (show headBad next seq log = false by simp [headBad]; omega)
  by_cases h5 : n ≠ 5
  · have i5 : ¬ (n : Int) = 5 := by omega
    go_enter Try.func30, Try.ntmps30
    go_wp2_with fail
    go_ret
    exact ⟨congrArg Ending.returned (congrArg Value.bool (by have := HL.out; simp [wrongV]; omega)), TA.out⟩
  obtain rfl : n = 5 := by omega
  clear h5 h1 h2 h3 h4
  go_enter Try.func30, Try.ntmps30
  go_wp2_with fail
  generalize w.alloc (.cells #[.slice a 5 c, .int .u64 (next : Nat), .int .u64 (seq : Nat), .int .u64 (log : Nat)] 25) = w0 at *
  have hT := HL.out
  go_loopw [28] (fun i wr => ∃ k : Nat, i = .int .i64 (k : Nat) ∧ k ≤ 5 ∧ (L.take k).zipIdx.any (fun p => wrongLv next p.2 p.1.l) = false ∧ Turns (fun _ => False) w0 wr) (fun i _ => 5 - (intOf i).toNat)
  case atStart => exact ⟨0, rfl, Nat.zero_le _, by simp, Turns.refl _ _⟩
  case round =>
    obtain ⟨k, rfl, hk, hno, hb⟩ := hrel
    have HB := hide (TA.out.trans hb)
    have HB0 := hide hb
    have HNO := hide hno
    clear hb hno hT
    by_cases hkn : k < 5
    · obtain ⟨x, hx⟩ : ∃ x, L[k]? = some x := ⟨_, List.getElem?_eq_getElem (by have := HL.out; omega)⟩
      obtain ⟨⟨b, off, rfl, hcl⟩, hfb⟩ := (H.out.quiet HB.out) k x hx
      have i5 : (k : Int) < 5 := by omega
      have i0 : (0 : Int) ≤ (k : Int) := by omega
      have HX := hide hx
      have q1 := cnt_take_le L (k + 1)
      have q2 := cnt_take hx
      have q3 := HC.out
      have hxl : x.l.length ≤ 1000000 := by omega
      have vn : wr.cell? ⟨w.heap.size, 1, none⟩ = some (.int .u64 (next : Nat)) := HB0.out.cell (cell_of_row w0 w.heap.size 1 _ 25 (0, 0) R0.out) (fun x => x)
      have CW := hide (fun (u : World) (t : Turns (fun _ => False) wr u) => contains_wrong x.a x.l.length x.c x.l u (hfb.quiet t) rfl hxl)
      have CNW := hide (fun (u : World) (t : Turns (fun _ => False) wr u) => contains_new x.a x.l.length x.c x.l w.heap.size next u (hfb.quiet t) rfl hxl (t.cell vn (fun x => x)))
      have CI := hide (fun (u : World) (t : Turns (fun _ => False) wr u) => inOrder_any k x.a x.l.length x.c x.l u (hfb.quiet t) rfl hxl)
      have HWT := hide (wrongLv_take (next := next) hx)
      have HWM := hide (wrongLv_mem (next := next) hx)
      obtain ⟨xa, xc, xl⟩ := x
      unfold wrongLv at HWT HWM
      simp only at *
      clear hfb hx q1 q2 q3 hxl
      generalize xl.length = XL at *
      generalize hA : xl.any wrongT = A at *
      generalize hB' : xl.any (newT next) = A' at *
      generalize hC' : ordF k (fls xl) = A'' at *
      clear hA hB' hC'
      go_wp2_with fail
      refine (CW.out _ (Turns.refl _ _)).mono ?_
      rintro e w1 ⟨rfl, t1⟩
      have T1 := hide t1
      clear t1
      cases A
      · go_wp2_with fail
        refine (CNW.out _ T1.out).mono ?_
        rintro e w2 ⟨rfl, t2⟩
        have T2 := hide (T1.out.trans t2)
        clear t2
        cases A'
        · go_wp2_with fail
          refine (CI.out _ T2.out).mono ?_
          rintro e w3 ⟨rfl, t3⟩
          have T3 := hide (T2.out.trans t3)
          clear t3
          cases A''
          · go_wp2_with fail
            go_ret
            exact ⟨congrArg Ending.returned (congrArg Value.bool (by have := HWM.out rfl; unfold wrongV wrongLv; simp [this])), HB.out.trans T3.out⟩
          · go_wp2_with fail
            go_roundw
            case rel => exact ⟨k + 1, by go_num, by omega, by unfold wrongLv; rw [HWT.out]; have := HNO.out; unfold wrongLv at this; rw [this]; rfl, HB0.out.trans T3.out⟩
            case measure => simp [intOf]; omega
        · go_wp2_with fail
          go_ret
          exact ⟨congrArg Ending.returned (congrArg Value.bool (by have := HWM.out rfl; unfold wrongV wrongLv; simp [this])), HB.out.trans T2.out⟩
      · go_wp2_with fail
        go_ret
        exact ⟨congrArg Ending.returned (congrArg Value.bool (by have := HWM.out rfl; unfold wrongV wrongLv; simp [this])), HB.out.trans T1.out⟩
    · obtain rfl : k = 5 := by omega
      have ht : L.take 5 = L := List.take_of_length_le (by have := HL.out; omega)
      rw [ht] at HNO
      have d0 : wr.cell? ⟨w.heap.size, 0, none⟩ = some (.slice a 5 c) := HB0.out.cell (cell_of_row w0 w.heap.size 0 _ 25 (0, 0) R0.out) (fun x => x)
      have CT := hide (hasTwice_any a 5 c L wr (H.out.quiet HB.out) HL.out (by omega) HC.out HF.out)
      clear ht
      generalize hD : decide (numsL L).Nodup = D at *
      have HD := hide hD
      clear hD
      go_wp2_with fail
      refine CT.out.mono ?_
      rintro e w1 ⟨rfl, t1⟩
      have T1 := hide t1
      clear t1
      go_wp2_with fail
      go_ret
      refine ⟨congrArg Ending.returned (congrArg Value.bool ?_), HB.out.trans T1.out⟩
      unfold wrongV
      rw [HH.out, HNO.out, HD.out, ← HL.out]
      simp
end Go.Proofs.Ytmmcikbedegigaa

/-
  Check.
-/
namespace Go.Proofs.Ytmmcikbedegigaa
open Go.RowKit Go.Maps
set_option maxRecDepth 100000
set_option maxHeartbeats 4000000
def chkV (L : List Lv) (next seq log : Nat) : Int := if wrongV L next seq log then 2 else 0
theorem wrongV_files {L : List Lv} {next seq log : Nat} (h : wrongV L next seq log = false) : ∀ x ∈ L, ∀ y ∈ x.l, wrongF y.f = false := by
  intro x hx y hy
  unfold wrongV at h
  simp only [Bool.or_eq_false_iff] at h
  obtain ⟨k, hk⟩ := List.getElem?_of_mem hx
  have := List.any_eq_false.1 h.1.2 (x, k) (List.mem_zipIdx_iff_getElem?.2 hk)
  simp only [wrongLv, Bool.or_eq_true, not_or] at this
  have h2 := this.1.1
  rw [Bool.not_eq_true] at h2
  have := List.any_eq_false.1 h2 y hy
  simpa [wrongT] using this
/-- A version in memory that is not too long. -/
structure VerIn (w : World) (a : Option Addr) (n : Nat) (L : List Lv) (next seq log : Nat) : Prop where
  levs : Levs w a L
  len : n = L.length
  cnt : cnt L ≤ 5000
  byts : byts L ≤ 600000
  fit : Fit L
  b1 : next < 18446744073709551616
  b2 : seq < 18446744073709551616
  b3 : log < 18446744073709551616
theorem VerIn.quiet {w w' : World} {a : Option Addr} {n : Nat} {L : List Lv} {next seq log : Nat} (h : VerIn w a n L next seq log) (t : Turns (fun _ => False) w w') : VerIn w' a n L next seq log := ⟨h.levs.quiet t, h.len, h.cnt, h.byts, h.fit, h.b1, h.b2, h.b3⟩
theorem isLong_any (a : Option Addr) (n c next seq log : Nat) (L : List Lv) (w : World) (h : VerIn w a n L next seq log) (h0 : wrongV L next seq log = false) :
    Calls Try.prog 31 #[verAgg a n c next seq log] w fun e w' => e = .returned (.bool false) ∧ Turns (fun _ => False) w w' := by
  have H5 : n = 5 := by
    unfold wrongV at h0
    simp only [Bool.or_eq_false_iff, decide_eq_false_iff_not] at h0
    have := h.len
    omega
  subst H5
  have TA := hide ((Turns.refl (fun _ => False) w).alloc (.cells #[.slice a 5 c, .int .u64 (next : Nat), .int .u64 (seq : Nat), .int .u64 (log : Nat)] 25))
  have R0 := hide (heap_alloc_new w (.cells #[.slice a 5 c, .int .u64 (next : Nat), .int .u64 (seq : Nat), .int .u64 (log : Nat)] 25))
  have CN := hide (count_any a 5 c L _ (h.levs.quiet TA.out) h.len (by omega) (by have := h.cnt; omega))
  have WS := hide (fun (u : World) (t : Turns (fun _ => False) w u) => wholeSize_any a 5 c next seq log L u (h.levs.quiet t) h.len (by omega) (by have := h.cnt; omega) h.fit (wrongV_files h0) h.b1 h.b2 h.b3 (by have := h.byts; omega))
  have HC := hide h.cnt
  have HBY := hide h.byts
  unfold verAgg at WS ⊢
  clear h h0
  go_enter Try.func31, Try.ntmps31
  go_wp2_with fail
  refine CN.out.mono ?_
  rintro e w1 ⟨rfl, t1⟩
  have r1 := t1.heap R0.out (fun x => x)
  have c0 := cell_of_row w1 w.heap.size 0 _ 25 (0, 0) r1
  have c1 := cell_of_row w1 w.heap.size 1 _ 25 (0, 0) r1
  have c2 := cell_of_row w1 w.heap.size 2 _ 25 (0, 0) r1
  have c3 := cell_of_row w1 w.heap.size 3 _ 25 (0, 0) r1
  have T1 := hide (TA.out.trans t1)
  have hl : ¬ (10000 : Int) < (cnt L : Nat) := by have := HC.out; omega
  clear t1 r1 CN
  go_wp2_with fail
  refine (WS.out _ T1.out).mono ?_
  rintro e w2 ⟨t, rfl, ht, t2⟩
  have hl2 : ¬ (1048576 : Int) < (t : Nat) := by have := HC.out; have := HBY.out; omega
  have T2 := hide (T1.out.trans t2)
  clear t2 ht c0 c1 c2 c3
  go_wp2_with fail
  go_ret
  refine ⟨congrArg Ending.returned (congrArg Value.bool ?_), T2.out⟩
  first | rfl | (simp; omega)
theorem check_any (a : Option Addr) (n c next seq log : Nat) (L : List Lv) (w : World) (h : VerIn w a n L next seq log) :
    Calls Try.prog 10 #[verAgg a n c next seq log] w fun e w' => e = .returned (.int .i64 (chkV L next seq log)) ∧ Turns (fun _ => False) w w' := by
  have TA := hide ((Turns.refl (fun _ => False) w).alloc (.cells #[.slice a n c, .int .u64 (next : Nat), .int .u64 (seq : Nat), .int .u64 (log : Nat)] 25))
  have R0 := hide (heap_alloc_new w (.cells #[.slice a n c, .int .u64 (next : Nat), .int .u64 (seq : Nat), .int .u64 (log : Nat)] 25))
  have CW := hide (isWrong_any a n c next seq log L _ (h.levs.quiet TA.out) h.len (by have := h.cnt; omega) h.fit)
  have CL := hide (fun (u : World) (t : Turns (fun _ => False) w u) (h0 : wrongV L next seq log = false) => isLong_any a n c next seq log L u (h.quiet t) h0)
  have HV := hide (show chkV L next seq log = if wrongV L next seq log then 2 else 0 from rfl)
  unfold verAgg at *
  clear h
  generalize hV : wrongV L next seq log = V at *
  clear hV
  generalize chkV L next seq log = CV at *
  go_enter Try.func10, Try.ntmps10
  go_wp2_with fail
  refine CW.out.mono ?_
  rintro e w1 ⟨rfl, t1⟩
  have r1 := t1.heap R0.out (fun x => x)
  have c0 := cell_of_row w1 w.heap.size 0 _ 25 (0, 0) r1
  have c1 := cell_of_row w1 w.heap.size 1 _ 25 (0, 0) r1
  have c2 := cell_of_row w1 w.heap.size 2 _ 25 (0, 0) r1
  have c3 := cell_of_row w1 w.heap.size 3 _ 25 (0, 0) r1
  have T1 := hide (TA.out.trans t1)
  clear t1 r1 CW
  cases V
  · go_wp2_with fail
    refine (CL.out _ T1.out trivial).mono ?_
    rintro e w2 ⟨rfl, t2⟩
    have T2 := hide (T1.out.trans t2)
    clear t2
    go_wp2_with fail
    go_ret
    exact ⟨congrArg Ending.returned (by rw [HV.out]; rfl), T2.out⟩
  · go_wp2_with fail
    go_ret
    exact ⟨congrArg Ending.returned (by rw [HV.out]; rfl), T1.out⟩
end Go.Proofs.Ytmmcikbedegigaa

/-
  Copies of bytes, and of files, with the types of their blocks.
-/
namespace Go.Proofs.Ytmmcikbedegigaa
open Go.RowKit
set_option maxRecDepth 100000
set_option maxHeartbeats 4000000
theorem cloneT_any (a : Option Addr) (n c : Nat) (bs : List (BitVec 8)) (w : World) (h : Bytes w (.slice a n c) bs) (hn : n ≤ 1000000) :
    Calls Try.prog 70 #[.slice a n c] w fun e w' => ∃ a' c', e = .returned (.slice a' n c') ∧ Bytes w' (.slice a' n c') bs ∧ (∀ x, a' = some x → (w.heap.size ≤ x.block ∧ x.block < w'.heap.size) ∧ ∃ cs, w'.heap[x.block]? = some (.cells cs 5 (0, 0))) ∧ Below w.heap.size w w' := by
  have hl := h.len
  cases a with
  | none =>
    obtain rfl : n = 0 := by
      rcases Nat.eq_zero_or_pos n with h0 | h0
      · exact h0
      · obtain ⟨_, _, e⟩ := h.addr h0; cases e
    obtain rfl : bs = [] := List.eq_nil_of_length_eq_zero hl.symm
    clear h hl
    have he : (binOp .eql 35 (.slice none 0 c) (.slice none 0 0)).run Try.prog w = .ok (.bool true) w := nil_eql none 0 c w
    go_enter Try.func70, Try.ntmps70
    go_wp2_with fail
    go_ret
    exact ⟨none, 0, rfl, Bytes.empty _, fun x e => (by cases e), Below.refl _ _⟩
  | some ad =>
    have hb : Below w.heap.size w (w.alloc (.cells #[] 5)) := (Below.refl _ _).alloc (Nat.le_refl _) _
    obtain ⟨g, c2, w2, hr, hg, hrow, hb2, hc, _⟩ := append_bytes2 (w.alloc (.cells #[] 5)) w.heap.size (some ⟨w.heap.size, 0, none⟩) 0 0 [] rfl (.slice (some ad) n c) bs n hl (h.below hb) (by simp)
      (.inr ⟨_, rfl, Nat.le_refl _, Nat.le_refl _, #[], heap_alloc_new w _, Nat.le_refl _, fun k hk => by simp [cellsOf] at hk⟩) (by omega)
    rw [Nat.zero_add] at hr hc
    rw [List.nil_append] at hrow
    have HR := hide hr
    have HW := hide (RowB.bytes (c' := c2) hrow hl)
    have HB := hide (hb.trans hb2)
    have HG := hide (show ∃ cs, w2.heap[g]? = some (.cells cs 5 (0, 0)) by obtain ⟨cs, h1, _⟩ := hrow; exact ⟨cs, h1⟩)
    clear hr hrow hb hb2 h hl
    have he : (binOp .eql 35 (.slice (some ad) n c) (.slice none 0 0)).run Try.prog w = .ok (.bool false) w := nil_eql (some ad) n c w
    go_enter Try.func70, Try.ntmps70
    go_wp2_with (at_builtin; refine wpList_append_run rfl _ _ 35 rfl (.slice (some ⟨w.heap.size, 0, none⟩) 0 0) (.slice (some ad) n c) rfl rfl _ _ (HR.out _) ?_)
    go_ret
    exact ⟨_, c2, rfl, HW.out, fun x e => by cases e; exact ⟨⟨hg, lt_of_heap HG.out.choose_spec⟩, HG.out⟩, HB.out⟩
/-- A file's bytes lie in blocks of their own kind, at or above B. -/
structure FT (w : World) (B : Nat) (x : Tf) : Prop where
  fb : FB w x
  l : ∀ ad, x.la = some ad → B ≤ ad.block ∧ ∃ cs z, w.heap[ad.block]? = some (.cells cs 5 z)
  m : ∀ ad, x.ma = some ad → B ≤ ad.block ∧ ∃ cs z, w.heap[ad.block]? = some (.cells cs 5 z)
theorem info37 : Try.prog.info? 37 = some Try.t37 := by kernel_rfl
theorem sz37 : (Try.prog.info? 37).map (·.size) = some 6 := by kernel_rfl
theorem cloneF_any (x : Tf) (w : World) (h : FB w x) (l1 : x.f.least.length ≤ 1000000) (l2 : x.f.most.length ≤ 1000000) :
    Calls Try.prog 47 #[x.agg] w fun e w' => ∃ y : Tf, e = .returned y.agg ∧ y.f = x.f ∧ FT w' w.heap.size y ∧ Turns (fun _ => False) w w' := by
  obtain ⟨la, lc, ma, mc, ⟨no, sz, ls, ms, en, sq⟩⟩ := x
  obtain ⟨h1, h2⟩ := h
  unfold Tf.agg
  simp only at *
  have ha : Turns (fun _ => False) w ((w.alloc (.cells #[.int .u64 (no : Nat), .int .i64 sz, .slice la ls.length lc, .slice ma ms.length mc, .int .i64 en, .int .u64 (sq : Nat)] 37)).alloc (.cells #[.int .u64 0, .int .i64 0, .slice none 0 0, .slice none 0 0, .int .i64 0, .int .u64 0] 37)) := ((Turns.refl _ w).alloc _).alloc _
  have r0 := heap_keep ((Below.refl _ (w.alloc (.cells #[.int .u64 (no : Nat), .int .i64 sz, .slice la ls.length lc, .slice ma ms.length mc, .int .i64 en, .int .u64 (sq : Nat)] 37))).alloc (Nat.le_refl _) (.cells #[.int .u64 0, .int .i64 0, .slice none 0 0, .slice none 0 0, .int .i64 0, .int .u64 0] 37)) (heap_alloc_new w (.cells #[.int .u64 (no : Nat), .int .i64 sz, .slice la ls.length lc, .slice ma ms.length mc, .int .i64 en, .int .u64 (sq : Nat)] 37))
  have r1 := heap_alloc_new (w.alloc (.cells #[.int .u64 (no : Nat), .int .i64 sz, .slice la ls.length lc, .slice ma ms.length mc, .int .i64 en, .int .u64 (sq : Nat)] 37)) (.cells #[.int .u64 0, .int .i64 0, .slice none 0 0, .slice none 0 0, .int .i64 0, .int .u64 0] 37)
  rw [show (w.alloc (.cells #[.int .u64 (no : Nat), .int .i64 sz, .slice la ls.length lc, .slice ma ms.length mc, .int .i64 en, .int .u64 (sq : Nat)] 37)).heap.size = w.heap.size + 1 by simp] at r1
  have hsz : ((w.alloc (.cells #[.int .u64 (no : Nat), .int .i64 sz, .slice la ls.length lc, .slice ma ms.length mc, .int .i64 en, .int .u64 (sq : Nat)] 37)).alloc (.cells #[.int .u64 0, .int .i64 0, .slice none 0 0, .slice none 0 0, .int .i64 0, .int .u64 0] 37)).heap.size = w.heap.size + 2 := by simp
  have HSZ := hide hsz
  have HA := hide ha
  have R0 := hide r0
  have R1 := hide r1
  have H1 := hide h1
  have H2 := hide h2
  clear ha r0 r1 h1 h2 hsz
  go_enter Try.func47, Try.ntmps47
  go_wp2_with fail
  generalize (w.alloc (.cells #[.int .u64 (no : Nat), .int .i64 sz, .slice la ls.length lc, .slice ma ms.length mc, .int .i64 en, .int .u64 (sq : Nat)] 37)).alloc (.cells #[.int .u64 0, .int .i64 0, .slice none 0 0, .slice none 0 0, .int .i64 0, .int .u64 0] 37) = w0 at *
  generalize hg : w.heap.size = g at *
  generalize hL1 : ls.length = L1 at *
  generalize hL2 : ms.length = L2 at *
  have HL1 := hide hL1
  have HL2 := hide hL2
  clear hL1 hL2
  have a2 : w0.cell? ⟨g, 2, none⟩ = some (.slice la L1 lc) := cell_of_row w0 g 2 _ 37 (0, 0) R0.out
  have a3 : w0.cell? ⟨g, 3, none⟩ = some (.slice ma L2 mc) := cell_of_row w0 g 3 _ 37 (0, 0) R0.out
  have C1 := hide (cloneT_any la L1 lc ls w0.drew ((H1.out.quiet HA.out).quiet (Turns.refl _ w0).drew) l1)
  go_region_with (first
    | (go_at_call_of 70 (Value.slice la L1 lc); refine C1.out.mono ?_; rintro e w1 ⟨ka', kc', rfl, hk1, hk2, b1⟩; have t1 := (Turns.refl (fun _ => False) w0).drew.trans (Turns.of_below b1 (fun _ => False)); have a3 := t1.cell a3 (fun x => x); have T1 := hide t1; have HK1 := hide hk1; have HK2 := hide hk2; clear t1 hk1 hk2 b1)
    | (go_at_call_of 70 (Value.slice ma L2 mc); refine (cloneT_any ma L2 mc ms w1 ((H2.out.quiet HA.out).quiet T1.out) l2).mono ?_; rintro e w2 ⟨va', vc', rfl, hv1, hv2, b2⟩; have t2 := T1.out.trans (Turns.of_below b2 (fun _ => False)); have r2 := t2.heap R0.out (fun x => x); have z2 := frozen_of_row w2 g 2 _ 37 r2; have z3 := frozen_of_row w2 g 3 _ 37 r2; have c0 := cell_of_row w2 g 0 _ 37 (0, 0) r2; have c1 := cell_of_row w2 g 1 _ 37 (0, 0) r2; have c2 := cell_of_row w2 g 2 _ 37 (0, 0) r2; have c3 := cell_of_row w2 g 3 _ 37 (0, 0) r2; have c4 := cell_of_row w2 g 4 _ 37 (0, 0) r2; have c5 := cell_of_row w2 g 5 _ 37 (0, 0) r2; have HV1 := hide hv1; have HV2 := hide hv2; have T2 := hide t2; have B2 := hide b2; have R2 := hide r2; clear t2 hv1 hv2 b2 r2))
  all_goals have r3 := T2.out.heap R1.out (fun x => x)
  all_goals have y0 := frozen_of_row w2 (g + 1) 0 _ 37 r3
  all_goals have y1 := frozen_of_row w2 (g + 1) 1 _ 37 r3
  all_goals have y2 := frozen_of_row w2 (g + 1) 2 _ 37 r3
  all_goals have y3 := frozen_of_row w2 (g + 1) 3 _ 37 r3
  all_goals have y4 := frozen_of_row w2 (g + 1) 4 _ 37 r3
  all_goals have y5 := frozen_of_row w2 (g + 1) 5 _ 37 r3
  all_goals have x0 := cell_of_row w2 (g + 1) 0 _ 37 (0, 0) r3
  all_goals have x1 := cell_of_row w2 (g + 1) 1 _ 37 (0, 0) r3
  all_goals have x2 := cell_of_row w2 (g + 1) 2 _ 37 (0, 0) r3
  all_goals have x3 := cell_of_row w2 (g + 1) 3 _ 37 (0, 0) r3
  all_goals have x4 := cell_of_row w2 (g + 1) 4 _ 37 (0, 0) r3
  all_goals have x5 := cell_of_row w2 (g + 1) 5 _ 37 (0, 0) r3
  all_goals clear r3
  all_goals go_wp2_with fail
  all_goals
    have k1 := (Tick.refl R2.out).set 2 (.slice ka' L1 kc')
    have k2 := k1.set 3 (.slice va' L2 vc')
    have r3 := (k2.2.2.1 (g + 1) (by omega)).trans (T2.out.heap R1.out (fun x => x))
    have k3 := (((((((Tick.refl r3).set 0 (.int .u64 (no : Nat))).set 1 (.int .i64 sz)).set 2 (.slice ka' L1 kc')).set 3 (.slice va' L2 vc')).set 4 (.int .i64 en)).set 5 (.int .u64 (sq : Nat)))
    have u2 := Turns.of_tick k2
    have u3 := Turns.of_tick k3
    have hsz2 : w0.heap.size ≤ w2.heap.size := T2.out.size
    have hw0 := HSZ.out
    have hlast : Turns (fun _ => False) w _ := ((HA.out.trans T2.out).andThen u2 (fun j hj e => by omega)).andThen u3 (fun j hj e => by omega)
    refine bodyPost_ret (v := .agg #[.int .u64 (no : Nat), .int .i64 sz, .slice ka' L1 kc', .slice va' L2 vc', .int .i64 en, .int .u64 (sq : Nat)]) ?_ rfl ?_
    · exact results_cell_row Try.results47 _ _ _ _ _ _ _ rfl k3.1 Try.underlying37 rfl sz37
    · have hk : Bytes w2 (.slice ka' L1 kc') ls := HK1.out.below B2.out
      refine ⟨⟨ka', kc', va', vc', ⟨no, sz, ls, ms, en, sq⟩⟩, by simp only [HL1.out, HL2.out], rfl, ⟨⟨?_, ?_⟩, fun x e => ?_, fun x e => ?_⟩, hlast⟩
      · show Bytes _ (.slice ka' ls.length kc') ls
        rw [HL1.out]
        refine (hk.turns u2 fun a n c e => ?_).turns u3 fun a n c e => ?_
        · cases e; have := (HK2.out _ rfl).1.1; show ¬ _ = g; have h9 : w0.heap.size ≤ a.block := this; omega
        · cases e; have := (HK2.out _ rfl).1.1; show ¬ _ = g + 1; have h9 : w0.heap.size ≤ a.block := this; omega
      · show Bytes _ (.slice va' ms.length vc') ms
        rw [HL2.out]
        refine (HV1.out.turns u2 fun a n c e => ?_).turns u3 fun a n c e => ?_
        · cases e; have := (HV2.out _ rfl).1.1; have h8 := T1.out.size; show ¬ _ = g; omega
        · cases e; have := (HV2.out _ rfl).1.1; have h8 := T1.out.size; show ¬ _ = g + 1; omega
      · obtain ⟨h1, cs, hcs⟩ := HK2.out x e
        have h9 : w0.heap.size ≤ x.block := h1.1
        exact ⟨by omega, cs, (0, 0), u3.heap (u2.heap ((Turns.of_below B2.out (fun _ => False)).heap hcs (fun x => x)) (by show ¬ x.block = g; omega)) (by show ¬ x.block = g + 1; omega)⟩
      · obtain ⟨h1, cs, hcs⟩ := HV2.out x e
        have h8 := T1.out.size
        exact ⟨by omega, cs, (0, 0), u3.heap (u2.heap hcs (by show ¬ x.block = g; omega)) (by show ¬ x.block = g + 1; omega)⟩
end Go.Proofs.Ytmmcikbedegigaa
