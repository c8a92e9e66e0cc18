import Derived.Test.YtmmcikbedegigaaM25
/-
  The document's Overlap.
-/
namespace Go.Proofs.Ytmmcikbedegigaa
open Go.RowKit
set_option maxRecDepth 100000
set_option maxHeartbeats 4000000
theorem rOverlap_any (a : Option Addr) (n c next seq log : Nat) (L : List Lv) (z : Int) (a1 : Option Addr) (n1 c1 : Nat) (a2 : Option Addr) (n2 c2 : Nat) (least most : List (BitVec 8)) (w : World) (h : VerIn w a n L next seq log) (b1 : Bytes w (.slice a1 n1 c1) least) (b2 : Bytes w (.slice a2 n2 c2) most) (m1 : n1 ≤ 1000000) (m2 : n2 ≤ 1000000) :
    Calls Try.prog 23 #[verAgg a n c next seq log, .int .i64 z, .slice a1 n1 c1, .slice a2 n2 c2] w fun e w' => ∃ xa xn xc R, e = .returned (.slice xa xn xc) ∧ xn = List.length R ∧ RowOk w' w.heap.size xa xc R ∧ fls R = (filesF (flL L) next seq log z).filter (overF least most) ∧ (∀ y ∈ R, FT w' w.heap.size y) ∧ Turns (fun _ => False) w w' := by
  have TA := hide ((Turns.refl (fun _ => False) w).alloc (.cells #[.slice a n c, .int .u64 (next : Nat), .int .u64 (seq : Nat), .int .u64 (log : Nat)] 25))
  have R0 := hide (heap_alloc_new w (.cells #[.slice a n c, .int .u64 (next : Nat), .int .u64 (seq : Nat), .int .u64 (log : Nat)] 25))
  have CK := hide (rcheck_any a n c next seq log L _ (h.quiet TA.out))
  have H := hide h
  have B1 := hide b1
  have B2 := hide b2
  have Z0 := hide (fun (q : wrongVF (flL L) next seq log = true ∨ goodLev z = false) (w' : World) => show RowOk w' w.heap.size none 0 [] ∧ fls [] = (filesF (flL L) next seq log z).filter (overF least most) from ⟨.inl ⟨rfl, rfl, rfl⟩, by rw [filesF_bad q]; rfl⟩)
  unfold verAgg at *
  clear h b1 b2
  by_cases hw : wrongV L next seq log = true
  · rw [show chkV L next seq log = 2 by unfold chkV; rw [if_pos hw]] at CK
    have RR := hide (Z0.out (.inl (by rw [← wrongV_F]; exact hw)))
    clear hw
    generalize filesF (flL L) next seq log z = CV at *
    go_enter Try.func23, Try.ntmps23
    go_wp2_with fail
    refine CK.out.mono ?_
    rintro e w1 ⟨rfl, t1⟩
    have T1 := hide (TA.out.trans t1)
    clear t1
    go_wp2_with fail
    go_ret
    exact ⟨none, 0, 0, [], rfl, rfl, (RR.out w1).1, (RR.out w1).2, fun y hy => absurd hy (by simp), T1.out⟩
  rw [Bool.not_eq_true] at hw
  rw [show chkV L next seq log = 0 by unfold chkV; rw [if_neg (by rw [hw]; simp)]] at CK
  by_cases hg : goodLev z = true
  · obtain ⟨lev, rfl⟩ : ∃ lev : Nat, z = lev := ⟨z.toNat, by unfold goodLev at hg; simp at hg; omega⟩
    have hl5 : lev < 5 := by unfold goodLev at hg; simp at hg; omega
    have h5 : L.length = 5 := by rw [wrongV_F] at hw; have := len_of_ok hw; rwa [flL_length] at this
    obtain rfl : n = 5 := by have := H.out.len; omega
    obtain ⟨x, hx⟩ : ∃ x, L[lev]? = some x := ⟨_, List.getElem?_eq_getElem (by omega)⟩
    have HFF := hide (filesF_at hw hg (by simpa using hx))
    have HWF := hide (wrongV_files hw x (List.mem_of_getElem? hx))
    have i5 : (lev : Int) < 5 := by omega
    have i0 : (0 : Int) ≤ (lev : Int) := by omega
    have HX := hide hx
    have HXB := hide (show x.l.length ≤ 5000 by have q1 := cnt_take_le L (lev + 1); have q2 := cnt_take hx; have := H.out.cnt; omega)
    clear hw hg hx h5 Z0
    generalize filesF (flL L) next seq log (lev : Int) = FF at *
    have HSZ := hide (show w.heap.size < (w.alloc (.cells #[.slice a 5 c, .int .u64 (next : Nat), .int .u64 (seq : Nat), .int .u64 (log : Nat)] 25)).heap.size by simp)
    go_enter Try.func23, Try.ntmps23
    go_wp2_with fail
    refine CK.out.mono ?_
    rintro e w1 ⟨rfl, t1⟩
    have T1 := hide t1
    clear t1
    go_wp2_with fail
    generalize w.alloc (.cells #[.slice a 5 c, .int .u64 (next : Nat), .int .u64 (seq : Nat), .int .u64 (log : Nat)] 25) = w0 at *
    generalize hP : w.heap.size = P at *
    have HP := hide hP
    clear hP
    go_loopw [9, 10] (fun s i wr => ∃ (k : Nat) (ra : Option Addr) (rn rc : Nat) (R : List Tf), i = .int .i64 (k : Nat) ∧ s = .slice ra rn rc ∧ k ≤ x.l.length ∧ rn = R.length ∧ RowOk wr w0.heap.size ra rc R ∧ fls R = (fls (x.l.take k)).filter (overF least most) ∧ (∀ y ∈ R, FT wr w0.heap.size y) ∧ Turns (fun _ => False) w0 wr) (fun _ i _ => x.l.length - (intOf i).toNat)
    case atStart => exact ⟨0, none, 0, 0, [], rfl, rfl, Nat.zero_le _, rfl, .inl ⟨rfl, rfl, rfl⟩, by simp [fls], fun y hy => absurd hy (by simp), T1.out⟩
    case round =>
      obtain ⟨k, ra, rn, rc, R, rfl, rfl, hk, hrn, hro, hfl, hfs, hb⟩ := hrel
      have HB := hide (TA.out.trans hb)
      have HB0 := hide hb
      have HRN := hide hrn
      have HRO := hide hro
      have HFL := hide hfl
      have HFS := hide hfs
      have HRL := hide (show R.length ≤ k by
        have h1 := congrArg List.length hfl
        simp only [fls, List.length_map] at h1
        rw [h1]
        exact Nat.le_trans (List.length_filter_le _ _) (by rw [List.length_map, List.length_take]; omega))
      have v0 : wr.cell? ⟨P, 0, none⟩ = some (.slice a 5 c) := hb.cell (cell_of_row w0 P 0 _ 25 (0, 0) R0.out) (fun x => x)
      obtain ⟨⟨b, off, rfl, hcl⟩, hfb⟩ := (H.out.levs.quiet HB.out) lev x HX.out
      have HFB := hide hfb
      clear hb hfb hrn hro hfl hfs
      obtain ⟨xa, xc, xl⟩ := x
      simp only at *
      generalize hXL : xl.length = XL at *
      have HXL := hide hXL
      have hxi : (XL : Int) ≤ 5000 := by have := HXB.out; omega
      clear hXL
      by_cases hkn : k < XL
      · obtain ⟨y, hy⟩ : ∃ y, xl[k]? = some y := ⟨_, List.getElem?_eq_getElem (by have := HXL.out; omega)⟩
        obtain ⟨b', off', rfl, h6, hfb⟩ := fc_of HFB.out hy
        have k1 : (k : Int) < XL := by omega
        have k0 : (0 : Int) ≤ k := by omega
        obtain ⟨_, _, _, _, _, _, _, u8, _, u10, _⟩ := wrongF_false (HWF.out y (List.mem_of_getElem? hy))
        have HTK := hide (show fls (xl.take (k + 1)) = fls (xl.take k) ++ [y.f] by rw [List.take_add_one, hy]; simp [fls])
        have HOF := hide (show overF least most y.f = (decide (0 ≤ cmpB y.f.most least) && (decide (most.length = 0) || decide (cmpB y.f.least most ≤ 0))) from rfl)
        have CB1 := hide (fun (u : World) (t : Turns (fun _ => False) wr u) => rBefore_any y.ma a1 y.f.most.length n1 y.mc c1 y.f.most least u (hfb.quiet t).2 (B1.out.quiet (HB.out.trans t)) (by omega) (by omega))
        have CB2 := hide (fun (u : World) (t : Turns (fun _ => False) wr u) => rBefore_any a2 y.la n2 y.f.least.length c2 y.lc most y.f.least u (B2.out.quiet (HB.out.trans t)) (hfb.quiet t).1 (by omega) (by omega))
        have CO := hide (fun (u : World) (t : Turns (fun _ => False) wr u) => rown_any y u (hfb.quiet t) (by omega) (by omega))
        have HML := hide (show n2 = most.length from B2.out.len.symm ▸ rfl)
        have HS1 := hide (cmpB_swap y.f.least most)
        obtain ⟨la, lc, ma, mc, ⟨no, sz, ls, ms, en, sq⟩⟩ := y
        obtain ⟨y0, y1, y2, y3, y4, y5⟩ := h6
        unfold Tf.agg at CO
        simp only at *
        generalize ls.length = L1 at *
        generalize ms.length = L2 at *
        have TF := hide ((Turns.refl (fun _ => False) wr).alloc (.cells #[.int .u64 (no : Nat), .int .i64 sz, .slice la L1 lc, .slice ma L2 mc, .int .i64 en, .int .u64 (sq : Nat)] 37))
        have RF := hide (heap_alloc_new wr (.cells #[.int .u64 (no : Nat), .int .i64 sz, .slice la L1 lc, .slice ma L2 mc, .int .i64 en, .int .u64 (sq : Nat)] 37))
        clear hfb hy u8 u10
        by_cases hA : cmpB ms least < 0
        · rw [show decide (cmpB ms least < 0) = true by simpa using hA] at CB1
          have HA := hide hA
          clear hA
          go_wp2_with fail
          refine (CB1.out _ TF.out).mono ?_
          rintro e w2 ⟨rfl, t2⟩
          have T2 := hide (TF.out.trans t2)
          clear t2
          have HOV := hide (show overF least most ⟨no, sz, ls, ms, en, sq⟩ = false by have := HA.out; show (decide (0 ≤ cmpB ms least) && (decide (most.length = 0) || decide (cmpB ls most ≤ 0))) = false; rw [decide_eq_false (show ¬ 0 ≤ cmpB ms least by omega)]; rfl)
          go_wp2_with fail
          go_roundw
          case rel =>
            refine ⟨k + 1, ra, rn, rc, R, by go_num, rfl, by omega, HRN.out, HRO.out.keep T2.out fun _ _ x => x, ?_, fun y hy => (HFS.out y hy).quiet T2.out, HB0.out.trans T2.out⟩
            rw [HTK.out, List.filter_append, ← HFL.out]
            simp [HOV.out]
          case measure => simp [intOf]; omega
        · rw [show decide (cmpB ms least < 0) = false by simpa using hA] at CB1
          have HA := hide hA
          clear hA
          go_wp2_with fail
          refine (CB1.out _ TF.out).mono ?_
          rintro e w2 ⟨rfl, t2⟩
          have T2 := hide (TF.out.trans t2)
          have r2 := t2.heap RF.out (fun x => x)
          have e0 := cell_of_row w2 wr.heap.size 0 _ 37 (0, 0) r2
          have e1 := cell_of_row w2 wr.heap.size 1 _ 37 (0, 0) r2
          have e2 := cell_of_row w2 wr.heap.size 2 _ 37 (0, 0) r2
          have e3 := cell_of_row w2 wr.heap.size 3 _ 37 (0, 0) r2
          have e4 := cell_of_row w2 wr.heap.size 4 _ 37 (0, 0) r2
          have e5 := cell_of_row w2 wr.heap.size 5 _ 37 (0, 0) r2
          clear t2
          by_cases hM : n2 = 0
          · have hMi : (n2 : Int) = 0 := by omega
            have HM := hide hM
            clear hM r2
            have HOV := hide (show overF least most ⟨no, sz, ls, ms, en, sq⟩ = true by have := HA.out; have := HM.out; have := HML.out; show (decide (0 ≤ cmpB ms least) && (decide (most.length = 0) || decide (cmpB ls most ≤ 0))) = true; rw [decide_eq_true (show 0 ≤ cmpB ms least by omega), decide_eq_true (show most.length = 0 by omega)]; rfl)
            go_wp2_with fail
            refine (CO.out _ T2.out).mono ?_
            rintro e w4 ⟨y', rfl, hyf, hft, t4⟩
            have HYF := hide hyf
            have T4 := hide (T2.out.trans t4)
            have HFT := hide (hft.mono (show w0.heap.size ≤ w2.heap.size from Nat.le_trans HB0.out.size (T2.out).size))
            clear hyf hft t4
            obtain ⟨la3, lc3, ma3, mc3, ⟨no3, sz3, ls3, ms3, en3, sq3⟩⟩ := y'
            obtain ⟨a', n', c', w', hr, hn', hro', ht', _⟩ := append_fl (w4.alloc (.cells (Tf.cells ⟨la3, lc3, ma3, mc3, ⟨no3, sz3, ls3, ms3, en3, sq3⟩⟩).toArray 37)) w0.heap.size ra rc R (HRO.out.keep (T4.out.alloc _) fun _ _ x => x) (Nat.le_trans HB0.out.size (T4.out.alloc (.cells (Tf.cells ⟨la3, lc3, ma3, mc3, ⟨no3, sz3, ls3, ms3, en3, sq3⟩⟩).toArray 37)).size) (by have := HRL.out; omega) ⟨la3, lc3, ma3, mc3, ⟨no3, sz3, ls3, ms3, en3, sq3⟩⟩ w4.heap.size 1 (heap_alloc_new w4 _)
            have HFTS := hide (show ∀ y ∈ R ++ [⟨la3, lc3, ma3, mc3, ⟨no3, sz3, ls3, ms3, en3, sq3⟩⟩], FT w' w0.heap.size y from fun y hy => by
              have hS : ∀ k, ra = some ⟨k, 0, none⟩ → w0.heap.size ≤ k → ∀ cs z, ¬ (w4.alloc (.cells (Tf.cells ⟨la3, lc3, ma3, mc3, ⟨no3, sz3, ls3, ms3, en3, sq3⟩⟩).toArray 37)).heap[k]? = some (.cells cs 5 z) := fun k e _ cs z hz => (HRO.out.keep (T4.out.alloc _) fun _ _ x => x).ne hz (by decide) k e rfl
              rcases List.mem_append.1 hy with h | h
              · exact ((HFS.out y h).quiet (T4.out.alloc _)).keep ht' hS
              · rw [List.mem_singleton.1 h]; exact (HFT.out.quiet ((Turns.refl _ _).alloc _)).keep ht' hS)
            have HT5 := hide (turns_in (HB0.out.trans (T4.out.alloc _)) rfl (HRO.out.keep (T4.out.alloc _) fun _ _ x => x) ht')
            rw [← HRN.out] at hr
            have HR5 := hide hr
            have HN5 := hide hn'
            have HRO5 := hide hro'
            clear hr hn' hro' ht'
            unfold Tf.agg at *
            simp only [Tf.cells, Tf.lv, Tf.mv] at *
            go_wp2_with (at_builtin; refine wpList_append_run rfl _ _ 50 rfl (.slice ra rn rc) (.slice (some ⟨w4.heap.size, 0, none⟩) 1 1) rfl rfl _ _ (HR5.out _) ?_)
            go_roundw
            case rel =>
              refine ⟨k + 1, a', n', c', _, by go_num, rfl, by omega, HN5.out, HRO5.out, ?_, HFTS.out, HT5.out⟩
              rw [HTK.out, List.filter_append, ← HFL.out]
              simp only [fls, List.map_append, List.map_cons, List.map_nil, List.filter_cons, HOV.out, if_true, List.filter_nil]
              rw [HYF.out]
            case measure => simp [intOf]; omega
          · have hMi : ¬ (n2 : Int) = 0 := by omega
            have HM := hide hM
            clear hM
            by_cases hD : cmpB most ls < 0
            · rw [show decide (cmpB most ls < 0) = true by simpa using hD] at CB2
              have HD := hide hD
              clear hD r2
              go_wp2_with fail
              refine (CB2.out _ T2.out).mono ?_
              rintro e w3 ⟨rfl, t3⟩
              have T3 := hide (T2.out.trans t3)
              clear t3
              have HOV := hide (show overF least most ⟨no, sz, ls, ms, en, sq⟩ = false by have := HA.out; have := HM.out; have := HML.out; have := HD.out; have := HS1.out; show (decide (0 ≤ cmpB ms least) && (decide (most.length = 0) || decide (cmpB ls most ≤ 0))) = false; rw [decide_eq_false (show ¬ most.length = 0 by omega), decide_eq_false (show ¬ cmpB ls most ≤ 0 by omega)]; simp)
              go_wp2_with fail
              go_roundw
              case rel =>
                refine ⟨k + 1, ra, rn, rc, R, by go_num, rfl, by omega, HRN.out, HRO.out.keep T3.out fun _ _ x => x, ?_, fun y hy => (HFS.out y hy).quiet T3.out, HB0.out.trans T3.out⟩
                rw [HTK.out, List.filter_append, ← HFL.out]
                simp [HOV.out]
              case measure => simp [intOf]; omega
            · rw [show decide (cmpB most ls < 0) = false by simpa using hD] at CB2
              have HD := hide hD
              clear hD
              go_wp2_with fail
              refine (CB2.out _ T2.out).mono ?_
              rintro e w3 ⟨rfl, t3⟩
              have T3 := hide (T2.out.trans t3)
              have r3 := t3.heap r2 (fun x => x)
              have e0 := cell_of_row w3 wr.heap.size 0 _ 37 (0, 0) r3
              have e1 := cell_of_row w3 wr.heap.size 1 _ 37 (0, 0) r3
              have e2 := cell_of_row w3 wr.heap.size 2 _ 37 (0, 0) r3
              have e3 := cell_of_row w3 wr.heap.size 3 _ 37 (0, 0) r3
              have e4 := cell_of_row w3 wr.heap.size 4 _ 37 (0, 0) r3
              have e5 := cell_of_row w3 wr.heap.size 5 _ 37 (0, 0) r3
              clear t3 r3 r2
              have HOV := hide (show overF least most ⟨no, sz, ls, ms, en, sq⟩ = true by have := HA.out; have := HM.out; have := HML.out; have := HD.out; have := HS1.out; rw [HOF.out]; simp; omega)
              go_wp2_with fail
              refine (CO.out _ T3.out).mono ?_
              rintro e w4 ⟨y', rfl, hyf, hft, t4⟩
              have HYF := hide hyf
              have T4 := hide (T3.out.trans t4)
              have HFT := hide (hft.mono (show w0.heap.size ≤ w3.heap.size from Nat.le_trans HB0.out.size (T3.out).size))
              clear hyf hft t4
              obtain ⟨la3, lc3, ma3, mc3, ⟨no3, sz3, ls3, ms3, en3, sq3⟩⟩ := y'
              obtain ⟨a', n', c', w', hr, hn', hro', ht', _⟩ := append_fl (w4.alloc (.cells (Tf.cells ⟨la3, lc3, ma3, mc3, ⟨no3, sz3, ls3, ms3, en3, sq3⟩⟩).toArray 37)) w0.heap.size ra rc R (HRO.out.keep (T4.out.alloc _) fun _ _ x => x) (Nat.le_trans HB0.out.size (T4.out.alloc (.cells (Tf.cells ⟨la3, lc3, ma3, mc3, ⟨no3, sz3, ls3, ms3, en3, sq3⟩⟩).toArray 37)).size) (by have := HRL.out; omega) ⟨la3, lc3, ma3, mc3, ⟨no3, sz3, ls3, ms3, en3, sq3⟩⟩ w4.heap.size 1 (heap_alloc_new w4 _)
              have HFTS := hide (show ∀ y ∈ R ++ [⟨la3, lc3, ma3, mc3, ⟨no3, sz3, ls3, ms3, en3, sq3⟩⟩], FT w' w0.heap.size y from fun y hy => by
                have hS : ∀ k, ra = some ⟨k, 0, none⟩ → w0.heap.size ≤ k → ∀ cs z, ¬ (w4.alloc (.cells (Tf.cells ⟨la3, lc3, ma3, mc3, ⟨no3, sz3, ls3, ms3, en3, sq3⟩⟩).toArray 37)).heap[k]? = some (.cells cs 5 z) := fun k e _ cs z hz => (HRO.out.keep (T4.out.alloc _) fun _ _ x => x).ne hz (by decide) k e rfl
                rcases List.mem_append.1 hy with h | h
                · exact ((HFS.out y h).quiet (T4.out.alloc _)).keep ht' hS
                · rw [List.mem_singleton.1 h]; exact (HFT.out.quiet ((Turns.refl _ _).alloc _)).keep ht' hS)
              have HT5 := hide (turns_in (HB0.out.trans (T4.out.alloc _)) rfl (HRO.out.keep (T4.out.alloc _) fun _ _ x => x) ht')
              rw [← HRN.out] at hr
              have HR5 := hide hr
              have HN5 := hide hn'
              have HRO5 := hide hro'
              clear hr hn' hro' ht'
              unfold Tf.agg at *
              simp only [Tf.cells, Tf.lv, Tf.mv] at *
              go_wp2_with (at_builtin; refine wpList_append_run rfl _ _ 50 rfl (.slice ra rn rc) (.slice (some ⟨w4.heap.size, 0, none⟩) 1 1) rfl rfl _ _ (HR5.out _) ?_)
              go_roundw
              case rel =>
                refine ⟨k + 1, a', n', c', _, by go_num, rfl, by omega, HN5.out, HRO5.out, ?_, HFTS.out, HT5.out⟩
                rw [HTK.out, List.filter_append, ← HFL.out]
                simp only [fls, List.map_append, List.map_cons, List.map_nil, List.filter_cons, HOV.out, if_true, List.filter_nil]
                rw [HYF.out]
              case measure => simp [intOf]; omega
      · obtain rfl : k = XL := by omega
        have htk : xl.take k = xl := List.take_of_length_le (by have := HXL.out; omega)
        rw [htk] at HFL
        clear htk
        go_wp2_with fail
        go_ret
        have hsz := HSZ.out
        have hpp := HP.out
        refine ⟨ra, rn, rc, R, rfl, HRN.out, ?_, by rw [HFL.out, HFF.out], fun y hy => (HFS.out y hy).mono (by omega), HB.out⟩
        exact HRO.out.mono (by omega)
  · rw [Bool.not_eq_true] at hg
    have RR := hide (Z0.out (.inr hg))
    have hgz : z < 0 ∨ 5 ≤ z := by unfold goodLev at hg; simp at hg; omega
    clear hg hw
    generalize filesF (flL L) next seq log z = CV at *
    by_cases hz : z < 0
    · clear hgz
      go_enter Try.func23, Try.ntmps23
      go_wp2_with fail
      refine CK.out.mono ?_
      rintro e w1 ⟨rfl, t1⟩
      have T1 := hide (TA.out.trans t1)
      clear t1
      go_wp2_with fail
      go_ret
      exact ⟨none, 0, 0, [], rfl, rfl, (RR.out w1).1, (RR.out w1).2, fun y hy => absurd hy (by simp), T1.out⟩
    · have hz5 : 5 ≤ z := by omega
      clear hgz
      go_enter Try.func23, Try.ntmps23
      go_wp2_with fail
      refine CK.out.mono ?_
      rintro e w1 ⟨rfl, t1⟩
      have T1 := hide (TA.out.trans t1)
      clear t1
      go_wp2_with fail
      go_ret
      exact ⟨none, 0, 0, [], rfl, rfl, (RR.out w1).1, (RR.out w1).2, fun y hy => absurd hy (by simp), T1.out⟩
end Go.Proofs.Ytmmcikbedegigaa

/-
  The document's Deepest.
-/
namespace Go.Proofs.Ytmmcikbedegigaa
open Go.RowKit
set_option maxRecDepth 100000
set_option maxHeartbeats 4000000
theorem filesF_of {LL : List (List Fl)} {next seq log : Nat} {t : Nat} {l : List Fl} (h : wrongVF LL next seq log = false) (hl : LL[t]? = some l) : filesF LL next seq log (t : Int) = l := by
  have h5 := len_of_ok h
  have ht := (List.getElem?_eq_some_iff.1 hl).1
  unfold filesF
  rw [h, show goodLev (t : Int) = true by unfold goodLev; simp; omega]
  simp [List.getD, hl]
theorem deep_true {LL : List (List Fl)} {next seq log : Nat} {z : Int} {least most : List (BitVec 8)} (h : 0 ≤ z → ∀ t : Nat, z < (t : Int) → t < 5 → (filesF LL next seq log (t : Int)).filter (overF least most) = []) : deepF LL next seq log z least most = true := by
  unfold deepF
  by_cases hz : z < 0
  · simp [hz]
  by_cases hw : wrongVF LL next seq log = true
  · simp [hw]
  rw [Bool.not_eq_true] at hw
  have h5 := len_of_ok hw
  have : (LL.zipIdx.any fun p => decide (z < (p.2 : Int)) && p.1.any (overF least most)) = false := by
    rw [List.any_eq_false]
    rintro ⟨l, t⟩ hp hq
    simp only [Bool.and_eq_true, decide_eq_true_eq] at hq
    have hl := List.mem_zipIdx_iff_getElem?.1 hp
    have ht := (List.getElem?_eq_some_iff.1 hl).1
    have h1 := h (by omega) t hq.1 (by omega)
    rw [filesF_of hw hl] at h1
    obtain ⟨f, hf, hof⟩ := List.any_eq_true.1 hq.2
    have : f ∈ l.filter (overF least most) := List.mem_filter.2 ⟨hf, hof⟩
    rw [h1] at this
    simp at this
  simp [this]
theorem deep_false {LL : List (List Fl)} {next seq log : Nat} {z : Int} {least most : List (BitVec 8)} (hz : 0 ≤ z) {t : Nat} (ht : z < (t : Int)) (h : (filesF LL next seq log (t : Int)).filter (overF least most) ≠ []) : deepF LL next seq log z least most = false := by
  have hw : wrongVF LL next seq log = false := by
    rw [← Bool.not_eq_true]
    intro q
    rw [filesF_bad (.inl q)] at h
    exact h rfl
  have hg : goodLev (t : Int) = true := by
    rw [← Bool.not_eq_false]
    intro q
    rw [filesF_bad (.inr q)] at h
    exact h rfl
  have h5 := len_of_ok hw
  have ht5 : t < 5 := by unfold goodLev at hg; simp at hg; omega
  obtain ⟨l, hl⟩ : ∃ l, LL[t]? = some l := ⟨_, List.getElem?_eq_getElem (by omega)⟩
  rw [filesF_of hw hl] at h
  unfold deepF
  have : (LL.zipIdx.any fun p => decide (z < (p.2 : Int)) && p.1.any (overF least most)) = true := by
    rw [List.any_eq_true]
    refine ⟨(l, t), List.mem_zipIdx_iff_getElem?.2 hl, ?_⟩
    simp only [Bool.and_eq_true, decide_eq_true_eq]
    refine ⟨ht, ?_⟩
    rw [List.any_eq_true]
    obtain ⟨f, hf⟩ := List.exists_mem_of_ne_nil _ h
    exact ⟨f, (List.mem_filter.1 hf).1, (List.mem_filter.1 hf).2⟩
  simp [this, hw]
  omega
theorem rDeepest_any (a : Option Addr) (n c next seq log : Nat) (L : List Lv) (z : Int) (a1 : Option Addr) (n1 c1 : Nat) (a2 : Option Addr) (n2 c2 : Nat) (least most : List (BitVec 8)) (w : World) (h : VerIn w a n L next seq log) (b1 : Bytes w (.slice a1 n1 c1) least) (b2 : Bytes w (.slice a2 n2 c2) most) (m1 : n1 ≤ 1000000) (m2 : n2 ≤ 1000000) :
    Calls Try.prog 25 #[verAgg a n c next seq log, .int .i64 z, .slice a1 n1 c1, .slice a2 n2 c2] w fun e w' => e = .returned (.bool (deepF (flL L) next seq log z least most)) ∧ Turns (fun _ => False) w w' := by
  have TA := hide ((Turns.refl (fun _ => False) w).alloc (.cells #[.slice a n c, .int .u64 (next : Nat), .int .u64 (seq : Nat), .int .u64 (log : Nat)] 25))
  have R0 := hide (heap_alloc_new w (.cells #[.slice a n c, .int .u64 (next : Nat), .int .u64 (seq : Nat), .int .u64 (log : Nat)] 25))
  have CO := hide (fun (u : World) (t : Turns (fun _ => False) w u) (q : Int) => rOverlap_any a n c next seq log L q a1 n1 c1 a2 n2 c2 least most u (h.quiet t) (b1.quiet t) (b2.quiet t) m1 m2)
  have HDT := hide (fun q => show Value.bool true = .bool (deepF (flL L) next seq log z least most) by rw [deep_true (LL := flL L) (next := next) (seq := seq) (log := log) (z := z) (least := least) (most := most) q])
  have HDF := hide (fun (hz : 0 ≤ z) (t : Nat) (ht : z < (t : Int)) (q : (filesF (flL L) next seq log (t : Int)).filter (overF least most) ≠ []) => show Value.bool false = .bool (deepF (flL L) next seq log z least most) by rw [deep_false hz ht q])
  obtain ⟨k0, hk0⟩ : ∃ k0 : Nat, min 5 (max 0 z) + 1 = (k0 : Int) := ⟨(min 5 (max 0 z) + 1).toNat, by omega⟩
  have HK0 := hide hk0
  have hk6 : k0 ≤ 6 := by omega
  unfold verAgg at *
  clear h b1 b2 hk0
  generalize deepF (flL L) next seq log z least most = CV at *
  go_enter Try.func25, Try.ntmps25
  go_wp2_with fail
  generalize w.alloc (.cells #[.slice a n c, .int .u64 (next : Nat), .int .u64 (seq : Nat), .int .u64 (log : Nat)] 25) = w0 at *
  generalize w.heap.size = P at *
  go_loopw [9] (fun i wr => ∃ k : Nat, i = .int .i64 (k : Nat) ∧ k0 ≤ k ∧ k ≤ 6 ∧ (0 ≤ z → ∀ t : Nat, k0 ≤ t → t < k → (filesF (flL L) next seq log (t : Int)).filter (overF least most) = []) ∧ Turns (fun _ => False) w0 wr) (fun i _ => 6 - (intOf i).toNat)
  case atStart => exact ⟨k0, by rw [HK0.out], Nat.le_refl _, hk6, fun _ t h1 h2 => absurd h1 (by omega), Turns.refl _ _⟩
  case round =>
    obtain ⟨k, rfl, hk, hk', hall, hb⟩ := hrel
    have HB := hide (TA.out.trans hb)
    have HB0 := hide hb
    have HALL := hide hall
    have v0 : wr.cell? ⟨P, 0, none⟩ = some (.slice a n c) := hb.cell (cell_of_row w0 P 0 _ 25 (0, 0) R0.out) (fun x => x)
    have v1 : wr.cell? ⟨P, 1, none⟩ = some (.int .u64 (next : Nat)) := hb.cell (cell_of_row w0 P 1 _ 25 (0, 0) R0.out) (fun x => x)
    have v2 : wr.cell? ⟨P, 2, none⟩ = some (.int .u64 (seq : Nat)) := hb.cell (cell_of_row w0 P 2 _ 25 (0, 0) R0.out) (fun x => x)
    have v3 : wr.cell? ⟨P, 3, none⟩ = some (.int .u64 (log : Nat)) := hb.cell (cell_of_row w0 P 3 _ 25 (0, 0) R0.out) (fun x => x)
    clear hb hall
    by_cases hk5 : k < 5
    · have i5 : (k : Int) < 5 := by omega
      by_cases hz : 0 ≤ z
      · have HZ := hide hz
        have HKZ := hide (show z < (k : Int) by have := HK0.out; omega)
        go_wp2_with fail
        refine (CO.out _ HB.out _).mono ?_
        rintro e w1 ⟨xa, xn, xc, R, rfl, hxn, _, hfl, _, t1⟩
        have T1 := hide t1
        have HXN := hide hxn
        have HFL := hide hfl
        clear t1 hxn hfl v0 v1 v2 v3
        by_cases hx0 : xn = 0
        · subst hx0
          go_wp2_with fail
          go_roundw
          case rel =>
            refine ⟨k + 1, by go_num, by omega, by omega, fun hz t h1 h2 => ?_, HB0.out.trans T1.out⟩
            rcases Nat.lt_or_ge t k with h | h
            · exact HALL.out hz t h1 h
            · obtain rfl : t = k := by omega
              rw [← HFL.out]
              have := HXN.out
              cases R with
              | nil => rfl
              | cons x r => simp at this
          case measure => simp [intOf]; omega
        · have hx1 : (0 : Int) < (xn : Int) := by omega
          have HV := hide (HDF.out HZ.out k HKZ.out (by
            rw [← HFL.out]
            intro q
            have h1 := congrArg List.length q
            have h2 := HXN.out
            simp only [fls, List.length_map, List.length_nil] at h1
            omega))
          go_wp2_with fail
          go_ret
          exact ⟨congrArg Ending.returned HV.out, HB.out.trans T1.out⟩
      · go_wp2_with fail
        go_roundw
        case rel => exact ⟨k + 1, by go_num, by omega, by omega, fun hz' => absurd hz' hz, HB0.out⟩
        case measure => simp [intOf]; omega
    · have i5 : ¬ (k : Int) < 5 := by omega
      have HV := hide (HDT.out (fun hz t h1 h2 => HALL.out hz t (by have := HK0.out; omega) (by omega)))
      clear hk5
      go_wp2_with fail
      go_ret
      exact ⟨congrArg Ending.returned HV.out, HB.out⟩
end Go.Proofs.Ytmmcikbedegigaa
