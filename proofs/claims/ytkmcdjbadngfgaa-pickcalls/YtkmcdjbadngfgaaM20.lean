import Derived.Test.YtkmcdjbadngfgaaM19
import Derived.Test.YtkmcdjbadngfgaaM17
import Derived.Deep.LoopGhost
/-
  What is put together of a level, as the document says.
-/
namespace Go.Proofs.Ytkmcdjbadngfgaa
open Go.RowKit
set_option maxRecDepth 100000
set_option maxHeartbeats 4000000
theorem ends_of {R : List Tf} {x : Tf} (h : R[0]? = some x) : loF (fls R).tail x.f.least = endLo (fls R) ∧ hiF (fls R).tail x.f.most = endHi (fls R) := by
  cases R with
  | nil => simp at h
  | cons y r => cases h; exact ⟨rfl, rfl⟩
theorem nodup_of_map {l : List Fl} (h : (l.map Fl.no).Nodup) : l.Nodup := by
  unfold List.Nodup at *
  exact (List.pairwise_map.1 h).imp fun hne e => hne (by rw [e])
theorem F6.all6 {u : World} {b o : Nat} {x : Tf} (h : F6 u b o x) : u.cell? ⟨b, o, none⟩ = some (.int .u64 (x.f.no : Nat)) ∧ u.cell? ⟨b, o + 1, none⟩ = some (.int .i64 x.f.size) ∧ u.cell? ⟨b, o + 2, none⟩ = some (.slice x.la x.f.least.length x.lc) ∧ u.cell? ⟨b, o + 3, none⟩ = some (.slice x.ma x.f.most.length x.mc) ∧ u.cell? ⟨b, o + 4, none⟩ = some (.int .i64 x.f.ents) ∧ u.cell? ⟨b, o + 5, none⟩ = some (.int .u64 (x.f.seq : Nat)) := ⟨h.c0, h.c1, h.c2, h.c3, h.c4, h.c5⟩
theorem rupper_any (b off c next seq log : Nat) (L : List Lv) (xl : Lv) (x0 : Tf) (z : Nat) (w : World) (h : VerIn w (some ⟨b, off, none⟩) 5 L next seq log) (hv : wrongVF (flL L) next seq log = false) (hz : z ≤ 3) (hx : L[z]? = some xl) (h0 : xl.l[0]? = some x0) :
    Calls Try.prog 30 #[verAgg (some ⟨b, off, none⟩) 5 c next seq log, .int .i64 (z : Nat)] w fun e w' => ∃ (ua : Option Addr) (uc : Nat) (R : List Tf), e = .returned (.slice ua R.length uc) ∧ Fils w' ua R ∧ UpP (fls xl.l) (z : Nat) (endLo (fls R)) (endHi (fls R)) ∧ fls R = (fls xl.l).filter (overF (endLo (fls R)) (endHi (fls R))) ∧ (∃ x, R[0]? = some x) ∧ Turns (fun _ => False) w w' := by
  have HVI := hide h
  obtain ⟨⟨b', off', eab, hcell⟩, hfi⟩ := h.levs z xl hx
  cases eab
  have HW := hide (levels_ok hv (flL_at hx)).1
  have HO := hide (levels_ok hv (flL_at hx)).2
  have HND := hide (level_nodup hv (flL_at hx))
  have HKEY := hide (show ∀ y ∈ xl.l, y.f.least.length ≤ 1000000 ∧ y.f.most.length ≤ 1000000 from fun y hy => by
    have := wrongF_false (HW.out y.f (List.mem_map.2 ⟨y, hy, rfl⟩)); omega)
  have HFZ := hide (fun (h : z = 0) => show filesF (flL L) next seq log ((0 : Nat) : Int) = fls xl.l by subst h; exact files_at0 hv (by decide) (flL_at hx))
  have hcl := cnt_take hx
  have hcl2 := cnt_take_le L (z + 1)
  have hcl3 := h.cnt
  have TA := hide ((Turns.refl (fun _ => False) w).alloc (.cells #[.slice (some ⟨b, off, none⟩) 5 c, .int .u64 (next : Nat), .int .u64 (seq : Nat), .int .u64 (log : Nat)] 25))
  have R0 := hide (heap_alloc_new w (.cells #[.slice (some ⟨b, off, none⟩) 5 c, .int .u64 (next : Nat), .int .u64 (seq : Nat), .int .u64 (log : Nat)] 25))
  have hc1 := TA.out.cell hcell (fun x => x)
  have HF := hide hfi
  have H0 := hide h0
  obtain ⟨xb, xo, hxa, h6, hfb⟩ := fc_of hfi h0
  rw [Nat.zero_mul, Nat.add_zero] at h6
  have Y6 := hide (fun (u : World) (tu : Turns (fun _ => False) w u) => (h6.quiet tu).c0)
  have h6' := h6.quiet TA.out
  have hlen := (List.getElem?_eq_some_iff.1 h0).1
  obtain ⟨xa, xc, ll⟩ := xl
  simp only at *
  subst hxa
  have hz3 : (z : Int) ≤ 3 := by omega
  have hz0 : (0 : Int) ≤ z := by omega
  have hz5 : (z : Int) < 5 := by omega
  clear hcell hfi hx h0 h hv hz h6 hfb
  generalize hN : ll.length = n at *
  have HLN := hide hN
  clear hN
  have hnn : 1 ≤ n := by omega
  have hn0 : (0 : Int) < n := by omega
  have hmx : (n : Int) ≤ 5000 := by omega
  clear hcl hcl2 hcl3 hlen
  obtain ⟨la0, lc0, ma0, mc0, ⟨no0, sz0, ls0, ms0, en0, sq0⟩⟩ := x0
  obtain ⟨y0, y1, y2, y3, y4, y5⟩ := h6'
  simp only at *
  unfold verAgg
  go_enter Try.func30, Try.ntmps30
  go_wp2_with fail
  obtain ⟨w1, hw1⟩ : ∃ u, u = (w.alloc (.cells #[.slice (some ⟨b, off, none⟩) 5 c, .int .u64 (next : Nat), .int .u64 (seq : Nat), .int .u64 (log : Nat)] 25)).alloc (.cells #[.int .u64 (no0 : Nat), .int .i64 sz0, .slice la0 ls0.length lc0, .slice ma0 ms0.length mc0, .int .i64 en0, .int .u64 (sq0 : Nat)] 29) := ⟨_, rfl⟩
  rw [← hw1]
  have T1 := hide (show Turns (fun _ => False) w w1 by rw [hw1]; exact TA.out.alloc _)
  have RG := hide (show w1.heap[w.heap.size + 1]? = some (.cells (Tf.cells ⟨la0, lc0, ma0, mc0, ⟨no0, sz0, ls0, ms0, en0, sq0⟩⟩).toArray 29 (0, 0)) by rw [hw1, ← World.size_alloc]; exact heap_alloc_new _ _)
  have RP := hide (show w1.heap[w.heap.size]? = some (.cells #[.slice (some ⟨b, off, none⟩) 5 c, .int .u64 (next : Nat), .int .u64 (seq : Nat), .int .u64 (log : Nat)] 25 (0, 0)) by rw [hw1]; exact ((Turns.refl (fun _ => False) _).alloc _).heap R0.out (fun x => x))
  clear hw1 y0 y1 y2 y3 y4 y5 R0 TA hc1
  generalize hP : w.heap.size = P at *
  have HP := hide hP
  clear hP
  obtain ⟨G, hG⟩ : ∃ g, g = P + 1 := ⟨_, rfl⟩
  rw [← hG] at RG ⊢
  have HG := hide hG
  clear hG
  go_loopw [7] (fun i wr => ∃ (k j : Nat) (y : Tf), i = .int .i64 (k : Nat) ∧ k ≤ n ∧ ll[j]? = some y ∧ (∀ (q : Nat) (z : Tf), q < k → ll[q]? = some z → y.f.no ≤ z.f.no) ∧ wr.heap[G]? = some (.cells y.cells.toArray 29 (0, 0)) ∧ Turns (fun j => j = G) w1 wr) (fun i _ => n - (intOf i).toNat)
  case atStart => exact ⟨1, 0, ⟨la0, lc0, ma0, mc0, ⟨no0, sz0, ls0, ms0, en0, sq0⟩⟩, rfl, hnn, H0.out, fun q z hq hz => by
      obtain rfl : q = 0 := by omega
      rw [H0.out] at hz; cases hz; exact Nat.le_refl _, RG.out, Turns.refl _ _⟩
  case round =>
    obtain ⟨k, j, m, rfl, hk, hj, hmin, hrow, htr⟩ := hrel
    have HJ := hide hj
    have HMIN := hide hmin
    have HROW := hide hrow
    have HTR := hide htr
    have HT := hide (show Turns (fun _ => False) w wr from T1.out.andThen htr fun j hj e => by have := HG.out; have := HP.out; omega)
    clear hj hmin hrow htr
    by_cases hkn : k < n
    · obtain ⟨y, hy⟩ : ∃ y, ll[k]? = some y := ⟨_, List.getElem?_eq_getElem (by have := HLN.out; omega)⟩
      obtain ⟨bb, oo, hbo, h6, hfb⟩ := fc_of (HF.out.quiet HT.out) hy
      cases hbo
      have HY := hide hy
      have i1 : (k : Int) < n := by omega
      have i0 : (0 : Int) ≤ k := by omega
      clear hfb hy
      obtain ⟨la, lc, ma, mc, ⟨no, sz, ls, ms, en, sq⟩⟩ := y
      obtain ⟨la2, lc2, ma2, mc2, ⟨no2, sz2, ls2, ms2, en2, sq2⟩⟩ := m
      have HQ6 := hide (fun (u : World) (tu : Turns (fun _ => False) wr u) => (h6.quiet tu).all6)
      obtain ⟨y0, y1, y2, y3, y4, y5⟩ := h6
      simp only [Tf.cells, Tf.lv, Tf.mv] at HROW
      simp only at *
      generalize hL1 : ls.length = L1 at *
      generalize hL2 : ms.length = L2 at *
      have HL1 := hide hL1
      have HL2 := hide hL2
      clear hL1 hL2
      have g0 := cell_of_row wr G 0 _ 29 (0, 0) HROW.out
      by_cases hlt : no < no2
      · have hli : (no : Int) < no2 := by omega
        have HLT := hide hlt
        clear hlt
        go_upto_region 6 with (fail)
        go_quiet (fail)
        have hrow := (show (World.drewN wr nq).heap[G]? = some _ from HROW.out)
        obtain ⟨y0', y1', y2', y3', y4', y5'⟩ := HQ6.out (World.drewN wr nq) ((Turns.refl _ _).drewN _)
        clear y0 y1 y2 y3 y4 y5 g0
        go_wp2_with (refine wpList_store_row rfl 29 _ _ rfl _ _ rfl rfl _ _ hrow ?_ ?_ ?_ ?_; (exact sz37); (simp only [List.size_toArray, List.length_cons, List.length_nil]); (simp [Value.oneCell']))
        have HSET := hide (setRow_heap _ G _ #[.int .u64 (no : Nat), .int .i64 sz, .slice la L1 lc, .slice ma L2 mc, .int .i64 en, .int .u64 (sq : Nat)] _ _ hrow)
        have HTS := hide (turns_setRow (World.drewN wr nq) G #[.int .u64 (no : Nat), .int .i64 sz, .slice la L1 lc, .slice ma L2 mc, .int .i64 en, .int .u64 (sq : Nat)])
        clear hrow
        generalize (World.drewN wr nq).setRow G #[.int .u64 (no : Nat), .int .i64 sz, .slice la L1 lc, .slice ma L2 mc, .int .i64 en, .int .u64 (sq : Nat)] = V2 at *
        go_wp2_with fail
        go_roundw
        case rel =>
          refine ⟨k + 1, k, ⟨la, lc, ma, mc, ⟨no, sz, ls, ms, en, sq⟩⟩, by go_num, by omega, HY.out, fun q u hq hu => ?_, ?_, (HTR.out.drewN nq).trans HTS.out⟩
          · rcases Nat.lt_or_ge q k with h | h
            · have := HMIN.out q u h hu
              exact Nat.le_trans (Nat.le_of_lt HLT.out) this
            · obtain rfl : q = k := by omega
              rw [HY.out] at hu; cases hu; exact Nat.le_refl _
          · simp only [Tf.cells, Tf.lv, Tf.mv, HL1.out, HL2.out]; exact HSET.out
        case measure => simp [intOf]; omega
      · have hli : ¬ (no : Int) < no2 := by omega
        have HLT := hide (show no2 ≤ no by omega)
        clear hlt
        go_upto_region 6 with (fail)
        go_quiet (fail)
        go_wp2_with fail
        go_roundw
        case rel =>
          refine ⟨k + 1, j, ⟨la2, lc2, ma2, mc2, ⟨no2, sz2, ls2, ms2, en2, sq2⟩⟩, by go_num, by omega, HJ.out, fun q u hq hu => ?_, ?_, HTR.out.drewN _⟩
          · rcases Nat.lt_or_ge q k with h | h
            · exact HMIN.out q u h hu
            · obtain rfl : q = k := by omega
              rw [HY.out] at hu; cases hu; exact HLT.out
          · simp only [Tf.cells, Tf.lv, Tf.mv]; exact HROW.out
        case measure => simp [intOf]; omega
    · obtain rfl : k = n := by omega
      have HMA := hide (show ∀ z ∈ ll, m.f.no ≤ z.f.no from fun z hz => by
        obtain ⟨q, hq⟩ := List.getElem?_of_mem hz
        exact HMIN.out q z (by have := HLN.out; have := (List.getElem?_eq_some_iff.1 hq).1; omega) hq)
      have HMM := hide (List.mem_of_getElem? HJ.out)
      have HBF := hide (show FB w m from (HF.out j m HJ.out).2)
      have HME := hide (show z = 0 → m = (⟨la0, lc0, ma0, mc0, ⟨no0, sz0, ls0, ms0, en0, sq0⟩⟩ : Tf) from fun hz => by
        rcases Nat.eq_zero_or_pos j with hj | hj
        · have := HJ.out
          rw [hj, H0.out] at this
          cases this
          rfl
        · exfalso
          have ho := HO.out
          rw [hz] at ho
          have h1 := asc0 ho (j - 1) 0 _ _ (fls_at H0.out) (by rw [show 0 + (j - 1) + 1 = j by omega]; exact fls_at HJ.out)
          have h2 := HMIN.out 0 _ (by omega) H0.out
          simp only at h1 h2
          omega)
      have hrow := HROW.out
      have HT := hide HT.out
      clear HROW HMIN
      have HCELL := hide (show m.cells = m.cells from rfl)
      obtain ⟨la2, lc2, ma2, mc2, ⟨no2, sz2, ls2, ms2, en2, sq2⟩⟩ := m
      simp only [Tf.cells, Tf.lv, Tf.mv] at hrow
      clear HCELL
      have HROW2 := hide hrow
      have c0 := cell_of_row wr G 0 _ 29 (0, 0) hrow
      have c1 := cell_of_row wr G 1 _ 29 (0, 0) hrow
      have c2 := cell_of_row wr G 2 _ 29 (0, 0) hrow
      have c3 := cell_of_row wr G 3 _ 29 (0, 0) hrow
      have c4 := cell_of_row wr G 4 _ 29 (0, 0) hrow
      have c5 := cell_of_row wr G 5 _ 29 (0, 0) hrow
      clear hrow
      obtain ⟨w2, hw2⟩ : ∃ u, u = wr.alloc (.cells #[.int .u64 (no2 : Nat), .int .i64 sz2, .slice la2 ls2.length lc2, .slice ma2 ms2.length mc2, .int .i64 en2, .int .u64 (sq2 : Nat)] 29) := ⟨_, rfl⟩
      have T2 := hide (show Turns (fun _ => False) wr w2 by rw [hw2]; exact (Turns.refl _ _).alloc _)
      have HF1 := hide (fils_lit (R := [⟨la2, lc2, ma2, mc2, ⟨no2, sz2, ls2, ms2, en2, sq2⟩⟩]) (show w2.heap[wr.heap.size]? = some (.cells (flCells [⟨la2, lc2, ma2, mc2, ⟨no2, sz2, ls2, ms2, en2, sq2⟩⟩]).toArray 29 (0, 0)) by rw [hw2]; exact heap_alloc_new wr _) (fun x hx => by
        simp only [List.mem_cons, List.not_mem_nil, or_false] at hx
        rcases hx with rfl
        exact HBF.out.quiet (HT.out.trans T2.out)))
      have HT2 := hide (HT.out.trans T2.out)
      have RP2 := hide (T2.out.heap (HTR.out.heap RP.out (by have := HG.out; omega)) (fun x => x))
      by_cases z0 : z = 0
      · have e := HME.out z0
        cases e
        have HFZ' := hide (show filesF (flL L) next seq log (0 : Int) = fls ll from HFZ.out z0)
        have HZ0 := hide z0
        have z1 : ¬ (0 : Int) < z := by omega
        have HW2 := hide hw2
        have H0F := hide (fls_at H0.out)
        clear hw2 z0 HMA HMM HME HBF c0 c1 c2 c3 c4 c5
        have c0 := cell_of_row wr G 0 _ 29 (0, 0) HROW2.out
        have c1 := cell_of_row wr G 1 _ 29 (0, 0) HROW2.out
        have c2 := cell_of_row wr G 2 _ 29 (0, 0) HROW2.out
        have c3 := cell_of_row wr G 3 _ 29 (0, 0) HROW2.out
        have c4 := cell_of_row wr G 4 _ 29 (0, 0) HROW2.out
        have c5 := cell_of_row wr G 5 _ 29 (0, 0) HROW2.out
        go_wp2_with fail
        rw [← HW2.out]
        clear HW2 c0 c1 c2 c3 c4 c5
        generalize hx0 : (⟨la0, lc0, ma0, mc0, ⟨no0, sz0, ls0, ms0, en0, sq0⟩⟩ : Tf) = X0 at *
        have HF0 := hide (show X0.f = (⟨no0, sz0, ls0, ms0, en0, sq0⟩ : Fl) by rw [← hx0])
        clear hx0
        replace H0F := hide (show (fls ll)[0]? = some X0.f by rw [HF0.out]; exact H0F.out)
        go_loopg [8] k (fun m v8 ws => ∃ (ua : Option Addr) (uc : Nat) (R : List Tf), v8 = .slice ua R.length uc ∧ Fils ws ua R ∧ OutP (fls ll) X0.f (fls R) ∧ k - R.length ≤ m ∧ Turns (fun _ => False) w2 ws)
        case atStart => exact ⟨some ⟨wr.heap.size, 0, none⟩, 1, [X0], rfl, HF1.out, OutP.start H0F.out, Nat.sub_le _ _, Turns.refl _ _⟩
        case round =>
          obtain ⟨ua, uc, R, rfl, hfr, hop, hm, hts⟩ := hrel
          have HFR := hide hfr
          have HOP := hide hop
          have HM := hide hm
          have HTS := hide hts
          obtain ⟨x, hx⟩ : ∃ x, R[0]? = some x := by
            cases hR : R with
            | nil => rw [hR] at hop; exact absurd rfl hop.ne
            | cons y r => exact ⟨y, rfl⟩
          have hRn : R.length ≤ k := by
            have h1 := hop.sub.length_le
            have h2 := HLN.out
            simp only [fls, List.length_map] at h1
            omega
          have hRk : ∀ y ∈ R, y.f.least.length ≤ 1000000 ∧ y.f.most.length ≤ 1000000 := fun y hy => by
            have h1 := hop.sub.subset (List.mem_map.2 ⟨y, hy, rfl⟩ : y.f ∈ fls R)
            have := wrongF_false (HW.out _ h1)
            omega
          have EN := hide (ends_any ua R.length uc R x _ hfr rfl (by omega) hx hRk)
          have HEE := hide (ends_of hx)
          have HST := hide (hop.step HW.out)
          have HDN := hide (fun hl => hop.done HW.out H0F.out hl)
          have HRK := hide hRk
          have hri : (R.length : Int) ≤ 5000 := by omega
          have HRN := hide hRn
          clear hfr hop hm hts hx hRn hRk
          generalize hNR : R.length = NR at *
          have HNR := hide hNR
          clear hNR
          go_wp2_with fail
          refine EN.out.mono ?_
          rintro e w4 ⟨kk, rfl, hko, hlo, hhi, t4⟩
          have HT4 := hide ((HT2.out.trans HTS.out).trans t4)
          have HT4' := hide (HTS.out.trans t4)
          have hkb := hko.kb (HFR.out.quiet t4)
          have hkl : kk.lo.length ≤ 1000000 ∧ kk.hi.length ≤ 1000000 := by
            obtain ⟨x, hx, z, hz, rfl⟩ := hko
            exact ⟨(HRK.out x hx).1, (HRK.out z hz).2⟩
          rw [HEE.out.1] at hlo
          rw [HEE.out.2] at hhi
          have OV := hide (rOverlap_any (some ⟨b, off, none⟩) 5 c next seq log L 0 kk.la kk.lo.length kk.lc kk.ma kk.hi.length kk.mc kk.lo kk.hi w4 (HVI.out.quiet HT4.out) hkb.1 hkb.2 hkl.1 hkl.2)
          unfold verAgg at OV
          rw [HFZ'.out] at OV
          have HLO := hide hlo
          have HHI := hide hhi
          have p0 := cell_of_row w4 P 0 _ 25 (0, 0) (HT4'.out.heap RP2.out (fun x => x))
          have p1 := cell_of_row w4 P 1 _ 25 (0, 0) (HT4'.out.heap RP2.out (fun x => x))
          have p2 := cell_of_row w4 P 2 _ 25 (0, 0) (HT4'.out.heap RP2.out (fun x => x))
          have p3 := cell_of_row w4 P 3 _ 25 (0, 0) (HT4'.out.heap RP2.out (fun x => x))
          clear hko hlo hhi t4 hkb hkl EN
          obtain ⟨ka, kc, ja, jc, lo, hi⟩ := kk
          simp only at *
          generalize lo.length = L3 at *
          generalize hi.length = L4 at *
          go_wp2_with fail
          refine OV.out.mono ?_
          rintro e w5 ⟨xa', xn, xc', R2, rfl, hxn, hro, hfl, hft, t5⟩
          have HT5 := hide (HT4.out.trans t5)
          have HT5' := hide (HT4'.out.trans t5)
          have HF2 := hide (rows_fils ⟨hro, hfl, hft⟩)
          have HXN := hide hxn
          rw [HLO.out, HHI.out] at hfl
          have HFL := hide hfl
          have hn2 : R2.length ≤ k := by
            have h1 := fls_len hfl
            have h2 := List.length_filter_le (overF (endLo (fls R)) (endHi (fls R))) (fls ll)
            have h3 := HLN.out
            simp only [fls, List.length_map] at h1 h2
            omega
          have hxi : (xn : Int) ≤ 5000 := by omega
          have HN2 := hide hn2
          clear hro hfl hft t5 hxn hn2 OV p0 p1 p2 p3
          by_cases heq : xn = NR
          · subst heq
            go_wp2_with fail
            go_ret
            have hlen : ((fls ll).filter (overF (endLo (fls R)) (endHi (fls R)))).length = (fls R).length := by
              rw [← HFL.out]
              simp only [fls, List.length_map]
              have := HXN.out
              have := HNR.out
              omega
            obtain ⟨d1, d2⟩ := HDN.out hlen
            have e2 : fls R2 = fls R := by rw [HFL.out, ← d1]
            refine ⟨xa', xc', R2, by rw [HXN.out]; rfl, HF2.out, ?_, ?_, ?_, HT5.out⟩
            · rw [e2, show ((z : Nat) : Int) = 0 by have := HZ0.out; omega]; exact d2
            · rw [e2]; exact d1
            · cases hR : R2 with
              | nil => rw [hR] at e2; exact absurd e2.symm HOP.out.ne
              | cons y r => exact ⟨y, rfl⟩
          · have hne : ¬ (xn : Int) = NR := by omega
            go_wp2_with fail
            go_roundg (k - R2.length)
            case measure =>
              have h1 := HST.out.2.1.length_le
              rw [← HFL.out] at h1
              simp only [fls, List.length_map] at h1
              have := HXN.out
              have := HNR.out
              have := HM.out
              have := HN2.out
              omega
            case rel =>
              exact ⟨xa', xc', R2, by rw [HXN.out], HF2.out, by rw [HFL.out]; exact HST.out.1, Nat.le_refl _, HT5'.out⟩
      · have z1 : (0 : Int) < z := by omega
        have HW2 := hide hw2
        clear hw2
        go_wp2_with fail
        go_ret
        rw [← HW2.out]
        have hm : (⟨no2, sz2, ls2, ms2, en2, sq2⟩ : Fl) ∈ fls ll := List.mem_map.2 ⟨_, HMM.out, rfl⟩
        have hle := (file_le (HW.out _ hm)).1
        have h1 := (file_le (HW.out _ hm)).2.2
        refine ⟨some ⟨wr.heap.size, 0, none⟩, 1, [⟨la2, lc2, ma2, mc2, ⟨no2, sz2, ls2, ms2, en2, sq2⟩⟩], rfl, HF1.out, ?_, ?_, ⟨_, rfl⟩, HT2.out⟩
        · unfold UpP
          rw [if_neg (by omega)]
          refine ⟨_, hm, rfl, rfl, fun g hg => ?_⟩
          obtain ⟨y, hy, rfl⟩ := List.mem_map.1 hg
          exact HMA.out y hy
        · refine (filter_one (nodup_of_map HND.out) hm ?_ fun g hg hg2 => ?_).symm
          · show overF ls2 ms2 _ = true
            rw [ovF_ovK h1]; exact ovK_iff.2 ⟨hle, hle⟩
          · have hg3 : ovK ls2 ms2 g = true := by rw [← ovF_ovK h1]; exact hg2
            exact only_one z0 HO.out HW.out hm hg hg3
end Go.Proofs.Ytkmcdjbadngfgaa

/-
  Rows of files put together; which level is due, as the document says.
-/
namespace Go.Proofs.Ytkmcdjbadngfgaa
open Go.RowKit
set_option maxRecDepth 100000
set_option maxHeartbeats 4000000
theorem append_fls (w : World) (B g c : Nat) (R : List Tf) (hg : B ≤ g) (hc : R.length ≤ c) (hrw : RowC w g 29 (c * 6) (flCells R)) (hB : B ≤ w.heap.size) (b' : Option Addr) (cb : Nat) (R' : List Tf) (hlen : R.length + R'.length ≤ 1000000) (hs : Fils w b' R') :
    ∃ (g' n' c' : Nat) (w' : World), (∀ ty, (Builtin.append_ #[31, 31] ty #[.slice (some ⟨g, 0, none⟩) R.length c, .slice b' R'.length cb]).run Try.prog w = .ok (.slice (some ⟨g', 0, none⟩) n' c') w') ∧ n' = (R ++ R').length ∧ B ≤ g' ∧ n' ≤ c' ∧ RowC w' g' 29 (c' * 6) (flCells (R ++ R')) ∧ Turns (fun j => j = g) w w' := by
  have hsrc := src_of_fils (c := cb) hs
  have hbase : ((some ⟨g, 0, none⟩ : Option Addr) = none ∧ R.length = 0 ∧ c = 0 ∧ 0 < R'.length) ∨ ∃ g2, (some ⟨g, 0, none⟩ : Option Addr) = some ⟨g2, 0, none⟩ ∧ B ≤ g2 ∧ R.length ≤ c ∧ RowC w g2 29 (c * Try.t29.size) (flCells R) := .inr ⟨g, rfl, hg, hc, by rw [t37_size]; exact hrw⟩
  obtain ⟨g', cp, w', hr, hg', hrow, hb, hcp, hin, hnew, hkeep⟩ := append_gen2 (P := Try.prog) w B 31 29 Try.t29 _ Try.underlying31 info37 t37_zero rfl (some ⟨g, 0, none⟩) R.length c (flCells R) (by rw [t37_size, flCells_length]) _ R'.length _ hsrc hB hbase (by rw [t37_bytes]; omega) (by omega)
  refine ⟨g', _, cp, w', hr, by simp, hg', by simpa using hcp, ?_, ⟨hb.os, hb.tape, hb.output, hb.size, fun k hk hn => hkeep k hk fun e => hn (by cases e; rfl)⟩⟩
  rw [t37_size] at hrow
  rw [flCells_append]
  exact hrow
theorem flrow_emp (w : World) : RowC (w.alloc (.cells #[] 29)) w.heap.size 29 (0 * 6) (flCells []) := ⟨#[], heap_alloc_new _ _, by simp, fun k hk => by simp [flCells] at hk⟩
/-- Which of two that tell the greatest score it is. -/
theorem due_is {LL : List (List Fl)} {t b f : Int} (h : (dueP (scoresL LL t b f)).2 = true) {j : Nat} (hj : j < 5) (h1 : ∀ q : Nat, q < 5 → scoreP LL t b f (q : Nat) ≤ scoreP LL t b f (j : Nat)) (h2 : ∀ q : Nat, q < j → scoreP LL t b f (q : Nat) < scoreP LL t b f (j : Nat)) : (dueP (scoresL LL t b f)).1 = (j : Int) ∧ 100 ≤ scoreP LL t b f (j : Nat) := by
  obtain ⟨z, hz, s, hs, h100, hm, hlt⟩ := due_spec h
  have hz5 : z < 5 := (List.getElem?_eq_some_iff.1 hs).1
  rw [scoresL_at LL t b f z hz5] at hs
  cases hs
  have hjm := hm _ (List.mem_of_getElem? (scoresL_at LL t b f j hj))
  have hzm := h1 z hz5
  rcases Nat.lt_trichotomy z j with hzj | hzj | hzj
  · have := h2 z hzj; omega
  · subst hzj; exact ⟨hz, h100⟩
  · have := hlt j _ hzj (scoresL_at LL t b f j hj); omega
def JobR (w : World) (v : Value) (z : Int) (U LW : List Fl) (least most : List (BitVec 8)) (bot : Bool) : Prop := ∃ (ua va : Option Addr) (uc vc : Nat) (R1 R2 : List Tf) (a1 a2 : Option Addr) (c1 c2 : Nat), v = .agg #[.int .i64 z, .slice ua R1.length uc, .slice va R2.length vc, .slice a1 least.length c1, .slice a2 most.length c2, .bool bot] ∧ Fils w ua R1 ∧ fls R1 = U ∧ Fils w va R2 ∧ fls R2 = LW ∧ Bytes w (.slice a1 least.length c1) least ∧ Bytes w (.slice a2 most.length c2) most
theorem JobR.quiet {w w' : World} {v : Value} {z : Int} {U LW : List Fl} {least most : List (BitVec 8)} {bot : Bool} (h : JobR w v z U LW least most bot) (t : Turns (fun _ => False) w w') : JobR w' v z U LW least most bot := by
  obtain ⟨ua, va, uc, vc, R1, R2, a1, a2, c1, c2, e, h1, h2, h3, h4, h5, h6⟩ := h
  exact ⟨ua, va, uc, vc, R1, R2, a1, a2, c1, c2, e, h1.quiet t, h2, h3.quiet t, h4, h5.quiet t, h6.quiet t⟩
theorem JobIn.read {w : World} {B : Nat} {v : Value} {z : Int} {U LW : List Fl} {least most : List (BitVec 8)} {bot : Bool} (h : JobIn w B v z U LW least most bot) : JobR w v z U LW least most bot := by
  obtain ⟨ua, va, uc, vc, R1, R2, a1, a2, c1, c2, e, h1, h2, h3, h4⟩ := h
  exact ⟨ua, va, uc, vc, R1, R2, a1, a2, c1, c2, e, rows_fils h1, h1.2.1, rows_fils h2, h2.2.1, h3.1, h4.1⟩
def NextR (LL : List (List Fl)) (next seq log : Nat) (t b f : Int) (w : World) (v : Value) (e : Int) : Prop :=
  (((wrongVF LL next seq log || setBad t b f) = true ∧ e = 2 ∧ v = zeroJob)) ∨
  ((wrongVF LL next seq log || setBad t b f) = false ∧ (dueP (scoresL LL t b f)).2 = false ∧ e = 6 ∧ v = zeroJob) ∨
  ((wrongVF LL next seq log || setBad t b f) = false ∧ (dueP (scoresL LL t b f)).2 = true ∧ e = 0 ∧ ∃ (z : Nat) (lo hi : List (BitVec 8)) (U LW : List Fl) (least most : List (BitVec 8)) (bot : Bool), z ≤ 3 ∧ (dueP (scoresL LL t b f)).1 = (z : Int) ∧ NextJ LL next seq log z lo hi U LW least most bot ∧ JobR w v (z : Nat) U LW least most bot)
theorem NextOut.read {LL : List (List Fl)} {next seq log : Nat} {t b f : Int} {w : World} {B : Nat} {v : Value} {e : Int} (h : NextOut LL next seq log t b f w B v e) : NextR LL next seq log t b f w v e := by
  rcases h with h | h | ⟨h1, h2, h3, z, lo, hi, U, LW, le, mo, bo, h4, h5, h6, h7⟩
  · exact .inl h
  · exact .inr (.inl h)
  · exact .inr (.inr ⟨h1, h2, h3, z, lo, hi, U, LW, le, mo, bo, h4, h5, h6, h7.read⟩)
theorem NextR.quiet {LL : List (List Fl)} {next seq log : Nat} {t b f : Int} {w w' : World} {v : Value} {e : Int} (h : NextR LL next seq log t b f w v e) (tu : Turns (fun _ => False) w w') : NextR LL next seq log t b f w' v e := by
  rcases h with h | h | ⟨h1, h2, h3, z, lo, hi, U, LW, le, mo, bo, h4, h5, h6, h7⟩
  · exact .inl h
  · exact .inr (.inl h)
  · exact .inr (.inr ⟨h1, h2, h3, z, lo, hi, U, LW, le, mo, bo, h4, h5, h6, h7.quiet tu⟩)
theorem NextJ.same {LL : List (List Fl)} {next seq log z : Nat} {lo hi lo' hi' : List (BitVec 8)} {U LW U' LW' : List Fl} {le mo le' mo' : List (BitVec 8)} {bo bo' : Bool} (hv : wrongVF LL next seq log = false) (hz : z ≤ 3) (h : NextJ LL next seq log z lo hi U LW le mo bo) (h' : NextJ LL next seq log z lo' hi' U' LW' le' mo' bo') : U = U' ∧ LW = LW' ∧ le = le' ∧ mo = mo' ∧ bo = bo' := by
  obtain ⟨l, hl⟩ : ∃ l, LL[z]? = some l := ⟨_, List.getElem?_eq_getElem (by have := len_of_ok hv; omega)⟩
  have hg : LL.getD z [] = l := by rw [List.getD, hl]; rfl
  have hu := h.up
  have hu' := h'.up
  rw [hg] at hu hu'
  obtain ⟨rfl, rfl⟩ := UpP_unique hv hl hu hu'
  have e1 : U = U' := by rw [h.hU, h'.hU]
  have e2 : LW = LW' := by rw [h.hL, h'.hL]
  subst e1
  subst e2
  have e3 : le = le' := by rw [h.hl, h'.hl]
  have e4 : mo = mo' := by rw [h.hm, h'.hm]
  subst e3
  subst e4
  exact ⟨rfl, rfl, rfl, rfl, by rw [h.hb, h'.hb]⟩
end Go.Proofs.Ytkmcdjbadngfgaa
