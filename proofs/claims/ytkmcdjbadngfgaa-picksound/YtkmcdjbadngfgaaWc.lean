/-
  Overlap.
-/
import Derived.Test.YtkmcdjbadngfgaaWb
namespace Go.Proofs.Ytkmcdjbadngfgaa
open Go.RowKit
set_option maxRecDepth 100000
set_option maxHeartbeats 4000000
theorem filesF_len (L : List Lv) (next seq log : Nat) (z : Int) (h : cnt L ≤ 5000) : (filesF (flL L) next seq log z).length ≤ 5000 := by
  unfold filesF
  split
  · next hh =>
    cases hk : (flL L)[z.toNat]? with
    | none => simp [List.getD, hk]
    | some l =>
      simp only [List.getD, hk, Option.getD_some]
      simp only [flL, List.getElem?_map, Option.map_eq_some_iff] at hk
      obtain ⟨x, hx, rfl⟩ := hk
      have := cnt_take hx; have := cnt_take_le L (z.toNat + 1)
      simp only [fls, List.length_map]
      omega
  · simp
theorem overlap_any (a : Option Addr) (n c next seq log : Nat) (L : List Lv) (z : Int) (a1 : Option Addr) (n1 c1 : Nat) (a2 : Option Addr) (n2 c2 : Nat) (least most : List (BitVec 8)) (w : World) (h : VerIn w a n L next seq log) (b1 : Bytes w (.slice a1 n1 c1) least) (b2 : Bytes w (.slice a2 n2 c2) most) :
    Calls Try.prog 46 #[verAgg a n c next seq log, .int .i64 z, .slice a1 n1 c1, .slice a2 n2 c2] w fun e w' => ∃ xa xc R, e = .returned (.slice xa (List.length R) xc) ∧ RowOk w' w.heap.size xa xc R ∧ fls R = (filesF (flL L) next seq log z).filter (overF least most) ∧ (∀ y ∈ R, FT w' w.heap.size y) ∧ Turns (fun _ => False) w w' := by
  have TA := hide ((Turns.refl (fun _ => False) w).alloc (.cells #[.slice a n c, .int .u64 (next : Nat), .int .u64 (seq : Nat), .int .u64 (log : Nat)] 25))
  have R0 := hide (heap_alloc_new w (.cells #[.slice a n c, .int .u64 (next : Nat), .int .u64 (seq : Nat), .int .u64 (log : Nat)] 25))
  have CF := hide (fun (u : World) (t : Turns (fun _ => False) w u) => filesOf_any a n c next seq log L z u (h.quiet t))
  have HLN := hide (filesF_len L next seq log z h.cnt)
  have HB1 := hide b1
  have HB2 := hide b2
  unfold verAgg at *
  clear h b1 b2
  generalize filesF (flL L) next seq log z = FF at *
  go_enter Try.func46, Try.ntmps46
  go_wp2_with fail
  refine (overlaps_any a1 n1 c1 a2 n2 c2 _).mono ?_
  rintro e w1 ⟨rfl, h1, h2, t1⟩
  have H1 := hide h1
  have H2 := hide h2
  have T1 := hide (TA.out.trans t1)
  have r1 := t1.heap R0.out (fun x => x)
  have q0 := cell_of_row w1 w.heap.size 0 _ 25 (0, 0) r1
  have q1 := cell_of_row w1 w.heap.size 1 _ 25 (0, 0) r1
  have q2 := cell_of_row w1 w.heap.size 2 _ 25 (0, 0) r1
  have q3 := cell_of_row w1 w.heap.size 3 _ 25 (0, 0) r1
  clear h1 h2 t1 r1
  generalize hP : (w.alloc (.cells #[.slice a n c, .int .u64 (next : Nat), .int .u64 (seq : Nat), .int .u64 (log : Nat)] 25)).heap.size = P at *
  clear hP
  go_wp2_with fail
  refine (CF.out _ T1.out).mono ?_
  rintro e w2 ⟨xa, xn, xc, xl, rfl, hxn, hfi, hfl, hnw, t2⟩
  have HXN := hide hxn
  have HFI := hide hfi
  have HFL := hide hfl
  have HNW := hide hnw
  have T2 := hide (T1.out.trans t2)
  have G1 := hide (t2.cell H1.out (fun x => x))
  have G2 := hide (t2.cell H2.out (fun x => x))
  have HXB := hide (show xn ≤ 5000 by have h1 := HLN.out; rw [← hfl] at h1; simp only [fls, List.length_map] at h1; omega)
  have hxi : (xn : Int) ≤ 5000 := by have := HXB.out; omega
  clear hxn hfi hfl hnw t2 q0 q1 q2 q3
  go_wp2_with fail
  go_loopw [9, 20] (fun v9 i wr => ∃ (k : Nat) (R : List Tf) (ra : Option Addr) (rn rc : Nat), i = .int .i64 (k : Nat) ∧ v9 = .slice ra rn rc ∧ rn = R.length ∧ k ≤ xn ∧ rn ≤ k ∧ RowOk wr w2.heap.size ra rc R ∧ fls R = (fls (xl.take k)).filter (overF least most) ∧ (∀ y ∈ R, FT wr w2.heap.size y) ∧ Turns (fun j => w2.heap.size ≤ j) w2 wr) (fun _ i _ => xn - (intOf i).toNat)
  case atStart => exact ⟨0, [], none, 0, 0, rfl, rfl, rfl, Nat.zero_le _, Nat.le_refl _, .inl ⟨rfl, rfl, rfl⟩, by simp [fls], fun y hy => (by cases hy), Turns.refl _ _⟩
  case round =>
    obtain ⟨k, R, ra, rn, rc, rfl, rfl, hrn, hk, hrk, hro, hfr, hft, htn⟩ := hrel
    have HRN := hide hrn
    have HRK := hide hrk
    have HRO := hide hro
    have HFR := hide hfr
    have HFT := hide hft
    have HTN := hide htn
    have HTQ := hide (show Turns (fun _ => False) w2 wr from htn.mono fun j hj e => by omega)
    clear hrn hro hfr hft htn
    by_cases hkn : k < xn
    · obtain ⟨y, hy⟩ : ∃ y, xl[k]? = some y := ⟨_, List.getElem?_eq_getElem (by have := HXN.out; omega)⟩
      obtain ⟨b, off, rfl, h6, hfb⟩ := fc_of (HFI.out.quiet HTQ.out) hy
      have i1 : (k : Int) < xn := by omega
      have i0 : (0 : Int) ≤ k := by omega
      obtain ⟨_, _, _, _, _, _, _, v8, _, v10, _⟩ := wrongF_false (HNW.out y (List.mem_of_getElem? hy))
      have HNX := hide (show (fls (xl.take (k + 1))).filter (overF least most) = fls R ++ if overF least most y.f then [y.f] else [] by
        rw [HFR.out, List.take_add_one, hy]
        simp only [fls, List.map_append, Option.toList_some, List.map_cons, List.map_nil, List.filter_append]
        congr 1
        cases h : overF least most y.f <;> simp [h])
      have CO := hide (fun (u : World) (t : Turns (fun _ => False) wr u) => over1_any y P (P + 1) a1 n1 c1 a2 n2 c2 least most u (hfb.quiet t) (t.cell (HTQ.out.cell G1.out (fun x => x)) (fun x => x)) (t.cell (HTQ.out.cell G2.out (fun x => x)) (fun x => x)) (HB1.out.quiet (T2.out.trans (HTQ.out.trans t))) (HB2.out.quiet (T2.out.trans (HTQ.out.trans t))))
      have CC := hide (fun (u : World) (t : Turns (fun _ => False) wr u) => cloneF_any y u (hfb.quiet t) (by omega) (by omega))
      obtain ⟨la, lc, ma, mc, ⟨no, sz, ls, ms, en, sq⟩⟩ := y
      obtain ⟨y0, y1, y2, y3, y4, y5⟩ := h6
      unfold Tf.agg at CO CC
      simp only at *
      generalize ls.length = L1 at *
      generalize ms.length = L2 at *
      have TF := hide ((Turns.refl (fun _ => False) wr).alloc (.cells #[.int .u64 (no : Nat), .int .i64 sz, .slice la L1 lc, .slice ma L2 mc, .int .i64 en, .int .u64 (sq : Nat)] 29))
      have RF := hide (heap_alloc_new wr (.cells #[.int .u64 (no : Nat), .int .i64 sz, .slice la L1 lc, .slice ma L2 mc, .int .i64 en, .int .u64 (sq : Nat)] 29))
      clear hfb hy v8 v10
      go_wp2_with fail
      refine (CO.out _ TF.out).mono ?_
      rintro e w3 ⟨rfl, t3⟩
      have T3 := hide (TF.out.trans t3)
      have R3 := hide (t3.heap RF.out (fun x => x))
      clear t3 CO
      generalize hov : overF least most ⟨no, sz, ls, ms, en, sq⟩ = ov at *
      clear hov y0 y1 y2 y3 y4 y5
      cases ov with
      | false =>
        go_wp2_with fail
        go_roundw
        case rel => exact ⟨k + 1, R, ra, rn, rc, by go_num, rfl, HRN.out, by omega, by omega, HRO.out.keep T3.out fun _ _ x => x, by rw [HNX.out]; simp, fun y hy => (HFT.out y hy).quiet T3.out, HTN.out.trans (T3.out.mono fun _ _ x => x.elim)⟩
        case measure => simp [intOf]; omega
      | true =>
        have c0 := cell_of_row w3 wr.heap.size 0 _ 29 (0, 0) R3.out
        have c1' := cell_of_row w3 wr.heap.size 1 _ 29 (0, 0) R3.out
        have c2' := cell_of_row w3 wr.heap.size 2 _ 29 (0, 0) R3.out
        have c3 := cell_of_row w3 wr.heap.size 3 _ 29 (0, 0) R3.out
        have c4 := cell_of_row w3 wr.heap.size 4 _ 29 (0, 0) R3.out
        have c5 := cell_of_row w3 wr.heap.size 5 _ 29 (0, 0) R3.out
        go_wp2_with fail
        refine (CC.out _ T3.out).mono ?_
        rintro e w4 ⟨y2, rfl, hyf, hft2, t4⟩
        obtain ⟨y2la, y2lc, y2ma, y2mc, ⟨no2, sz2, ls2, ms2, en2, sq2⟩⟩ := y2
        have T4 := hide (T3.out.trans t4)
        have TB := hide ((Turns.refl (fun _ => False) w4).alloc (.cells #[.int .u64 (no2 : Nat), .int .i64 sz2, .slice y2la ls2.length y2lc, .slice y2ma ms2.length y2mc, .int .i64 en2, .int .u64 (sq2 : Nat)] 29))
        have hnw := heap_alloc_new w4 (.cells #[.int .u64 (no2 : Nat), .int .i64 sz2, .slice y2la ls2.length y2lc, .slice y2ma ms2.length y2mc, .int .i64 en2, .int .u64 (sq2 : Nat)] 29)
        have hszs := HTN.out.size
        have hsz4 := T4.out.size
        have hszB := TB.out.size
        obtain ⟨a5, n5, c5', w5, hr5, hn5, hro5, ht5, hq5⟩ := append_fl _ w2.heap.size ra rc R (HRO.out.keep (T4.out.trans TB.out) fun _ _ x => x) (by omega) (by have := HRN.out; have := HXB.out; omega) ⟨y2la, y2lc, y2ma, y2mc, ⟨no2, sz2, ls2, ms2, en2, sq2⟩⟩ w4.heap.size 1 hnw
        rw [← HRN.out] at hr5
        have HR5 := hide hr5
        have REL := hide (show n5 = (R ++ [(⟨y2la, y2lc, y2ma, y2mc, ⟨no2, sz2, ls2, ms2, en2, sq2⟩⟩ : Tf)]).length ∧ n5 ≤ k + 1 ∧ RowOk w5 w2.heap.size a5 c5' (R ++ [(⟨y2la, y2lc, y2ma, y2mc, ⟨no2, sz2, ls2, ms2, en2, sq2⟩⟩ : Tf)]) ∧ fls (R ++ [(⟨y2la, y2lc, y2ma, y2mc, ⟨no2, sz2, ls2, ms2, en2, sq2⟩⟩ : Tf)]) = (fls (xl.take (k + 1))).filter (overF least most) ∧ (∀ y ∈ R ++ [(⟨y2la, y2lc, y2ma, y2mc, ⟨no2, sz2, ls2, ms2, en2, sq2⟩⟩ : Tf)], FT w5 w2.heap.size y) ∧ Turns (fun j => w2.heap.size ≤ j) w2 w5 from by
          have hyf' : (⟨no2, sz2, ls2, ms2, en2, sq2⟩ : Fl) = ⟨no, sz, ls, ms, en, sq⟩ := hyf
          have hne : ∀ j, ra = some ⟨j, 0, none⟩ → w2.heap.size ≤ j := fun j e => by
            rcases HRO.out with ⟨e3, _⟩ | ⟨g2, e3, h5, _⟩
            · rw [e3] at e; cases e
            · rw [e3] at e; cases e; exact h5
          refine ⟨hn5, by rw [hn5, List.length_append, ← HRN.out]; simp; omega, hro5, ?_, fun y hy => ?_, (HTN.out.trans ((T4.out.trans TB.out).mono fun _ _ x => x.elim)).trans (ht5.mono fun j _ e => hne j e)⟩
          · rw [HNX.out]
            simp [fls, hyf']
          · have hkeep : ∀ {B : Nat} {y : Tf}, FT (w4.alloc (.cells #[.int .u64 (no2 : Nat), .int .i64 sz2, .slice y2la ls2.length y2lc, .slice y2ma ms2.length y2mc, .int .i64 en2, .int .u64 (sq2 : Nat)] 29)) B y → FT w5 B y := fun hy => hy.keep ht5 fun j e _ cs' z' e2 => ((HRO.out.keep (T4.out.trans TB.out) fun _ _ x => x).ne e2 (by decide) j e rfl)
            rcases List.mem_append.1 hy with hy | hy
            · exact hkeep ((HFT.out y hy).quiet (T4.out.trans TB.out))
            · obtain rfl := List.mem_singleton.1 hy
              have hs3 := T3.out.size
              exact (hkeep (hft2.quiet TB.out)).mono (by omega))
        clear hr5 hn5 hro5 ht5 hq5 hnw t4 hyf hft2 c0 c1' c2' c3 c4 c5 hszs hsz4 hszB
        go_wp2_with (at_builtin; refine wpList_append_run rfl _ _ 31 rfl (.slice ra rn rc) (.slice (some ⟨w4.heap.size, 0, none⟩) 1 1) rfl rfl _ _ (HR5.out _) ?_)
        obtain ⟨r1, r2, r3, r4, r5, r6⟩ := REL.out
        go_roundw
        case rel => exact ⟨k + 1, _, a5, n5, c5', by go_num, rfl, r1, by omega, r2, r3, r4, r5, r6⟩
        case measure => simp [intOf]; omega
    · obtain rfl : k = xn := by omega
      have htk : xl.take k = xl := List.take_of_length_le (by have := HXN.out; omega)
      rw [htk, HFL.out] at HFR
      clear htk
      have hT2 := T2.out.size
      go_wp2_with fail
      go_ret
      exact ⟨ra, rc, R, by rw [HRN.out]; rfl, HRO.out.mono hT2, HFR.out, fun y hy => (HFT.out y hy).mono hT2, T2.out.trans HTQ.out⟩
end Go.Proofs.Ytkmcdjbadngfgaa
