import Derived.Test.YtmmcikbedegigaaGreatM13
import Derived.Test.YtmmcikbedegigaaGreatM06
import Derived.Test.YtmmcikbedegigaaGreatM07
/-
  filesOf, overlaps, Bytes, Overlap, Deepest.
-/
namespace Go.Proofs.YtmmcikbedegigaaGreat
open Go.RowKit
set_option maxRecDepth 100000
set_option maxHeartbeats 4000000
def filesF (LL : List (List Fl)) (next seq log : Nat) (z : Int) : List Fl := if goodLev z && !wrongVF LL next seq log then LL.getD z.toNat [] else []
theorem filesOf_any (a : Option Addr) (n c next seq log : Nat) (L : List Lv) (z : Int) (w : World) (h : VerIn w a n L next seq log) :
    Calls Tryz.prog 44 #[verAgg a n c next seq log, .int .i64 z] w fun e w' => ∃ xa xn xc xl, e = .returned (.slice xa xn xc) ∧ xn = List.length xl ∧ Fils w' xa xl ∧ fls xl = filesF (flL L) next seq log z ∧ (∀ y ∈ xl, wrongF y.f = false) ∧ Turns (fun _ => False) w w' := by
  have TA := hide ((Turns.refl (fun _ => False) w).alloc (.cells #[.slice a n c, .int .u64 (next : Nat), .int .u64 (seq : Nat), .int .u64 (log : Nat)] 27))
  have R0 := hide (heap_alloc_new w (.cells #[.slice a n c, .int .u64 (next : Nat), .int .u64 (seq : Nat), .int .u64 (log : Nat)] 27))
  have CK := hide (check_any a n c next seq log L _ (h.quiet TA.out))
  have HCV := hide (show chkV L next seq log = if wrongV L next seq log then 2 else 0 from rfl)
  have HV := hide h
  have CL := hide (isLevel_any z)
  unfold verAgg at *
  clear h
  have HF := hide (show filesF (flL L) next seq log z = if goodLev z && !wrongV L next seq log then (flL L).getD z.toNat [] else [] by unfold filesF; rw [wrongV_F])
  generalize hV : wrongV L next seq log = V at *
  have HWV := hide hV
  clear hV
  generalize chkV L next seq log = C at *
  generalize hg : goodLev z = gl at *
  have HGL := hide hg
  clear hg
  generalize filesF (flL L) next seq log z = FF at *
  have NIL : Fils w none [] := fun k x hx => by simp at hx
  cases gl with
  | false =>
    go_enter Tryz.func44, Tryz.ntmps44
    go_wp2_with fail
    refine (CL.out _).mono ?_
    rintro e w1 ⟨rfl, rfl⟩
    go_wp2_with fail
    go_ret
    exact ⟨none, 0, 0, [], rfl, rfl, NIL.quiet TA.out, by rw [HF.out]; simp [fls], fun y hy => by simp at hy, TA.out⟩
  | true =>
    have hz : 0 ≤ z ∧ z < 5 := by simpa [goodLev] using HGL.out
    obtain ⟨k, rfl⟩ : ∃ k : Nat, z = k := ⟨z.toNat, by omega⟩
    have k5 : k < 5 := by omega
    have k5i : (k : Int) < 5 := by omega
    have k0i : (0 : Int) ≤ k := by omega
    clear hz
    cases V with
    | true =>
      have hc : C = 2 := HCV.out
      subst hc
      go_enter Tryz.func44, Tryz.ntmps44
      go_wp2_with fail
      refine (CL.out _).mono ?_
      rintro e w1 ⟨rfl, rfl⟩
      go_wp2_with fail
      refine CK.out.mono ?_
      rintro e w2 ⟨rfl, t2⟩
      have T2 := hide (TA.out.trans t2)
      clear t2
      go_wp2_with fail
      go_ret
      exact ⟨none, 0, 0, [], rfl, rfl, NIL.quiet T2.out, by rw [HF.out]; simp [fls], fun y hy => by simp at hy, T2.out⟩
    | false =>
      have hc : C = 0 := HCV.out
      subst hc
      have hn5 : n = 5 := by
        have h1 := HWV.out
        unfold wrongV at h1
        simp only [Bool.or_eq_false_iff, decide_eq_false_iff_not] at h1
        have h2 := HV.out.len
        omega
      subst hn5
      obtain ⟨x, hx⟩ : ∃ x, L[k]? = some x := ⟨_, List.getElem?_eq_getElem (by have := HV.out.len; omega)⟩
      obtain ⟨⟨b, off, rfl, hcl⟩, hfi⟩ := HV.out.levs k x hx
      have HCL := hide hcl
      have HFI := hide hfi
      have HEQ := hide (show fls x.l = FF by rw [HF.out]; have := flL_at hx; simp [List.getD, this])
      have HNW := hide (wrongV_files HWV.out x (List.mem_of_getElem? hx))
      obtain ⟨xa, xc, xl⟩ := x
      simp only at *
      generalize hXL : xl.length = XL at *
      have HXL := hide hXL
      clear hx hXL hcl hfi NIL
      go_enter Tryz.func44, Tryz.ntmps44
      go_wp2_with fail
      refine (CL.out _).mono ?_
      rintro e w1 ⟨rfl, rfl⟩
      go_wp2_with fail
      refine CK.out.mono ?_
      rintro e w2 ⟨rfl, t2⟩
      have T2 := hide (TA.out.trans t2)
      have q0 := cell_of_row w2 w.heap.size 0 _ 27 (0, 0) (t2.heap R0.out (fun x => x))
      have q1 := T2.out.cell HCL.out (fun x => x)
      clear t2
      go_wp2_with fail
      go_ret
      exact ⟨xa, XL, xc, xl, rfl, HXL.out.symm, HFI.out.quiet T2.out, HEQ.out, HNW.out, T2.out⟩
def overF (least most : List (BitVec 8)) (f : Fl) : Bool := decide (0 ≤ cmpB f.most least) && (decide (most.length = 0) || decide (cmpB f.least most ≤ 0))
theorem over1_any (x : Tf) (P1 P2 : Nat) (a1 : Option Addr) (n1 c1 : Nat) (a2 : Option Addr) (n2 c2 : Nat) (least most : List (BitVec 8)) (w : World) (h : FB w x) (h1 : w.cell? ⟨P1, 0, none⟩ = some (.slice a1 n1 c1)) (h2 : w.cell? ⟨P2, 0, none⟩ = some (.slice a2 n2 c2)) (b1 : Bytes w (.slice a1 n1 c1) least) (b2 : Bytes w (.slice a2 n2 c2) most) :
    Calls Tryz.prog 72 #[x.agg, .pointer (some ⟨P1, 0, none⟩), .pointer (some ⟨P2, 0, none⟩)] w fun e w' => e = .returned (.bool (overF least most x.f)) ∧ Turns (fun _ => False) w w' := by
  obtain ⟨la, lc, ma, mc, ⟨no, sz, ls, ms, en, sq⟩⟩ := x
  have TA := hide ((Turns.refl (fun _ => False) w).alloc (.cells #[.int .u64 (no : Nat), .int .i64 sz, .slice la ls.length lc, .slice ma ms.length mc, .int .i64 en, .int .u64 (sq : Nat)] 49))
  have C1 := hide (compareB_any ma a1 ms.length n1 mc c1 ms least _ (h.quiet TA.out).2 (b1.quiet TA.out))
  have C2 := hide (compareB_any la a2 ls.length n2 lc c2 ls most _ (h.quiet TA.out).1 (b2.quiet TA.out))
  have q1 := TA.out.cell h1 (fun x => x)
  have q2 := TA.out.cell h2 (fun x => x)
  have HL2 := hide b2.len
  unfold Tf.agg
  simp only
  clear h h1 h2 b1 b2
  generalize hx1 : cmpB ms least = x1 at *
  generalize hx2 : cmpB ls most = x2 at *
  have HO := hide (show overF least most ⟨no, sz, ls, ms, en, sq⟩ = (decide (0 ≤ x1) && (decide (n2 = 0) || decide (x2 ≤ 0))) by simp only [overF, hx1, hx2, HL2.out])
  clear hx1 hx2
  generalize overF least most ⟨no, sz, ls, ms, en, sq⟩ = O at *
  by_cases i1 : 0 ≤ x1
  · by_cases i2 : n2 = 0
    · subst i2
      go_enter Tryz.func72, Tryz.ntmps72
      go_wp2_with fail
      refine C1.out.mono ?_
      rintro e w1 ⟨rfl, rfl⟩
      go_wp2_with fail
      go_ret
      exact ⟨congrArg Ending.returned (congrArg Value.bool (by rw [HO.out]; simp [i1])), TA.out⟩
    · have i3 : ¬ (n2 : Int) = 0 := by omega
      go_enter Tryz.func72, Tryz.ntmps72
      go_wp2_with fail
      refine C1.out.mono ?_
      rintro e w1 ⟨rfl, rfl⟩
      go_wp2_with fail
      refine C2.out.mono ?_
      rintro e w1 ⟨rfl, rfl⟩
      go_wp2_with fail
      go_ret
      exact ⟨congrArg Ending.returned (congrArg Value.bool (by rw [HO.out]; simp [i1, i2])), TA.out⟩
  · go_enter Tryz.func72, Tryz.ntmps72
    go_wp2_with fail
    refine C1.out.mono ?_
    rintro e w1 ⟨rfl, rfl⟩
    go_wp2_with fail
    go_ret
    exact ⟨congrArg Ending.returned (congrArg Value.bool (by rw [HO.out]; simp; intro h; omega)), TA.out⟩
end Go.Proofs.YtmmcikbedegigaaGreat

/-
  Overlap, Bytes.
-/
namespace Go.Proofs.YtmmcikbedegigaaGreat
open Go.RowKit
set_option maxRecDepth 100000
set_option maxHeartbeats 4000000
theorem overlaps_any (a1 : Option Addr) (n1 c1 : Nat) (a2 : Option Addr) (n2 c2 : Nat) (w : World) : Calls Tryz.prog 43 #[.slice a1 n1 c1, .slice a2 n2 c2] w fun e w' => e = .returned (.func (.func 72) #[] #[.pointer (some ⟨w.heap.size, 0, none⟩), .pointer (some ⟨w.heap.size + 1, 0, none⟩)]) ∧ w'.cell? ⟨w.heap.size, 0, none⟩ = some (.slice a1 n1 c1) ∧ w'.cell? ⟨w.heap.size + 1, 0, none⟩ = some (.slice a2 n2 c2) ∧ Turns (fun _ => False) w w' := by
  have TA := hide (((Turns.refl (fun _ => False) w).alloc (.cells #[.slice a1 n1 c1] 38)).alloc (.cells #[.slice a2 n2 c2] 38))
  have R0 := hide (((Turns.refl (fun _ => False) (w.alloc (.cells #[.slice a1 n1 c1] 38))).alloc (.cells #[.slice a2 n2 c2] 38)).heap (heap_alloc_new w (.cells #[.slice a1 n1 c1] 38)) (fun x => x))
  have R1 := hide (heap_alloc_new (w.alloc (.cells #[.slice a1 n1 c1] 38)) (.cells #[.slice a2 n2 c2] 38))
  simp only [World.size_alloc] at R1
  go_enter Tryz.func43, Tryz.ntmps43
  go_wp2_with fail
  go_ret
  exact ⟨rfl, cell_of_row _ w.heap.size 0 _ 38 (0, 0) R0.out, cell_of_row _ (w.heap.size + 1) 0 _ 38 (0, 0) R1.out, TA.out⟩
def sizesF (l : List Fl) : Int := (l.map fun f => f.size).sum
end Go.Proofs.YtmmcikbedegigaaGreat

/-
  Overlap.
-/
namespace Go.Proofs.YtmmcikbedegigaaGreat
open Go.RowKit
set_option maxRecDepth 100000
set_option maxHeartbeats 4000000
theorem filesF_len (L : List Lv) (next seq log : Nat) (z : Int) (h : cnt L ≤ 5000) : (filesF (flL L) next seq log z).length ≤ 5000 := by
  unfold filesF
  split
  · next hh =>
    cases hk : (flL L)[z.toNat]? with
    | none => simp [List.getD, hk]
    | some l =>
      simp only [List.getD, hk, Option.getD_some]
      simp only [flL, List.getElem?_map, Option.map_eq_some_iff] at hk
      obtain ⟨x, hx, rfl⟩ := hk
      have := cnt_take hx; have := cnt_take_le L (z.toNat + 1)
      simp only [fls, List.length_map]
      omega
  · simp
theorem overlap_any (a : Option Addr) (n c next seq log : Nat) (L : List Lv) (z : Int) (a1 : Option Addr) (n1 c1 : Nat) (a2 : Option Addr) (n2 c2 : Nat) (least most : List (BitVec 8)) (w : World) (h : VerIn w a n L next seq log) (b1 : Bytes w (.slice a1 n1 c1) least) (b2 : Bytes w (.slice a2 n2 c2) most) :
    Calls Tryz.prog 16 #[verAgg a n c next seq log, .int .i64 z, .slice a1 n1 c1, .slice a2 n2 c2] w fun e w' => ∃ xa xc R, e = .returned (.slice xa (List.length R) xc) ∧ RowOk w' w.heap.size xa xc R ∧ fls R = (filesF (flL L) next seq log z).filter (overF least most) ∧ (∀ y ∈ R, FT w' w.heap.size y) ∧ Turns (fun _ => False) w w' := by
  have TA := hide ((Turns.refl (fun _ => False) w).alloc (.cells #[.slice a n c, .int .u64 (next : Nat), .int .u64 (seq : Nat), .int .u64 (log : Nat)] 27))
  have R0 := hide (heap_alloc_new w (.cells #[.slice a n c, .int .u64 (next : Nat), .int .u64 (seq : Nat), .int .u64 (log : Nat)] 27))
  have CF := hide (fun (u : World) (t : Turns (fun _ => False) w u) => filesOf_any a n c next seq log L z u (h.quiet t))
  have HLN := hide (filesF_len L next seq log z h.cnt)
  have HB1 := hide b1
  have HB2 := hide b2
  unfold verAgg at *
  clear h b1 b2
  generalize filesF (flL L) next seq log z = FF at *
  go_enter Tryz.func16, Tryz.ntmps16
  go_wp2_with fail
  refine (overlaps_any a1 n1 c1 a2 n2 c2 _).mono ?_
  rintro e w1 ⟨rfl, h1, h2, t1⟩
  have H1 := hide h1
  have H2 := hide h2
  have T1 := hide (TA.out.trans t1)
  have r1 := t1.heap R0.out (fun x => x)
  have q0 := cell_of_row w1 w.heap.size 0 _ 27 (0, 0) r1
  have q1 := cell_of_row w1 w.heap.size 1 _ 27 (0, 0) r1
  have q2 := cell_of_row w1 w.heap.size 2 _ 27 (0, 0) r1
  have q3 := cell_of_row w1 w.heap.size 3 _ 27 (0, 0) r1
  clear h1 h2 t1 r1
  generalize hP : (w.alloc (.cells #[.slice a n c, .int .u64 (next : Nat), .int .u64 (seq : Nat), .int .u64 (log : Nat)] 27)).heap.size = P at *
  clear hP
  go_wp2_with fail
  refine (CF.out _ T1.out).mono ?_
  rintro e w2 ⟨xa, xn, xc, xl, rfl, hxn, hfi, hfl, hnw, t2⟩
  have HXN := hide hxn
  have HFI := hide hfi
  have HFL := hide hfl
  have HNW := hide hnw
  have T2 := hide (T1.out.trans t2)
  have G1 := hide (t2.cell H1.out (fun x => x))
  have G2 := hide (t2.cell H2.out (fun x => x))
  have HXB := hide (show xn ≤ 5000 by have h1 := HLN.out; rw [← hfl] at h1; simp only [fls, List.length_map] at h1; omega)
  have hxi : (xn : Int) ≤ 5000 := by have := HXB.out; omega
  clear hxn hfi hfl hnw t2 q0 q1 q2 q3
  go_wp2_with fail
  go_loopw [9, 20] (fun v9 i wr => ∃ (k : Nat) (R : List Tf) (ra : Option Addr) (rn rc : Nat), i = .int .i64 (k : Nat) ∧ v9 = .slice ra rn rc ∧ rn = R.length ∧ k ≤ xn ∧ rn ≤ k ∧ RowOk wr w2.heap.size ra rc R ∧ fls R = (fls (xl.take k)).filter (overF least most) ∧ (∀ y ∈ R, FT wr w2.heap.size y) ∧ Turns (fun j => w2.heap.size ≤ j) w2 wr) (fun _ i _ => xn - (intOf i).toNat)
  case atStart => exact ⟨0, [], none, 0, 0, rfl, rfl, rfl, Nat.zero_le _, Nat.le_refl _, .inl ⟨rfl, rfl, rfl⟩, by simp [fls], fun y hy => (by cases hy), Turns.refl _ _⟩
  case round =>
    obtain ⟨k, R, ra, rn, rc, rfl, rfl, hrn, hk, hrk, hro, hfr, hft, htn⟩ := hrel
    have HRN := hide hrn
    have HRK := hide hrk
    have HRO := hide hro
    have HFR := hide hfr
    have HFT := hide hft
    have HTN := hide htn
    have HTQ := hide (show Turns (fun _ => False) w2 wr from htn.mono fun j hj e => by omega)
    clear hrn hro hfr hft htn
    by_cases hkn : k < xn
    · obtain ⟨y, hy⟩ : ∃ y, xl[k]? = some y := ⟨_, List.getElem?_eq_getElem (by have := HXN.out; omega)⟩
      obtain ⟨b, off, rfl, h6, hfb⟩ := fc_of (HFI.out.quiet HTQ.out) hy
      have i1 : (k : Int) < xn := by omega
      have i0 : (0 : Int) ≤ k := by omega
      obtain ⟨_, _, _, _, _, _, _, v8, _, v10, _⟩ := wrongF_false (HNW.out y (List.mem_of_getElem? hy))
      have HNX := hide (show (fls (xl.take (k + 1))).filter (overF least most) = fls R ++ if overF least most y.f then [y.f] else [] by
        rw [HFR.out, List.take_add_one, hy]
        simp only [fls, List.map_append, Option.toList_some, List.map_cons, List.map_nil, List.filter_append]
        congr 1
        cases h : overF least most y.f <;> simp [h])
      have CO := hide (fun (u : World) (t : Turns (fun _ => False) wr u) => over1_any y P (P + 1) a1 n1 c1 a2 n2 c2 least most u (hfb.quiet t) (t.cell (HTQ.out.cell G1.out (fun x => x)) (fun x => x)) (t.cell (HTQ.out.cell G2.out (fun x => x)) (fun x => x)) (HB1.out.quiet (T2.out.trans (HTQ.out.trans t))) (HB2.out.quiet (T2.out.trans (HTQ.out.trans t))))
      have CC := hide (fun (u : World) (t : Turns (fun _ => False) wr u) => cloneF_any y u (hfb.quiet t) (by omega) (by omega))
      obtain ⟨la, lc, ma, mc, ⟨no, sz, ls, ms, en, sq⟩⟩ := y
      obtain ⟨y0, y1, y2, y3, y4, y5⟩ := h6
      unfold Tf.agg at CO CC
      simp only at *
      generalize ls.length = L1 at *
      generalize ms.length = L2 at *
      have TF := hide ((Turns.refl (fun _ => False) wr).alloc (.cells #[.int .u64 (no : Nat), .int .i64 sz, .slice la L1 lc, .slice ma L2 mc, .int .i64 en, .int .u64 (sq : Nat)] 49))
      have RF := hide (heap_alloc_new wr (.cells #[.int .u64 (no : Nat), .int .i64 sz, .slice la L1 lc, .slice ma L2 mc, .int .i64 en, .int .u64 (sq : Nat)] 49))
      clear hfb hy v8 v10
      go_wp2_with fail
      refine (CO.out _ TF.out).mono ?_
      rintro e w3 ⟨rfl, t3⟩
      have T3 := hide (TF.out.trans t3)
      have R3 := hide (t3.heap RF.out (fun x => x))
      clear t3 CO
      generalize hov : overF least most ⟨no, sz, ls, ms, en, sq⟩ = ov at *
      clear hov y0 y1 y2 y3 y4 y5
      cases ov with
      | false =>
        go_wp2_with fail
        go_roundw
        case rel => exact ⟨k + 1, R, ra, rn, rc, by go_num, rfl, HRN.out, by omega, by omega, HRO.out.keep T3.out fun _ _ x => x, by rw [HNX.out]; simp, fun y hy => (HFT.out y hy).quiet T3.out, HTN.out.trans (T3.out.mono fun _ _ x => x.elim)⟩
        case measure => simp [intOf]; omega
      | true =>
        have c0 := cell_of_row w3 wr.heap.size 0 _ 49 (0, 0) R3.out
        have c1' := cell_of_row w3 wr.heap.size 1 _ 49 (0, 0) R3.out
        have c2' := cell_of_row w3 wr.heap.size 2 _ 49 (0, 0) R3.out
        have c3 := cell_of_row w3 wr.heap.size 3 _ 49 (0, 0) R3.out
        have c4 := cell_of_row w3 wr.heap.size 4 _ 49 (0, 0) R3.out
        have c5 := cell_of_row w3 wr.heap.size 5 _ 49 (0, 0) R3.out
        go_wp2_with fail
        refine (CC.out _ T3.out).mono ?_
        rintro e w4 ⟨y2, rfl, hyf, hft2, t4⟩
        obtain ⟨y2la, y2lc, y2ma, y2mc, ⟨no2, sz2, ls2, ms2, en2, sq2⟩⟩ := y2
        have T4 := hide (T3.out.trans t4)
        have TB := hide ((Turns.refl (fun _ => False) w4).alloc (.cells #[.int .u64 (no2 : Nat), .int .i64 sz2, .slice y2la ls2.length y2lc, .slice y2ma ms2.length y2mc, .int .i64 en2, .int .u64 (sq2 : Nat)] 49))
        have hnw := heap_alloc_new w4 (.cells #[.int .u64 (no2 : Nat), .int .i64 sz2, .slice y2la ls2.length y2lc, .slice y2ma ms2.length y2mc, .int .i64 en2, .int .u64 (sq2 : Nat)] 49)
        have hszs := HTN.out.size
        have hsz4 := T4.out.size
        have hszB := TB.out.size
        obtain ⟨a5, n5, c5', w5, hr5, hn5, hro5, ht5, hq5⟩ := append_fl _ w2.heap.size ra rc R (HRO.out.keep (T4.out.trans TB.out) fun _ _ x => x) (by omega) (by have := HRN.out; have := HXB.out; omega) ⟨y2la, y2lc, y2ma, y2mc, ⟨no2, sz2, ls2, ms2, en2, sq2⟩⟩ w4.heap.size 1 hnw
        rw [← HRN.out] at hr5
        have HR5 := hide hr5
        have REL := hide (show n5 = (R ++ [(⟨y2la, y2lc, y2ma, y2mc, ⟨no2, sz2, ls2, ms2, en2, sq2⟩⟩ : Tf)]).length ∧ n5 ≤ k + 1 ∧ RowOk w5 w2.heap.size a5 c5' (R ++ [(⟨y2la, y2lc, y2ma, y2mc, ⟨no2, sz2, ls2, ms2, en2, sq2⟩⟩ : Tf)]) ∧ fls (R ++ [(⟨y2la, y2lc, y2ma, y2mc, ⟨no2, sz2, ls2, ms2, en2, sq2⟩⟩ : Tf)]) = (fls (xl.take (k + 1))).filter (overF least most) ∧ (∀ y ∈ R ++ [(⟨y2la, y2lc, y2ma, y2mc, ⟨no2, sz2, ls2, ms2, en2, sq2⟩⟩ : Tf)], FT w5 w2.heap.size y) ∧ Turns (fun j => w2.heap.size ≤ j) w2 w5 from by
          have hyf' : (⟨no2, sz2, ls2, ms2, en2, sq2⟩ : Fl) = ⟨no, sz, ls, ms, en, sq⟩ := hyf
          have hne : ∀ j, ra = some ⟨j, 0, none⟩ → w2.heap.size ≤ j := fun j e => by
            rcases HRO.out with ⟨e3, _⟩ | ⟨g2, e3, h5, _⟩
            · rw [e3] at e; cases e
            · rw [e3] at e; cases e; exact h5
          refine ⟨hn5, by rw [hn5, List.length_append, ← HRN.out]; simp; omega, hro5, ?_, fun y hy => ?_, (HTN.out.trans ((T4.out.trans TB.out).mono fun _ _ x => x.elim)).trans (ht5.mono fun j _ e => hne j e)⟩
          · rw [HNX.out]
            simp [fls, hyf']
          · have hkeep : ∀ {B : Nat} {y : Tf}, FT (w4.alloc (.cells #[.int .u64 (no2 : Nat), .int .i64 sz2, .slice y2la ls2.length y2lc, .slice y2ma ms2.length y2mc, .int .i64 en2, .int .u64 (sq2 : Nat)] 49)) B y → FT w5 B y := fun hy => hy.keep ht5 fun j e _ cs' z' e2 => ((HRO.out.keep (T4.out.trans TB.out) fun _ _ x => x).ne e2 (by decide) j e rfl)
            rcases List.mem_append.1 hy with hy | hy
            · exact hkeep ((HFT.out y hy).quiet (T4.out.trans TB.out))
            · obtain rfl := List.mem_singleton.1 hy
              have hs3 := T3.out.size
              exact (hkeep (hft2.quiet TB.out)).mono (by omega))
        clear hr5 hn5 hro5 ht5 hq5 hnw t4 hyf hft2 c0 c1' c2' c3 c4 c5 hszs hsz4 hszB
        go_wp2_with (at_builtin; refine wpList_append_run rfl _ _ 53 rfl (.slice ra rn rc) (.slice (some ⟨w4.heap.size, 0, none⟩) 1 1) rfl rfl _ _ (HR5.out _) ?_)
        obtain ⟨r1, r2, r3, r4, r5, r6⟩ := REL.out
        go_roundw
        case rel => exact ⟨k + 1, _, a5, n5, c5', by go_num, rfl, r1, by omega, r2, r3, r4, r5, r6⟩
        case measure => simp [intOf]; omega
    · obtain rfl : k = xn := by omega
      have htk : xl.take k = xl := List.take_of_length_le (by have := HXN.out; omega)
      rw [htk, HFL.out] at HFR
      clear htk
      have hT2 := T2.out.size
      go_wp2_with fail
      go_ret
      exact ⟨ra, rc, R, by rw [HRN.out]; rfl, HRO.out.mono hT2, HFR.out, fun y hy => (HFT.out y hy).mono hT2, T2.out.trans HTQ.out⟩
end Go.Proofs.YtmmcikbedegigaaGreat

/-
  The options of an edit.
-/
namespace Go.Proofs.YtmmcikbedegigaaGreat
open Go.RowKit
set_option maxRecDepth 100000
set_option maxHeartbeats 4000000
theorem numbered_any (x y z : Nat) (w : World) : Calls Tryz.prog 32 #[.int .u64 (x : Nat), .int .u64 (y : Nat), .int .u64 (z : Nat)] w fun e w' => e = .returned (.func (.func 63) #[] #[.pointer (some ⟨w.heap.size, 0, none⟩), .pointer (some ⟨w.heap.size + 1, 0, none⟩), .pointer (some ⟨w.heap.size + 2, 0, none⟩)]) ∧ w'.heap[w.heap.size]? = some (.cells #[.int .u64 (x : Nat)] 25 (0, 0)) ∧ w'.heap[w.heap.size + 1]? = some (.cells #[.int .u64 (y : Nat)] 25 (0, 0)) ∧ w'.heap[w.heap.size + 2]? = some (.cells #[.int .u64 (z : Nat)] 25 (0, 0)) ∧ Turns (fun _ => False) w w' := by
  have T := hide ((((Turns.refl (fun _ => False) w).alloc (.cells #[.int .u64 (x : Nat)] 25)).alloc (.cells #[.int .u64 (y : Nat)] 25)).alloc (.cells #[.int .u64 (z : Nat)] 25))
  have a0 := (((Turns.refl (fun _ => False) (w.alloc (.cells #[.int .u64 (x : Nat)] 25))).alloc (.cells #[.int .u64 (y : Nat)] 25)).alloc (.cells #[.int .u64 (z : Nat)] 25)).heap (heap_alloc_new w (.cells #[.int .u64 (x : Nat)] 25)) (fun x => x)
  have a1 := ((Turns.refl (fun _ => False) ((w.alloc (.cells #[.int .u64 (x : Nat)] 25)).alloc (.cells #[.int .u64 (y : Nat)] 25))).alloc (.cells #[.int .u64 (z : Nat)] 25)).heap (heap_alloc_new (w.alloc (.cells #[.int .u64 (x : Nat)] 25)) (.cells #[.int .u64 (y : Nat)] 25)) (fun x => x)
  have a2 := heap_alloc_new ((w.alloc (.cells #[.int .u64 (x : Nat)] 25)).alloc (.cells #[.int .u64 (y : Nat)] 25)) (.cells #[.int .u64 (z : Nat)] 25)
  simp only [World.size_alloc] at a1 a2
  have A0 := hide a0
  have A1 := hide a1
  have A2 := hide a2
  clear a0 a1 a2
  go_enter Tryz.func32, Tryz.ntmps32
  go_wp2_with fail
  go_ret
  exact ⟨rfl, A0.out, A1.out, A2.out, T.out⟩
theorem adding_any (lev : Int) (a : Option Addr) (n c : Nat) (w : World) : Calls Tryz.prog 37 #[.int .i64 lev, .slice a n c] w fun e w' => e = .returned (.func (.func 68) #[] #[.pointer (some ⟨w.heap.size + 1, 0, none⟩), .pointer (some ⟨w.heap.size, 0, none⟩)]) ∧ w'.heap[w.heap.size]? = some (.cells #[.int .i64 lev] 3 (0, 0)) ∧ w'.heap[w.heap.size + 1]? = some (.cells #[.slice a n c] 53 (0, 0)) ∧ Turns (fun _ => False) w w' := by
  have T := hide (((Turns.refl (fun _ => False) w).alloc (.cells #[.int .i64 lev] 3)).alloc (.cells #[.slice a n c] 53))
  have a0 := ((Turns.refl (fun _ => False) (w.alloc (.cells #[.int .i64 lev] 3))).alloc (.cells #[.slice a n c] 53)).heap (heap_alloc_new w (.cells #[.int .i64 lev] 3)) (fun x => x)
  have a1 := heap_alloc_new (w.alloc (.cells #[.int .i64 lev] 3)) (.cells #[.slice a n c] 53)
  simp only [World.size_alloc] at a1
  have A0 := hide a0
  have A1 := hide a1
  clear a0 a1
  go_enter Tryz.func37, Tryz.ntmps37
  go_wp2_with fail
  go_ret
  exact ⟨rfl, A0.out, A1.out, T.out⟩
theorem set_keep {w : World} {P E o : Nat} {v u : Value} (h : w.cell? ⟨P, 0, none⟩ = some u) (hne : ¬ P = E) : (w.setCell ⟨E, o, none⟩ v).cell? ⟨P, 0, none⟩ = some u :=
  (turns_setCells E o [v] w).cell h hne
theorem num1_any (E P1 P2 P3 x y z : Nat) (v0 v1 v2 v3 v4 : Value) (w : World) (hE : w.heap[E]? = some (.cells #[v0, v1, v2, v3, v4] 33 (0, 0))) (h1 : w.heap[P1]? = some (.cells #[.int .u64 (x : Nat)] 25 (0, 0))) (h2 : w.heap[P2]? = some (.cells #[.int .u64 (y : Nat)] 25 (0, 0))) (h3 : w.heap[P3]? = some (.cells #[.int .u64 (z : Nat)] 25 (0, 0))) :
    Calls Tryz.prog 63 #[.pointer (some ⟨E, 0, none⟩), .pointer (some ⟨P1, 0, none⟩), .pointer (some ⟨P2, 0, none⟩), .pointer (some ⟨P3, 0, none⟩)] w fun e w' => e = .returned (.tuple #[]) ∧ w'.heap[E]? = some (.cells #[v0, v1, .int .u64 (x : Nat), .int .u64 (y : Nat), .int .u64 (z : Nat)] 33 (0, 0)) ∧ Turns (fun j => j = E) w w' := by
  have n1 : ¬ P1 = E := fun e => by rw [e, hE] at h1; cases h1
  have n2 : ¬ P2 = E := fun e => by rw [e, hE] at h2; cases h2
  have n3 : ¬ P3 = E := fun e => by rw [e, hE] at h3; cases h3
  have p1 : w.cell? ⟨P1, 0, none⟩ = some (.int .u64 (x : Nat)) := cell_of_row w P1 0 _ 25 (0, 0) h1
  have p2 : w.cell? ⟨P2, 0, none⟩ = some (.int .u64 (y : Nat)) := cell_of_row w P2 0 _ 25 (0, 0) h2
  have p3 : w.cell? ⟨P3, 0, none⟩ = some (.int .u64 (z : Nat)) := cell_of_row w P3 0 _ 25 (0, 0) h3
  have tk := (((Tick.refl hE).set 2 (.int .u64 (x : Nat))).set 3 (.int .u64 (y : Nat))).set 4 (.int .u64 (z : Nat))
  have TK := hide tk
  have c2 := cell_of_row w E 2 _ 33 (0, 0) hE
  have c3 := cell_of_row w E 3 _ 33 (0, 0) hE
  have c4 := cell_of_row w E 4 _ 33 (0, 0) hE
  have f2 := frozen_of_row w E 2 _ 33 hE
  have f3 := frozen_of_row w E 3 _ 33 hE
  have f4 := frozen_of_row w E 4 _ 33 hE
  clear tk h1 h2 h3 hE
  go_enter Tryz.func63, Tryz.ntmps63
  go_wp2_with fail
  go_region_held (fun w' => w'.cell? ⟨P1, 0, none⟩ = some (.int .u64 (x : Nat)) ∧ w'.cell? ⟨P2, 0, none⟩ = some (.int .u64 (y : Nat)) ∧ w'.cell? ⟨P3, 0, none⟩ = some (.int .u64 (z : Nat))) (first | (simp only [World.cell?_drew]; with_reducible exact ⟨p1, p2, p3⟩) | exact ⟨set_keep p1 n1, set_keep p2 n2, set_keep p3 n3⟩ | exact ⟨set_keep (set_keep p1 n1) n1, set_keep (set_keep p2 n2) n2, set_keep (set_keep p3 n3) n3⟩ | exact ⟨set_keep (set_keep (set_keep p1 n1) n1) n1, set_keep (set_keep (set_keep p2 n2) n2) n2, set_keep (set_keep (set_keep p3 n3) n3) n3⟩) (fail)
  all_goals go_wp2_with fail
  all_goals go_end0
  all_goals exact ⟨rfl, TK.out.1, (Turns.of_tick TK.out).drew⟩
end Go.Proofs.YtmmcikbedegigaaGreat

/-
  Adds in a row of one's own.
-/
namespace Go.Proofs.YtmmcikbedegigaaGreat
open Go.RowKit
set_option maxRecDepth 100000
set_option maxHeartbeats 4000000
theorem t62_size : Tryz.t56.size = 7 := by kernel_rfl
theorem t62_bytes : Tryz.t56.bytes = 88 := by kernel_rfl
theorem t62_zero : Tryz.t56.zero = some (.agg #[.int .i64 0, .int .u64 0, .int .i64 0, .slice none 0 0, .slice none 0 0, .int .i64 0, .int .u64 0]) := by kernel_rfl
theorem info62 : Tryz.prog.info? 56 = some Tryz.t56 := by kernel_rfl
def adCell (d : Int × Tf) : List Value := .int .i64 d.1 :: d.2.cells
theorem adCell_length (d : Int × Tf) : (adCell d).length = 7 := rfl
theorem adCell_one (d : Int × Tf) (u : Value) (h : u ∈ adCell d) : u.oneCell' = true := by
  rcases List.mem_cons.1 h with rfl | h
  · rfl
  · exact d.2.cells_one u h
def adCells (A : List (Int × Tf)) : List Value := A.flatMap adCell
theorem adCells_length (A : List (Int × Tf)) : (adCells A).length = A.length * 7 := by
  induction A with
  | nil => rfl
  | cons x r ih => simp only [adCells, List.flatMap_cons, List.length_append, List.length_cons, adCell_length] at ih ⊢; omega
theorem adCells_append (A A' : List (Int × Tf)) : adCells (A ++ A') = adCells A ++ adCells A' := by simp [adCells]
theorem adCells_at : ∀ (R : List (Int × Tf)) (k : Nat) (x : Int × Tf), R[k]? = some x → ∀ j, j < 7 → (adCells R)[k * 7 + j]? = (adCell x)[j]?
  | [], k, x, h, _, _ => by simp at h
  | y :: r, 0, x, h, j, hj => by
    obtain rfl : y = x := by simpa using h
    show (adCell y ++ adCells r)[0 * 7 + j]? = _
    rw [List.getElem?_append_left (by rw [adCell_length]; omega), Nat.zero_mul, Nat.zero_add]
  | y :: r, k + 1, x, h, j, hj => by
    show (adCell y ++ adCells r)[(k + 1) * 7 + j]? = _
    rw [List.getElem?_append_right (by rw [adCell_length]; omega), adCell_length, show (k + 1) * 7 + j - 7 = k * 7 + j by omega]
    exact adCells_at r k x (by simpa using h) j hj
/-- Adds in a row of one's own, or none. -/
def ARow (w : World) (B : Nat) (a : Option Addr) (c : Nat) (A : List (Int × Tf)) : Prop := (a = none ∧ A = [] ∧ c = 0) ∨ ∃ g, a = some ⟨g, 0, none⟩ ∧ B ≤ g ∧ A.length ≤ c ∧ RowC w g 56 (c * 7) (adCells A)
theorem ARow.keep {S : Nat → Prop} {w w' : World} {B : Nat} {a : Option Addr} {c : Nat} {A : List (Int × Tf)} (h : ARow w B a c A) (t : Turns S w w') (hS : ∀ g, a = some ⟨g, 0, none⟩ → ¬ S g) : ARow w' B a c A := by
  rcases h with h | ⟨g, h1, h2, h3, h4⟩
  · exact .inl h
  · exact .inr ⟨g, h1, h2, h3, h4.turns t (hS g h1)⟩
theorem ARow.ne {w : World} {B : Nat} {a : Option Addr} {c : Nat} {A : List (Int × Tf)} (h : ARow w B a c A) {p : Nat} {cs : Array Value} {ty : TypeId} {z : Nat × Nat} (hp : w.heap[p]? = some (.cells cs ty z)) (h2 : ty ≠ 56) (g : Nat) (e : a = some ⟨g, 0, none⟩) : ¬ g = p := by
  intro e2
  subst e2
  rcases h with ⟨e3, _⟩ | ⟨g2, e3, _, _, cs2, h4, _⟩
  · rw [e3] at e; cases e
  · rw [e3] at e; cases e; rw [hp] at h4; cases h4; exact h2 rfl
theorem ARow.adds {w : World} {B : Nat} {a : Option Addr} {c : Nat} {A : List (Int × Tf)} (h : ARow w B a c A) (hb : ∀ d ∈ A, FB w d.2) : Adds w a A := fun k d hd => by
  rcases h with ⟨_, e, _⟩ | ⟨g, rfl, _, _, cs, h1, h2, h3⟩
  · rw [e] at hd; simp at hd
  · have hk := (List.getElem?_eq_some_iff.1 hd).1
    have hl := adCells_length A
    have : ∀ j, j < 7 → w.cell? ⟨g, 0 + k * 7 + j, none⟩ = (adCell d)[j]? := fun j hj => by
      rw [Nat.zero_add, cell_of_row w g _ cs 56 (0, 0) h1, h3 _ (by omega), adCells_at A k d hd j hj]
    exact ⟨⟨g, 0, rfl, this 0 (by omega), ⟨this 1 (by omega), this 2 (by omega), this 3 (by omega), this 4 (by omega), this 5 (by omega), this 6 (by omega)⟩⟩, hb d (List.mem_of_getElem? hd)⟩
theorem append_ad (w : World) (B : Nat) (a : Option Addr) (c : Nat) (A : List (Int × Tf)) (h : ARow w B a c A) (hB : B ≤ w.heap.size) (hlen : A.length ≤ 1000000) (d : Int × Tf) (g cy : Nat) (hg : w.heap[g]? = some (.cells (adCell d).toArray 56 (0, 0))) :
    ∃ (a' : Option Addr) (n' c' : Nat) (w' : World), (∀ ty, (Builtin.append_ #[31, 31] ty #[.slice a A.length c, .slice (some ⟨g, 0, none⟩) 1 cy]).run Tryz.prog w = .ok (.slice a' n' c') w') ∧ n' = (A ++ [d]).length ∧ ARow w' B a' c' (A ++ [d]) ∧ Turns (fun j => a = some ⟨j, 0, none⟩) w w' ∧ (∀ q, a' = some ⟨q, 0, none⟩ → a = some ⟨q, 0, none⟩ ∨ w.heap.size ≤ q) := by
  have hsrc : Src Tryz.prog Tryz.t56.size 31 (.slice (some ⟨g, 0, none⟩) 1 cy) 1 (adCell d) w := Src.ofSlice w Tryz.underlying31 ⟨g, 0, none⟩ 1 cy _ (by rw [t62_size]; rfl) (fun j u hu => by
    rw [Go.WideShapes.add_plain, Nat.zero_add, cell_of_row w g j _ 56 (0, 0) hg]
    simpa using hu) (fun u hu => adCell_one d u hu)
  have hbase : (a = none ∧ A.length = 0 ∧ c = 0 ∧ 0 < 1) ∨ ∃ g, a = some ⟨g, 0, none⟩ ∧ B ≤ g ∧ A.length ≤ c ∧ RowC w g 56 (c * Tryz.t56.size) (adCells A) := by
    rcases h with ⟨rfl, rfl, rfl⟩ | ⟨g, e, h1, h2, h3⟩
    · exact .inl ⟨rfl, rfl, rfl, by omega⟩
    · exact .inr ⟨g, e, h1, h2, by rw [t62_size]; exact h3⟩
  obtain ⟨g', cp, w', hr, hg', hrow, hb, hcp, hin, hnew, hkeep⟩ := append_gen2 (P := Tryz.prog) w B 31 56 Tryz.t56 _ Tryz.underlying31 info62 t62_zero rfl a A.length c (adCells A) (by rw [t62_size, adCells_length]) _ 1 _ hsrc hB hbase (by rw [t62_bytes]; omega) (by omega)
  refine ⟨some ⟨g', 0, none⟩, _, cp, w', hr, by simp, .inr ⟨g', rfl, hg', by simpa using hcp, ?_⟩, ⟨hb.os, hb.tape, hb.output, hb.size, fun k hk hn => hkeep k hk hn⟩, fun q e => ?_⟩
  · rw [t62_size] at hrow
    rw [adCells_append]
    simpa [adCells] using hrow
  · cases e
    rcases Nat.lt_or_ge c (A.length + 1) with h1 | h1
    · exact .inr (by rw [hnew h1]; exact Nat.le_refl _)
    · exact .inl (hin h1).1
end Go.Proofs.YtmmcikbedegigaaGreat

/-
  Drops in a row of one's own; dropping's option.
-/
namespace Go.Proofs.YtmmcikbedegigaaGreat
open Go.RowKit
set_option maxRecDepth 100000
set_option maxHeartbeats 4000000
theorem t52_size : Tryz.t52.size = 2 := by kernel_rfl
theorem t52_bytes : Tryz.t52.bytes = 16 := by kernel_rfl
theorem t52_zero : Tryz.t52.zero = some (.agg #[.int .i64 0, .int .u64 0]) := by kernel_rfl
theorem info52 : Tryz.prog.info? 52 = some Tryz.t52 := by kernel_rfl
def drCell (d : Int × Nat) : List Value := [.int .i64 d.1, .int .u64 (d.2 : Nat)]
theorem drCell_one (d : Int × Nat) (u : Value) (h : u ∈ drCell d) : u.oneCell' = true := by
  simp only [drCell, List.mem_cons, List.not_mem_nil, or_false] at h
  rcases h with rfl | rfl <;> rfl
def drCells (D : List (Int × Nat)) : List Value := D.flatMap drCell
theorem drCells_length (D : List (Int × Nat)) : (drCells D).length = D.length * 2 := by
  induction D with
  | nil => rfl
  | cons x r ih => simp only [drCells, List.flatMap_cons, List.length_append, List.length_cons] at ih ⊢; have : (drCell x).length = 2 := rfl; omega
theorem drCells_append (D D' : List (Int × Nat)) : drCells (D ++ D') = drCells D ++ drCells D' := by simp [drCells]
theorem drCells_at : ∀ (R : List (Int × Nat)) (k : Nat) (x : Int × Nat), R[k]? = some x → ∀ j, j < 2 → (drCells R)[k * 2 + j]? = (drCell x)[j]?
  | [], k, x, h, _, _ => by simp at h
  | y :: r, 0, x, h, j, hj => by
    obtain rfl : y = x := by simpa using h
    show (drCell y ++ drCells r)[0 * 2 + j]? = _
    rw [List.getElem?_append_left (by show 0 * 2 + j < 2; omega), Nat.zero_mul, Nat.zero_add]
  | y :: r, k + 1, x, h, j, hj => by
    show (drCell y ++ drCells r)[(k + 1) * 2 + j]? = _
    rw [List.getElem?_append_right (by show 2 ≤ (k + 1) * 2 + j; omega), show (drCell y).length = 2 from rfl, show (k + 1) * 2 + j - 2 = k * 2 + j by omega]
    exact drCells_at r k x (by simpa using h) j hj
/-- Drops in a row of one's own, or none. -/
def GRow (w : World) (B : Nat) (a : Option Addr) (c : Nat) (D : List (Int × Nat)) : Prop := (a = none ∧ D = [] ∧ c = 0) ∨ ∃ g, a = some ⟨g, 0, none⟩ ∧ B ≤ g ∧ D.length ≤ c ∧ RowC w g 52 (c * 2) (drCells D)
theorem GRow.keep {S : Nat → Prop} {w w' : World} {B : Nat} {a : Option Addr} {c : Nat} {D : List (Int × Nat)} (h : GRow w B a c D) (t : Turns S w w') (hS : ∀ g, a = some ⟨g, 0, none⟩ → ¬ S g) : GRow w' B a c D := by
  rcases h with h | ⟨g, h1, h2, h3, h4⟩
  · exact .inl h
  · exact .inr ⟨g, h1, h2, h3, h4.turns t (hS g h1)⟩
theorem GRow.ne {w : World} {B : Nat} {a : Option Addr} {c : Nat} {D : List (Int × Nat)} (h : GRow w B a c D) {p : Nat} {cs : Array Value} {ty : TypeId} {z : Nat × Nat} (hp : w.heap[p]? = some (.cells cs ty z)) (h2 : ty ≠ 52) (g : Nat) (e : a = some ⟨g, 0, none⟩) : ¬ g = p := by
  intro e2
  subst e2
  rcases h with ⟨e3, _⟩ | ⟨g2, e3, _, _, cs2, h4, _⟩
  · rw [e3] at e; cases e
  · rw [e3] at e; cases e; rw [hp] at h4; cases h4; exact h2 rfl
theorem GRow.drops {w : World} {B : Nat} {a : Option Addr} {c : Nat} {D : List (Int × Nat)} (h : GRow w B a c D) (hb : ∀ d ∈ D, d.2 < 18446744073709551616) : Drops w a D := fun k d hd => by
  rcases h with ⟨_, e, _⟩ | ⟨g, rfl, _, _, cs, h1, h2, h3⟩
  · rw [e] at hd; simp at hd
  · have hk := (List.getElem?_eq_some_iff.1 hd).1
    have hl := drCells_length D
    have : ∀ j, j < 2 → w.cell? ⟨g, 0 + k * 2 + j, none⟩ = (drCell d)[j]? := fun j hj => by
      rw [Nat.zero_add, cell_of_row w g _ cs 52 (0, 0) h1, h3 _ (by omega), drCells_at D k d hd j hj]
    exact ⟨hb d (List.mem_of_getElem? hd), g, 0, rfl, this 0 (by omega), this 1 (by omega)⟩
theorem append_dr (w : World) (B : Nat) (a : Option Addr) (c : Nat) (D : List (Int × Nat)) (h : GRow w B a c D) (hB : B ≤ w.heap.size) (hlen : D.length ≤ 1000000) (d : Int × Nat) (g cy : Nat) (hg : w.heap[g]? = some (.cells (drCell d).toArray 52 (0, 0))) :
    ∃ (a' : Option Addr) (n' c' : Nat) (w' : World), (∀ ty, (Builtin.append_ #[30, 30] ty #[.slice a D.length c, .slice (some ⟨g, 0, none⟩) 1 cy]).run Tryz.prog w = .ok (.slice a' n' c') w') ∧ n' = (D ++ [d]).length ∧ GRow w' B a' c' (D ++ [d]) ∧ Turns (fun j => a = some ⟨j, 0, none⟩) w w' ∧ (∀ q, a' = some ⟨q, 0, none⟩ → a = some ⟨q, 0, none⟩ ∨ w.heap.size ≤ q) := by
  have hsrc : Src Tryz.prog Tryz.t52.size 30 (.slice (some ⟨g, 0, none⟩) 1 cy) 1 (drCell d) w := Src.ofSlice w Tryz.underlying30 ⟨g, 0, none⟩ 1 cy _ (by rw [t52_size]; rfl) (fun j u hu => by
    rw [Go.WideShapes.add_plain, Nat.zero_add, cell_of_row w g j _ 52 (0, 0) hg]
    simpa using hu) (fun u hu => drCell_one d u hu)
  have hbase : (a = none ∧ D.length = 0 ∧ c = 0 ∧ 0 < 1) ∨ ∃ g, a = some ⟨g, 0, none⟩ ∧ B ≤ g ∧ D.length ≤ c ∧ RowC w g 52 (c * Tryz.t52.size) (drCells D) := by
    rcases h with ⟨rfl, rfl, rfl⟩ | ⟨g, e, h1, h2, h3⟩
    · exact .inl ⟨rfl, rfl, rfl, by omega⟩
    · exact .inr ⟨g, e, h1, h2, by rw [t52_size]; exact h3⟩
  obtain ⟨g', cp, w', hr, hg', hrow, hb, hcp, hin, hnew, hkeep⟩ := append_gen2 (P := Tryz.prog) w B 30 52 Tryz.t52 _ Tryz.underlying30 info52 t52_zero rfl a D.length c (drCells D) (by rw [t52_size, drCells_length]) _ 1 _ hsrc hB hbase (by rw [t52_bytes]; omega) (by omega)
  refine ⟨some ⟨g', 0, none⟩, _, cp, w', hr, by simp, .inr ⟨g', rfl, hg', by simpa using hcp, ?_⟩, ⟨hb.os, hb.tape, hb.output, hb.size, fun k hk hn => hkeep k hk hn⟩, fun q e => ?_⟩
  · rw [t52_size] at hrow
    rw [drCells_append]
    simpa [drCells] using hrow
  · cases e
    rcases Nat.lt_or_ge c (D.length + 1) with h1 | h1
    · exact .inr (by rw [hnew h1]; exact Nat.le_refl _)
    · exact .inl (hin h1).1
theorem dropopt_any (E P1 P2 B : Nat) (lev : Int) (no : Nat) (ra : Option Addr) (rn rc : Nat) (D : List (Int × Nat)) (v1 v2 v3 v4 : Value) (w : World) (hE : w.heap[E]? = some (.cells #[.slice ra rn rc, v1, v2, v3, v4] 33 (0, 0))) (h1 : w.heap[P1]? = some (.cells #[.int .i64 lev] 3 (0, 0))) (h2 : w.heap[P2]? = some (.cells #[.int .u64 (no : Nat)] 25 (0, 0))) (hD : GRow w B ra rc D) (hrn : rn = D.length) (hB : B ≤ w.heap.size) (hmx : D.length ≤ 1000000) :
    Calls Tryz.prog 67 #[.pointer (some ⟨E, 0, none⟩), .pointer (some ⟨P1, 0, none⟩), .pointer (some ⟨P2, 0, none⟩)] w fun e w' => e = .returned (.tuple #[]) ∧ ∃ sa sn sc, w'.heap[E]? = some (.cells #[.slice sa sn sc, v1, v2, v3, v4] 33 (0, 0)) ∧ sn = (D ++ [(lev, no)]).length ∧ GRow w' B sa sc (D ++ [(lev, no)]) ∧ Turns (fun j => j = E ∨ ra = some ⟨j, 0, none⟩) w w' ∧ (∀ q, sa = some ⟨q, 0, none⟩ → ra = some ⟨q, 0, none⟩ ∨ w.heap.size ≤ q) := by
  have HE := hide hE
  have HA := hide hD
  have HSN := hide hrn.symm
  have HB := hide hB
  have HL := hide hmx
  have NEr := hide (show ∀ g, ra = some ⟨g, 0, none⟩ → ¬ g = E from fun g e => hD.ne hE (by decide) g e)
  have N1r := hide (show ∀ g, ra = some ⟨g, 0, none⟩ → ¬ g = P1 from fun g e => hD.ne h1 (by decide) g e)
  have N2r := hide (show ∀ g, ra = some ⟨g, 0, none⟩ → ¬ g = P2 from fun g e => hD.ne h2 (by decide) g e)
  have SK := hide (fun (u : World) (t : Turns (fun j => ra = some ⟨j, 0, none⟩) w u) => show u.cell? ⟨E, 0, none⟩ = some (.slice ra rn rc) ∧ u.cell? ⟨P1, 0, none⟩ = some (.int .i64 lev) ∧ u.cell? ⟨P2, 0, none⟩ = some (.int .u64 (no : Nat)) from ⟨t.cell (cell_of_row w E 0 _ 33 (0, 0) hE) (fun e => NEr.out _ e rfl), t.cell (cell_of_row w P1 0 _ 3 (0, 0) h1) (fun e => N1r.out _ e rfl), t.cell (cell_of_row w P2 0 _ 25 (0, 0) h2) (fun e => N2r.out _ e rfl)⟩)
  clear hE h1 h2 hD hrn hB hmx
  go_enter Tryz.func67, Tryz.ntmps67
  go_wp2_with fail
  have tV : Turns (fun j => ra = some ⟨j, 0, none⟩) w w.drew := (Turns.refl _ _).drew
  have tF : Turns (fun _ => False) w w.drew := (Turns.refl _ _).drew
  refine wp_region_z_drew 12 (S := fun u => u.cell? ⟨E, 0, none⟩ = some (.slice ra rn rc) ∧ u.cell? ⟨P1, 0, none⟩ = some (.int .i64 lev) ∧ u.cell? ⟨P2, 0, none⟩ = some (.int .u64 (no : Nat))) (by kernel_rfl) (SK.out _ tV) (fun _ => ?_)
  change wpAnyZ _ _ _ _ _ _ 13 (Array.replicate 13 false) _ _
  refine wpAnyZ_take (i := 0) (oi := { dst := some 4, op := Op.move (Operand.tmp 0), type := 115, pos := "edit.go:27", after := #[], guard := none }) (v := .pointer (some ⟨E, 0, none⟩)) rfl (by kernel_rfl) (by kernel_rfl) (by kernel_rfl) (by kernel_rfl) (fun _ _ _ h => h) (Or.inl ⟨by rfl, ?_⟩) (SK.out _ tV) ?_
  · rintro w ⟨s0, s1, s2⟩
    go_simp
  simp only [Act.put, List.setIfInBounds_toArray, List.set_cons_zero, List.set_cons_succ]
  refine wpAnyZ_take (i := 1) (oi := { dst := some 5, op := Op.move (Operand.tmp 0), type := 115, pos := "edit.go:27", after := #[], guard := none }) (v := .pointer (some ⟨E, 0, none⟩)) rfl (by kernel_rfl) (by kernel_rfl) (by kernel_rfl) (by kernel_rfl) (fun _ _ _ h => h) (Or.inl ⟨by rfl, ?_⟩) (SK.out _ tV) ?_
  · rintro w ⟨s0, s1, s2⟩
    go_simp
  simp only [Act.put, List.setIfInBounds_toArray, List.set_cons_zero, List.set_cons_succ]
  refine wpAnyZ_take (i := 2) (oi := { dst := some 6, op := Op.nilCheck (Operand.tmp 5), type := 0, pos := "edit.go:27", after := #[{ on := 1, ground := Ground.data }], guard := none }) (v := .pointer (some ⟨E, 0, none⟩)) rfl (by kernel_rfl) (by kernel_rfl) (by kernel_rfl) (by kernel_rfl) (fun _ _ _ h => h) (Or.inl ⟨by rfl, ?_⟩) (SK.out _ tV) ?_
  · rintro w ⟨s0, s1, s2⟩
    go_simp
  simp only [Act.put, List.setIfInBounds_toArray, List.set_cons_zero, List.set_cons_succ]
  refine wpAnyZ_take (i := 3) (oi := { dst := some 7, op := Op.fieldAddr 33 (Operand.tmp 6) 0, type := 0, pos := "edit.go:27", after := #[{ on := 2, ground := Ground.data }], guard := none }) (v := .pointer (some ⟨E, 0, none⟩)) rfl (by kernel_rfl) (by kernel_rfl) (by kernel_rfl) (by kernel_rfl) (fun _ _ _ h => h) (Or.inl ⟨by rfl, ?_⟩) (SK.out _ tV) ?_
  · rintro w ⟨s0, s1, s2⟩
    go_simp
  simp only [Act.put, List.setIfInBounds_toArray, List.set_cons_zero, List.set_cons_succ]
  refine wpAnyZ_take (i := 4) (oi := { dst := some 8, op := Op.load 30 (Operand.tmp 7), type := 30, pos := "edit.go:27", after := #[{ on := 3, ground := Ground.data }], guard := none }) (v := .slice ra rn rc) rfl (by kernel_rfl) (by kernel_rfl) (by kernel_rfl) (by kernel_rfl) (fun _ _ _ h => h) (Or.inl ⟨by rfl, ?_⟩) (SK.out _ tV) ?_
  · rintro w ⟨s0, s1, s2⟩
    go_simp
  simp only [Act.put, List.setIfInBounds_toArray, List.set_cons_zero, List.set_cons_succ]
  refine wpAnyZ_take (i := 5) (oi := { dst := some 9, op := Op.load 3 (Operand.tmp 1), type := 3, pos := "edit.go:27", after := #[], guard := none }) (v := .int .i64 lev) rfl (by kernel_rfl) (by kernel_rfl) (by kernel_rfl) (by kernel_rfl) (fun _ _ _ h => h) (Or.inl ⟨by rfl, ?_⟩) (SK.out _ tV) ?_
  · rintro w ⟨s0, s1, s2⟩
    go_simp
  simp only [Act.put, List.setIfInBounds_toArray, List.set_cons_zero, List.set_cons_succ]
  refine wpAnyZ_take (i := 6) (oi := { dst := some 10, op := Op.load 25 (Operand.tmp 2), type := 25, pos := "edit.go:27", after := #[], guard := none }) (v := .int .u64 (no : Nat)) rfl (by kernel_rfl) (by kernel_rfl) (by kernel_rfl) (by kernel_rfl) (fun _ _ _ h => h) (Or.inl ⟨by rfl, ?_⟩) (SK.out _ tV) ?_
  · rintro w ⟨s0, s1, s2⟩
    go_simp
  simp only [Act.put, List.setIfInBounds_toArray, List.set_cons_zero, List.set_cons_succ]
  refine wpAnyZ_take (i := 7) (oi := { dst := some 11, op := Op.build 52 #[(0, Operand.tmp 9), (1, Operand.tmp 10)], type := 52, pos := "edit.go:27", after := #[{ on := 5, ground := Ground.data }, { on := 6, ground := Ground.data }], guard := none }) (v := .agg #[.int .i64 lev, .int .u64 (no : Nat)]) rfl (by kernel_rfl) (by kernel_rfl) (by kernel_rfl) (by kernel_rfl) (fun _ _ _ h => h) (Or.inl ⟨by rfl, ?_⟩) (SK.out _ tV) ?_
  · rintro w ⟨s0, s1, s2⟩
    go_simp
  simp only [Act.put, List.setIfInBounds_toArray, List.set_cons_zero, List.set_cons_succ]
  generalize w.drew = Wd at *
  obtain ⟨uA, huA⟩ : ∃ uA, uA = Wd.alloc (.cells #[.int .i64 lev, .int .u64 (no : Nat)] 52) := ⟨_, rfl⟩
  have hnA : uA.heap[Wd.heap.size]? = some (.cells #[.int .i64 lev, .int .u64 (no : Nat)] 52) := by rw [huA]; exact heap_alloc_new _ _
  have tA : Turns (fun _ => False) Wd uA := by rw [huA]; exact (Turns.refl _ _).alloc _
  refine wpAnyZ_ready (rs := [8]) (by kernel_rfl) (by simp) ?_
  refine AllReadyZ.cons rfl (fun K hK => ?_) AllReadyZ.nil
  go_simp
  rw [← huA]
  have tF := tF.trans tA
  have tV := tV.trans (tA.mono (S' := fun j => ra = some ⟨j, 0, none⟩) fun _ _ x => x.elim)
  refine hK.out _ _ (SK.out _ tV) (fun _ => ?_)
  clear hK K huA tA
  obtain ⟨a5, n5, c5, w5, hr5, hn5, hro5, ht5, hq5⟩ := append_dr uA B ra rc D (HA.out.keep tF fun _ _ x => x) (Nat.le_trans HB.out tF.size) HL.out (lev, no) Wd.heap.size 1 hnA
  rw [HSN.out] at hr5
  have tV5 := tV.trans ht5
  refine wpAnyZ_ready (rs := [9]) (by kernel_rfl) (by simp) ?_
  refine AllReadyZ.cons rfl (fun K hK => ?_) AllReadyZ.nil
  refine step_append_run rfl _ _ 30 rfl (.slice ra rn rc) (.slice (some ⟨Wd.heap.size, 0, none⟩) 1 1) rfl rfl _ _ (hr5 _) 13 rfl ?_
  refine hK.out _ _ (SK.out _ tV5) (fun _ => ?_)
  clear hK K
  simp only [Act.put, List.setIfInBounds_toArray, List.set_cons_zero, List.set_cons_succ]
  have tV := tV5
  refine wpAnyZ_late (i := 10) (oi := { dst := some 14, op := Op.nilCheck (Operand.tmp 4), type := 0, pos := "edit.go:27", after := #[{ on := 0, ground := Ground.data }, { on := 0, ground := Ground.phase }, { on := 1, ground := Ground.phase }, { on := 2, ground := Ground.phase }, { on := 3, ground := Ground.phase }, { on := 4, ground := Ground.phase }, { on := 5, ground := Ground.phase }, { on := 6, ground := Ground.phase }, { on := 7, ground := Ground.phase }, { on := 8, ground := Ground.phase }, { on := 9, ground := Ground.phase }], guard := none }) (v := .pointer (some ⟨E, 0, none⟩)) rfl (by kernel_rfl) (by kernel_rfl) (by kernel_rfl) (by kernel_rfl) (fun _ _ _ h => h) (Or.inl ⟨by rfl, ?_⟩) (.inr (SK.out _ tV)) ?_
  · rintro w -
    go_simp
  simp only [Act.put, List.setIfInBounds_toArray, List.set_cons_zero, List.set_cons_succ]
  refine wpAnyZ_take (i := 11) (oi := { dst := some 15, op := Op.fieldAddr 33 (Operand.tmp 14) 0, type := 0, pos := "edit.go:27", after := #[{ on := 10, ground := Ground.data }, { on := 0, ground := Ground.phase }, { on := 1, ground := Ground.phase }, { on := 2, ground := Ground.phase }, { on := 3, ground := Ground.phase }, { on := 4, ground := Ground.phase }, { on := 5, ground := Ground.phase }, { on := 6, ground := Ground.phase }, { on := 7, ground := Ground.phase }, { on := 8, ground := Ground.phase }, { on := 9, ground := Ground.phase }], guard := none }) (v := .pointer (some ⟨E, 0, none⟩)) rfl (by kernel_rfl) (by kernel_rfl) (by kernel_rfl) (by kernel_rfl) (fun _ _ _ h => h) (Or.inl ⟨by rfl, ?_⟩) (SK.out _ tV) ?_
  · rintro w ⟨s0, s1, s2⟩
    go_simp
  simp only [Act.put, List.setIfInBounds_toArray, List.set_cons_zero, List.set_cons_succ]
  have hE5 := tV5.heap HE.out (fun e => NEr.out E e rfl)
  have e1 := cell_of_row w5 E 0 _ 33 (0, 0) hE5
  have z1 := frozen_of_row w5 E 0 _ 33 hE5
  have TK := hide ((Tick.refl hE5).set 0 (.slice a5 n5 c5))
  have TV := hide tV5
  have RO5 := hide hro5
  have HN5 := hide hn5
  have HQ5 := hide hq5
  have TF := hide tF
  clear hE5 tV tV5 tF hro5 hn5 hq5 hr5 ht5 hnA
  refine wpAnyZ_ready (rs := [12]) (by kernel_rfl) (by simp) ?_
  refine AllReadyZ.free rfl (by kernel_rfl) (fun K hK => ?_) AllReadyZ.nil
  go_simp
  refine hK.out _ _ ?_
  clear hK K
  refine wpAnyZ_done (by kernel_rfl) ?_ _
  have FIN := hide (show (w5.setCell ⟨E, 0, none⟩ (.slice a5 n5 c5)).heap[E]? = some (.cells #[.slice a5 n5 c5, v1, v2, v3, v4] 33 (0, 0)) ∧ n5 = (D ++ [(lev, no)]).length ∧ GRow (w5.setCell ⟨E, 0, none⟩ (.slice a5 n5 c5)) B a5 c5 (D ++ [(lev, no)]) ∧ Turns (fun j => j = E ∨ ra = some ⟨j, 0, none⟩) w (w5.setCell ⟨E, 0, none⟩ (.slice a5 n5 c5)) ∧ (∀ q, a5 = some ⟨q, 0, none⟩ → ra = some ⟨q, 0, none⟩ ∨ w.heap.size ≤ q) from by
    have u := Turns.of_tick TK.out
    refine ⟨TK.out.1, HN5.out, RO5.out.keep u fun g e e2 => ?_, (TV.out.mono fun j _ e => .inr e).trans (u.mono fun j _ e => .inl e), fun q e => ?_⟩
    · have hE5 : w5.heap[E]? = some (.cells #[.slice ra rn rc, v1, v2, v3, v4] 33 (0, 0)) := TV.out.heap HE.out (fun e => NEr.out _ e rfl)
      exact RO5.out.ne hE5 (by decide) g e e2
    · rcases HQ5.out q e with h3 | h3
      · exact .inl h3
      · exact .inr (Nat.le_trans TF.out.size h3))
  clear TV RO5 HN5 HQ5 TF TK e1 z1
  go_wp2_with fail
  go_end0
  exact ⟨rfl, a5, n5, c5, FIN.out⟩
end Go.Proofs.YtmmcikbedegigaaGreat

/-
  Bytes of one's own that grow: numbers and pieces behind them.
-/
namespace Go.Proofs.YtmmcikbedegigaaGreat
open Go.RowKit
set_option maxRecDepth 100000
set_option maxHeartbeats 4000000
/-- Bytes of one's own, or none yet. -/
def ORow (w : World) (B : Nat) (a : Option Addr) (c : Nat) (bs : List (BitVec 8)) : Prop := (a = none ∧ bs = [] ∧ c = 0) ∨ ∃ g, a = some ⟨g, 0, none⟩ ∧ B ≤ g ∧ bs.length ≤ c ∧ RowB w g c bs
theorem ORow.keep {S : Nat → Prop} {w w' : World} {B : Nat} {a : Option Addr} {c : Nat} {bs : List (BitVec 8)} (h : ORow w B a c bs) (t : Turns S w w') (hS : ∀ g, a = some ⟨g, 0, none⟩ → ¬ S g) : ORow w' B a c bs := by
  rcases h with h | ⟨g, h1, h2, h3, h4⟩
  · exact .inl h
  · exact .inr ⟨g, h1, h2, h3, RowC.turns h4 t (hS g h1)⟩
theorem ORow.ne {w : World} {B : Nat} {a : Option Addr} {c : Nat} {bs : List (BitVec 8)} (h : ORow w B a c bs) {p : Nat} {cs : Array Value} {ty : TypeId} {z : Nat × Nat} (hp : w.heap[p]? = some (.cells cs ty z)) (h2 : ty ≠ 5) (g : Nat) (e : a = some ⟨g, 0, none⟩) : ¬ g = p := by
  intro e2
  subst e2
  rcases h with ⟨e3, _⟩ | ⟨g2, e3, _, _, cs2, h4, _⟩
  · rw [e3] at e; cases e
  · rw [e3] at e; cases e; rw [hp] at h4; cases h4; exact h2 rfl
theorem ORow.bytes {w : World} {B : Nat} {a : Option Addr} {c : Nat} {bs : List (BitVec 8)} (h : ORow w B a c bs) : Bytes w (.slice a bs.length c) bs := by
  rcases h with ⟨rfl, rfl, rfl⟩ | ⟨g, rfl, _, _, h4⟩
  · exact Bytes.empty w
  · exact RowB.bytes h4 rfl
theorem Nums.keep {S : Nat → Prop} {w w' : World} {a : Option Addr} {zs : List Nat} (h : Nums w a zs) (t : Turns S w w') (hS : ∀ b off, a = some ⟨b, off, none⟩ → ¬ S b) : Nums w' a zs := fun k z hz => by
  obtain ⟨h0, b, off, e, hc⟩ := h k z hz
  exact ⟨h0, b, off, e, t.cell hc (hS b off e)⟩
theorem app_o (w : World) (B : Nat) (a : Option Addr) (m c : Nat) (bs : List (BitVec 8)) (hm : m = bs.length) (x : Value) (news : List (BitVec 8)) (n : Nat) (hn : n = news.length) (h : ORow w B a c bs) (hx : Bytes w x news) (h0 : a = none → 0 < n) (hB : B ≤ w.heap.size) (hsm : m + n ≤ 140737488355328) :
    ∃ g' c' w', (∀ ty, (Builtin.append_ #[38, 38] ty #[.slice a m c, x]).run Tryz.prog w = .ok (.slice (some ⟨g', 0, none⟩) (m + n) c') w') ∧ ORow w' B (some ⟨g', 0, none⟩) c' (bs ++ news) ∧ Turns (fun j => a = some ⟨j, 0, none⟩) w w' ∧ (a = some ⟨g', 0, none⟩ ∨ w.heap.size ≤ g') := by
  have hbase : (a = none ∧ m = 0 ∧ c = 0 ∧ 0 < n) ∨ ∃ g, a = some ⟨g, 0, none⟩ ∧ B ≤ g ∧ m ≤ c ∧ RowB w g c bs := by
    rcases h with ⟨rfl, rfl, rfl⟩ | ⟨g, e, h1, h2, h3⟩
    · exact .inl ⟨rfl, by simpa using hm, rfl, h0 rfl⟩
    · exact .inr ⟨g, e, h1, by omega, h3⟩
  obtain ⟨g', c', w', hr, hg', hrow', hb', hc', h1, h2, h3⟩ := append_bytes2 w B a m c bs hm x news n hn hx hB hbase hsm
  refine ⟨g', c', w', hr, .inr ⟨g', rfl, hg', by rw [List.length_append, ← hm, ← hn]; exact hc', hrow'⟩, ⟨hb'.os, hb'.tape, hb'.output, hb'.size, fun k hk hn => h3 k hk hn⟩, ?_⟩
  rcases Nat.lt_or_ge c (m + n) with q | q
  · exact .inr (by rw [h2 q]; exact Nat.le_refl _)
  · exact .inl (h1 q).1
def shorts (zs : List Nat) : List (BitVec 8) := zs.flatMap short
theorem shorts_snoc {zs : List Nat} {k z : Nat} (h : zs[k]? = some z) : shorts (zs.take (k + 1)) = shorts (zs.take k) ++ short z := by
  unfold shorts
  rw [List.take_add_one, h, List.flatMap_append]
  simp
theorem shorts_len : ∀ (zs : List Nat), (∀ z ∈ zs, z < 18446744073709551616) → (shorts zs).length ≤ 10 * zs.length
  | [], _ => by simp [shorts]
  | z :: r, h => by
    have h1 := shorts_len r fun y hy => h y (List.mem_cons_of_mem _ hy)
    have h2 := short_len z (h z (by simp))
    unfold shorts at *
    rw [List.flatMap_cons, List.length_append, List.length_cons]
    omega
theorem Nums.lt {w : World} {a : Option Addr} {zs : List Nat} (h : Nums w a zs) : ∀ z ∈ zs, z < 18446744073709551616 := fun z hz => by
  obtain ⟨k, hk⟩ := List.getElem?_of_mem hz
  exact (h k z hk).1
theorem appendNumbers_any (B : Nat) (a : Option Addr) (m c : Nat) (bs : List (BitVec 8)) (hm : m = bs.length) (na : Option Addr) (nn nc : Nat) (zs : List Nat) (w : World) (h : ORow w B a c bs) (hz : Nums w na zs) (hnn : nn = zs.length) (hmx : nn ≤ 1000) (hne : ∀ b off, na = some ⟨b, off, none⟩ → ¬ a = some ⟨b, 0, none⟩) (hB : B ≤ w.heap.size) (hsm : m ≤ 700000000) :
    Calls Tryz.prog 27 #[.slice a m c, .slice na nn nc] w fun e w' => ∃ a' n' c', e = .returned (.slice a' n' c') ∧ n' = (bs ++ shorts zs).length ∧ ORow w' B a' c' (bs ++ shorts zs) ∧ Turns (fun j => a = some ⟨j, 0, none⟩) w w' ∧ (∀ g, a' = some ⟨g, 0, none⟩ → a = some ⟨g, 0, none⟩ ∨ w.heap.size ≤ g) := by
  have H := hide h
  have HZ := hide hz
  have HM := hide hm
  have HN := hide hnn
  have HE := hide hne
  have HB := hide hB
  have hni : (nn : Int) ≤ 1000 := by omega
  have hmi : (m : Int) ≤ 700000000 := by omega
  clear h hz hm hnn hne hB
  go_enter Tryz.func27, Tryz.ntmps27
  go_wp2_with fail
  go_loopw [0, 9] (fun sv i wr => ∃ (k : Nat) (a1 : Option Addr) (n1 c1 : Nat), i = .int .i64 (k : Nat) ∧ sv = .slice a1 n1 c1 ∧ k ≤ nn ∧ n1 = (bs ++ shorts (zs.take k)).length ∧ ORow wr B a1 c1 (bs ++ shorts (zs.take k)) ∧ Turns (fun j => a = some ⟨j, 0, none⟩) w wr ∧ (∀ g, a1 = some ⟨g, 0, none⟩ → a = some ⟨g, 0, none⟩ ∨ w.heap.size ≤ g)) (fun _ i _ => nn - (intOf i).toNat)
  case atStart => exact ⟨0, a, m, c, rfl, rfl, Nat.zero_le _, by rw [List.take_zero]; simpa [shorts] using HM.out, by rw [List.take_zero]; simpa [shorts] using H.out, Turns.refl _ _, fun g e => .inl e⟩
  case round =>
    obtain ⟨k, a1, n1, c1, rfl, rfl, hk, hn1, hrow, ht, hnew⟩ := hrel
    have HN1 := hide hn1
    have HR := hide hrow
    have HT := hide ht
    have HW := hide hnew
    clear hn1 hrow ht hnew
    by_cases hkn : k < nn
    · obtain ⟨z, hzk⟩ : ∃ z, zs[k]? = some z := ⟨_, List.getElem?_eq_getElem (by have := HN.out; omega)⟩
      have hzz := HZ.out.keep HT.out HE.out
      obtain ⟨hz64, b, off, ea, hcell⟩ := hzz k z hzk
      subst ea
      have i1 : (k : Int) < nn := by omega
      have i0 : (0 : Int) ≤ k := by omega
      have HS := hide (shorts_snoc hzk)
      have HL := hide (show n1 ≤ 700010000 by
        have h1 := shorts_len (zs.take k) fun y hy => HZ.out.lt y (List.mem_of_mem_take hy)
        have h2 := HN1.out
        have h3 := HM.out
        rw [List.length_append] at h2
        rw [List.length_take] at h1
        omega)
      have HSL := hide (short_len z hz64)
      clear hzz hzk
      go_wp2_with fail
      refine (number_nil z hz64 _).mono ?_
      rintro e w1 ⟨g2, c2, rfl, hg2, hrow2, hb2⟩
      have t2 : Turns (fun _ => False) wr w1 := Turns.of_below hb2 _
      obtain ⟨g', c', w2, hr, hr2, ht2, hn2⟩ := app_o w1 B a1 n1 c1 _ HN1.out (.slice (some ⟨g2, 0, none⟩) (short z).length c2) (short z) _ rfl (HR.out.keep t2 fun _ _ x => x) (RowB.bytes hrow2 rfl) (fun _ => by have := short_ne z; cases hq : short z with | nil => exact absurd hq this | cons _ _ => simp) (Nat.le_trans HB.out (Nat.le_trans HT.out.size t2.size)) (by have := HL.out; have := HSL.out; omega)
      have HA := hide hr
      have REL := hide (show n1 + (short z).length = (bs ++ shorts (zs.take (k + 1))).length ∧ ORow w2 B (some ⟨g', 0, none⟩) c' (bs ++ shorts (zs.take (k + 1))) ∧ Turns (fun j => a = some ⟨j, 0, none⟩) w w2 ∧ (∀ g, (some ⟨g', 0, none⟩ : Option Addr) = some ⟨g, 0, none⟩ → a = some ⟨g, 0, none⟩ ∨ w.heap.size ≤ g) from by
        rw [HS.out, ← List.append_assoc]
        refine ⟨by rw [List.length_append, ← HN1.out], hr2, (HT.out.trans (t2.mono fun _ _ x => x.elim)).andThen ht2 fun j hj e => ?_, fun g e => ?_⟩
        · rcases HW.out j e with e2 | e2
          · exact e2
          · omega
        · cases e
          rcases hn2 with e2 | e2
          · exact HW.out _ e2
          · exact .inr (Nat.le_trans (Nat.le_trans HT.out.size t2.size) e2))
      clear hr hr2 ht2 hn2 t2 hb2 hrow2 hcell HS HSL
      generalize (short z).length = L at *
      go_wp2_with (at_builtin; refine wpList_append_run rfl (.tmp 13) (.tmp 15) 38 rfl (.slice a1 n1 c1) (.slice (some ⟨g2, 0, none⟩) L c2) rfl rfl _ _ (HA.out _) ?_)
      go_roundw
      case rel => exact ⟨k + 1, some ⟨g', 0, none⟩, n1 + L, c', by go_num, rfl, by omega, REL.out⟩
      case measure => simp [intOf]; omega
    · obtain rfl : k = nn := by omega
      have REL := hide (show n1 = (bs ++ shorts zs).length ∧ ORow wr B a1 c1 (bs ++ shorts zs) from by
        have h1 := HN1.out
        have h2 := HR.out
        rw [List.take_of_length_le (by have := HN.out; omega)] at h1 h2
        exact ⟨h1, h2⟩)
      go_wp2_with fail
      go_ret
      exact ⟨a1, n1, c1, rfl, REL.out.1, REL.out.2, HT.out, HW.out⟩
end Go.Proofs.YtmmcikbedegigaaGreat
