import Derived.Test.YtmmcikbedegigaaM17
/-
  filesOf, overlaps, Bytes, Overlap, Deepest.
-/
namespace Go.Proofs.Ytmmcikbedegigaa
open Go.RowKit
set_option maxRecDepth 100000
set_option maxHeartbeats 4000000
def filesF (LL : List (List Fl)) (next seq log : Nat) (z : Int) : List Fl := if goodLev z && !wrongVF LL next seq log then LL.getD z.toNat [] else []
theorem filesOf_any (a : Option Addr) (n c next seq log : Nat) (L : List Lv) (z : Int) (w : World) (h : VerIn w a n L next seq log) :
    Calls Try.prog 32 #[verAgg a n c next seq log, .int .i64 z] w fun e w' => ∃ xa xn xc xl, e = .returned (.slice xa xn xc) ∧ xn = List.length xl ∧ Fils w' xa xl ∧ fls xl = filesF (flL L) next seq log z ∧ (∀ y ∈ xl, wrongF y.f = false) ∧ Turns (fun _ => False) w w' := by
  have TA := hide ((Turns.refl (fun _ => False) w).alloc (.cells #[.slice a n c, .int .u64 (next : Nat), .int .u64 (seq : Nat), .int .u64 (log : Nat)] 25))
  have R0 := hide (heap_alloc_new w (.cells #[.slice a n c, .int .u64 (next : Nat), .int .u64 (seq : Nat), .int .u64 (log : Nat)] 25))
  have CK := hide (check_any a n c next seq log L _ (h.quiet TA.out))
  have HCV := hide (show chkV L next seq log = if wrongV L next seq log then 2 else 0 from rfl)
  have HV := hide h
  have CL := hide (isLevel_any z)
  unfold verAgg at *
  clear h
  have HF := hide (show filesF (flL L) next seq log z = if goodLev z && !wrongV L next seq log then (flL L).getD z.toNat [] else [] by unfold filesF; rw [wrongV_F])
  generalize hV : wrongV L next seq log = V at *
  have HWV := hide hV
  clear hV
  generalize chkV L next seq log = C at *
  generalize hg : goodLev z = gl at *
  have HGL := hide hg
  clear hg
  generalize filesF (flL L) next seq log z = FF at *
  have NIL : Fils w none [] := fun k x hx => by simp at hx
  cases gl with
  | false =>
    go_enter Try.func32, Try.ntmps32
    go_wp2_with fail
    refine (CL.out _).mono ?_
    rintro e w1 ⟨rfl, rfl⟩
    go_wp2_with fail
    go_ret
    exact ⟨none, 0, 0, [], rfl, rfl, NIL.quiet TA.out, by rw [HF.out]; simp [fls], fun y hy => by simp at hy, TA.out⟩
  | true =>
    have hz : 0 ≤ z ∧ z < 5 := by simpa [goodLev] using HGL.out
    obtain ⟨k, rfl⟩ : ∃ k : Nat, z = k := ⟨z.toNat, by omega⟩
    have k5 : k < 5 := by omega
    have k5i : (k : Int) < 5 := by omega
    have k0i : (0 : Int) ≤ k := by omega
    clear hz
    cases V with
    | true =>
      have hc : C = 2 := HCV.out
      subst hc
      go_enter Try.func32, Try.ntmps32
      go_wp2_with fail
      refine (CL.out _).mono ?_
      rintro e w1 ⟨rfl, rfl⟩
      go_wp2_with fail
      refine CK.out.mono ?_
      rintro e w2 ⟨rfl, t2⟩
      have T2 := hide (TA.out.trans t2)
      clear t2
      go_wp2_with fail
      go_ret
      exact ⟨none, 0, 0, [], rfl, rfl, NIL.quiet T2.out, by rw [HF.out]; simp [fls], fun y hy => by simp at hy, T2.out⟩
    | false =>
      have hc : C = 0 := HCV.out
      subst hc
      have hn5 : n = 5 := by
        have h1 := HWV.out
        unfold wrongV at h1
        simp only [Bool.or_eq_false_iff, decide_eq_false_iff_not] at h1
        have h2 := HV.out.len
        omega
      subst hn5
      obtain ⟨x, hx⟩ : ∃ x, L[k]? = some x := ⟨_, List.getElem?_eq_getElem (by have := HV.out.len; omega)⟩
      obtain ⟨⟨b, off, rfl, hcl⟩, hfi⟩ := HV.out.levs k x hx
      have HCL := hide hcl
      have HFI := hide hfi
      have HEQ := hide (show fls x.l = FF by rw [HF.out]; have := flL_at hx; simp [List.getD, this])
      have HNW := hide (wrongV_files HWV.out x (List.mem_of_getElem? hx))
      obtain ⟨xa, xc, xl⟩ := x
      simp only at *
      generalize hXL : xl.length = XL at *
      have HXL := hide hXL
      clear hx hXL hcl hfi NIL
      go_enter Try.func32, Try.ntmps32
      go_wp2_with fail
      refine (CL.out _).mono ?_
      rintro e w1 ⟨rfl, rfl⟩
      go_wp2_with fail
      refine CK.out.mono ?_
      rintro e w2 ⟨rfl, t2⟩
      have T2 := hide (TA.out.trans t2)
      have q0 := cell_of_row w2 w.heap.size 0 _ 25 (0, 0) (t2.heap R0.out (fun x => x))
      have q1 := T2.out.cell HCL.out (fun x => x)
      clear t2
      go_wp2_with fail
      go_ret
      exact ⟨xa, XL, xc, xl, rfl, HXL.out.symm, HFI.out.quiet T2.out, HEQ.out, HNW.out, T2.out⟩
def overF (least most : List (BitVec 8)) (f : Fl) : Bool := decide (0 ≤ cmpB f.most least) && (decide (most.length = 0) || decide (cmpB f.least most ≤ 0))
theorem over1_any (x : Tf) (P1 P2 : Nat) (a1 : Option Addr) (n1 c1 : Nat) (a2 : Option Addr) (n2 c2 : Nat) (least most : List (BitVec 8)) (w : World) (h : FB w x) (h1 : w.cell? ⟨P1, 0, none⟩ = some (.slice a1 n1 c1)) (h2 : w.cell? ⟨P2, 0, none⟩ = some (.slice a2 n2 c2)) (b1 : Bytes w (.slice a1 n1 c1) least) (b2 : Bytes w (.slice a2 n2 c2) most) :
    Calls Try.prog 62 #[x.agg, .pointer (some ⟨P1, 0, none⟩), .pointer (some ⟨P2, 0, none⟩)] w fun e w' => e = .returned (.bool (overF least most x.f)) ∧ Turns (fun _ => False) w w' := by
  obtain ⟨la, lc, ma, mc, ⟨no, sz, ls, ms, en, sq⟩⟩ := x
  have TA := hide ((Turns.refl (fun _ => False) w).alloc (.cells #[.int .u64 (no : Nat), .int .i64 sz, .slice la ls.length lc, .slice ma ms.length mc, .int .i64 en, .int .u64 (sq : Nat)] 37))
  have C1 := hide (compareB_any ma a1 ms.length n1 mc c1 ms least _ (h.quiet TA.out).2 (b1.quiet TA.out))
  have C2 := hide (compareB_any la a2 ls.length n2 lc c2 ls most _ (h.quiet TA.out).1 (b2.quiet TA.out))
  have q1 := TA.out.cell h1 (fun x => x)
  have q2 := TA.out.cell h2 (fun x => x)
  have HL2 := hide b2.len
  unfold Tf.agg
  simp only
  clear h h1 h2 b1 b2
  generalize hx1 : cmpB ms least = x1 at *
  generalize hx2 : cmpB ls most = x2 at *
  have HO := hide (show overF least most ⟨no, sz, ls, ms, en, sq⟩ = (decide (0 ≤ x1) && (decide (n2 = 0) || decide (x2 ≤ 0))) by simp only [overF, hx1, hx2, HL2.out])
  clear hx1 hx2
  generalize overF least most ⟨no, sz, ls, ms, en, sq⟩ = O at *
  by_cases i1 : 0 ≤ x1
  · by_cases i2 : n2 = 0
    · subst i2
      go_enter Try.func62, Try.ntmps62
      go_wp2_with fail
      refine C1.out.mono ?_
      rintro e w1 ⟨rfl, rfl⟩
      go_wp2_with fail
      go_ret
      exact ⟨congrArg Ending.returned (congrArg Value.bool (by rw [HO.out]; simp [i1])), TA.out⟩
    · have i3 : ¬ (n2 : Int) = 0 := by omega
      go_enter Try.func62, Try.ntmps62
      go_wp2_with fail
      refine C1.out.mono ?_
      rintro e w1 ⟨rfl, rfl⟩
      go_wp2_with fail
      refine C2.out.mono ?_
      rintro e w1 ⟨rfl, rfl⟩
      go_wp2_with fail
      go_ret
      exact ⟨congrArg Ending.returned (congrArg Value.bool (by rw [HO.out]; simp [i1, i2])), TA.out⟩
  · go_enter Try.func62, Try.ntmps62
    go_wp2_with fail
    refine C1.out.mono ?_
    rintro e w1 ⟨rfl, rfl⟩
    go_wp2_with fail
    go_ret
    exact ⟨congrArg Ending.returned (congrArg Value.bool (by rw [HO.out]; simp; intro h; omega)), TA.out⟩
end Go.Proofs.Ytmmcikbedegigaa

/-
  Overlap, Bytes.
-/
namespace Go.Proofs.Ytmmcikbedegigaa
open Go.RowKit
set_option maxRecDepth 100000
set_option maxHeartbeats 4000000
theorem overlaps_any (a1 : Option Addr) (n1 c1 : Nat) (a2 : Option Addr) (n2 c2 : Nat) (w : World) : Calls Try.prog 33 #[.slice a1 n1 c1, .slice a2 n2 c2] w fun e w' => e = .returned (.func (.func 62) #[] #[.pointer (some ⟨w.heap.size, 0, none⟩), .pointer (some ⟨w.heap.size + 1, 0, none⟩)]) ∧ w'.cell? ⟨w.heap.size, 0, none⟩ = some (.slice a1 n1 c1) ∧ w'.cell? ⟨w.heap.size + 1, 0, none⟩ = some (.slice a2 n2 c2) ∧ Turns (fun _ => False) w w' := by
  have TA := hide (((Turns.refl (fun _ => False) w).alloc (.cells #[.slice a1 n1 c1] 35)).alloc (.cells #[.slice a2 n2 c2] 35))
  have R0 := hide (((Turns.refl (fun _ => False) (w.alloc (.cells #[.slice a1 n1 c1] 35))).alloc (.cells #[.slice a2 n2 c2] 35)).heap (heap_alloc_new w (.cells #[.slice a1 n1 c1] 35)) (fun x => x))
  have R1 := hide (heap_alloc_new (w.alloc (.cells #[.slice a1 n1 c1] 35)) (.cells #[.slice a2 n2 c2] 35))
  simp only [World.size_alloc] at R1
  go_enter Try.func33, Try.ntmps33
  go_wp2_with fail
  go_ret
  exact ⟨rfl, cell_of_row _ w.heap.size 0 _ 35 (0, 0) R0.out, cell_of_row _ (w.heap.size + 1) 0 _ 35 (0, 0) R1.out, TA.out⟩
def sizesF (l : List Fl) : Int := (l.map fun f => f.size).sum
theorem vbytes_any (a : Option Addr) (n c next seq log : Nat) (L : List Lv) (z : Int) (w : World) (h : VerIn w a n L next seq log) :
    Calls Try.prog 11 #[verAgg a n c next seq log, .int .i64 z] w fun e w' => e = .returned (.int .i64 (sizesF (filesF (flL L) next seq log z))) ∧ Turns (fun _ => False) w w' := by
  have TA := hide ((Turns.refl (fun _ => False) w).alloc (.cells #[.slice a n c, .int .u64 (next : Nat), .int .u64 (seq : Nat), .int .u64 (log : Nat)] 25))
  have CF := hide (filesOf_any a n c next seq log L z _ (h.quiet TA.out))
  have HLN := hide (show (filesF (flL L) next seq log z).length ≤ 5000 from by
    unfold filesF
    split
    · next hh =>
      cases hk : (flL L)[z.toNat]? with
      | none => simp [List.getD, hk]
      | some l =>
        simp only [List.getD, hk, Option.getD_some]
        simp only [flL, List.getElem?_map, Option.map_eq_some_iff] at hk
        obtain ⟨x, hx, rfl⟩ := hk
        have := cnt_take hx; have := cnt_take_le L (z.toNat + 1); have := h.cnt
        simp only [fls, List.length_map]
        omega
    · simp)
  unfold verAgg at *
  clear h
  generalize filesF (flL L) next seq log z = FF at *
  go_enter Try.func11, Try.ntmps11
  go_wp2_with fail
  refine CF.out.mono ?_
  rintro e w1 ⟨xa, xn, xc, xl, rfl, hxn, hfi, hfl, hnw, t1⟩
  have HXN := hide hxn
  have HFI := hide hfi
  have HFL := hide hfl
  have HNW := hide hnw
  have T1 := hide (TA.out.trans t1)
  have HXB := hide (show xn ≤ 5000 by have h1 := HLN.out; rw [← hfl] at h1; simp only [fls, List.length_map] at h1; omega)
  have hxi : (xn : Int) ≤ 5000 := by have := HXB.out; omega
  clear hxn hfi hfl hnw t1 CF
  go_wp2_with fail
  go_loopw [5, 12] (fun s i wr => ∃ (k : Nat) (t : Int), i = .int .i64 (k : Nat) ∧ s = .int .i64 t ∧ k ≤ xn ∧ t = ((xl.take k).map fun y => y.f.size).sum ∧ 0 ≤ t ∧ t ≤ k * 16777216 ∧ Turns (fun _ => False) w1 wr) (fun _ i _ => xn - (intOf i).toNat)
  case atStart => exact ⟨0, 0, rfl, rfl, Nat.zero_le _, by simp, by omega, by simp, Turns.refl _ _⟩
  case round =>
    obtain ⟨k, t, rfl, rfl, hk, ht, h0, h1, hb⟩ := hrel
    have HB := hide hb
    have HTT := hide ht
    clear hb ht
    by_cases hkn : k < xn
    · obtain ⟨y, hy⟩ : ∃ y, xl[k]? = some y := ⟨_, List.getElem?_eq_getElem (by have := HXN.out; omega)⟩
      obtain ⟨b, off, rfl, h6, hfb⟩ := fc_of (HFI.out.quiet HB.out) hy
      have i1 : (k : Int) < xn := by omega
      have i0 : (0 : Int) ≤ k := by omega
      obtain ⟨v1, v2, v3, v4, _⟩ := wrongF_false (HNW.out y (List.mem_of_getElem? hy))
      have HNX := hide (show ((xl.take (k + 1)).map fun y => y.f.size).sum = t + y.f.size by rw [List.take_add_one, hy, HTT.out]; simp [List.sum_append])
      obtain ⟨la, lc, ma, mc, ⟨no, sz, ls, ms, en, sq⟩⟩ := y
      obtain ⟨y0, y1, y2, y3, y4, y5⟩ := h6
      simp only at *
      have TF := hide ((Turns.refl (fun _ => False) wr).alloc (.cells #[.int .u64 (no : Nat), .int .i64 sz, .slice la ls.length lc, .slice ma ms.length mc, .int .i64 en, .int .u64 (sq : Nat)] 37))
      have hb1 : t + sz ≤ 9223372036854775807 := by omega
      have hk2 : t + sz ≤ ((k + 1 : Nat) : Int) * 16777216 := by omega
      have HK2 := hide hk2
      clear hfb hy v1 v2 hk2
      go_wp2_with fail
      go_roundw
      case rel => exact ⟨k + 1, t + sz, by go_num, by go_num, by omega, HNX.out.symm, by omega, HK2.out, HB.out.trans TF.out⟩
      case measure => simp [intOf]; omega
    · obtain rfl : k = xn := by omega
      have htk : xl.take k = xl := List.take_of_length_le (by have := HXN.out; omega)
      rw [htk] at HTT
      clear htk
      go_wp2_with fail
      go_ret
      exact ⟨congrArg Ending.returned (congrArg (Value.int .i64) (by rw [HTT.out, ← HFL.out]; unfold sizesF fls; rw [List.map_map]; rfl)), T1.out.trans HB.out⟩
end Go.Proofs.Ytmmcikbedegigaa

/-
  Overlap.
-/
namespace Go.Proofs.Ytmmcikbedegigaa
open Go.RowKit
set_option maxRecDepth 100000
set_option maxHeartbeats 4000000
theorem filesF_len (L : List Lv) (next seq log : Nat) (z : Int) (h : cnt L ≤ 5000) : (filesF (flL L) next seq log z).length ≤ 5000 := by
  unfold filesF
  split
  · next hh =>
    cases hk : (flL L)[z.toNat]? with
    | none => simp [List.getD, hk]
    | some l =>
      simp only [List.getD, hk, Option.getD_some]
      simp only [flL, List.getElem?_map, Option.map_eq_some_iff] at hk
      obtain ⟨x, hx, rfl⟩ := hk
      have := cnt_take hx; have := cnt_take_le L (z.toNat + 1)
      simp only [fls, List.length_map]
      omega
  · simp
theorem overlap_any (a : Option Addr) (n c next seq log : Nat) (L : List Lv) (z : Int) (a1 : Option Addr) (n1 c1 : Nat) (a2 : Option Addr) (n2 c2 : Nat) (least most : List (BitVec 8)) (w : World) (h : VerIn w a n L next seq log) (b1 : Bytes w (.slice a1 n1 c1) least) (b2 : Bytes w (.slice a2 n2 c2) most) :
    Calls Try.prog 22 #[verAgg a n c next seq log, .int .i64 z, .slice a1 n1 c1, .slice a2 n2 c2] w fun e w' => ∃ xa xc R, e = .returned (.slice xa (List.length R) xc) ∧ RowOk w' w.heap.size xa xc R ∧ fls R = (filesF (flL L) next seq log z).filter (overF least most) ∧ (∀ y ∈ R, FT w' w.heap.size y) ∧ Turns (fun _ => False) w w' := by
  have TA := hide ((Turns.refl (fun _ => False) w).alloc (.cells #[.slice a n c, .int .u64 (next : Nat), .int .u64 (seq : Nat), .int .u64 (log : Nat)] 25))
  have R0 := hide (heap_alloc_new w (.cells #[.slice a n c, .int .u64 (next : Nat), .int .u64 (seq : Nat), .int .u64 (log : Nat)] 25))
  have CF := hide (fun (u : World) (t : Turns (fun _ => False) w u) => filesOf_any a n c next seq log L z u (h.quiet t))
  have HLN := hide (filesF_len L next seq log z h.cnt)
  have HB1 := hide b1
  have HB2 := hide b2
  unfold verAgg at *
  clear h b1 b2
  generalize filesF (flL L) next seq log z = FF at *
  go_enter Try.func22, Try.ntmps22
  go_wp2_with fail
  refine (overlaps_any a1 n1 c1 a2 n2 c2 _).mono ?_
  rintro e w1 ⟨rfl, h1, h2, t1⟩
  have H1 := hide h1
  have H2 := hide h2
  have T1 := hide (TA.out.trans t1)
  have r1 := t1.heap R0.out (fun x => x)
  have q0 := cell_of_row w1 w.heap.size 0 _ 25 (0, 0) r1
  have q1 := cell_of_row w1 w.heap.size 1 _ 25 (0, 0) r1
  have q2 := cell_of_row w1 w.heap.size 2 _ 25 (0, 0) r1
  have q3 := cell_of_row w1 w.heap.size 3 _ 25 (0, 0) r1
  clear h1 h2 t1 r1
  generalize hP : (w.alloc (.cells #[.slice a n c, .int .u64 (next : Nat), .int .u64 (seq : Nat), .int .u64 (log : Nat)] 25)).heap.size = P at *
  clear hP
  go_wp2_with fail
  refine (CF.out _ T1.out).mono ?_
  rintro e w2 ⟨xa, xn, xc, xl, rfl, hxn, hfi, hfl, hnw, t2⟩
  have HXN := hide hxn
  have HFI := hide hfi
  have HFL := hide hfl
  have HNW := hide hnw
  have T2 := hide (T1.out.trans t2)
  have G1 := hide (t2.cell H1.out (fun x => x))
  have G2 := hide (t2.cell H2.out (fun x => x))
  have HXB := hide (show xn ≤ 5000 by have h1 := HLN.out; rw [← hfl] at h1; simp only [fls, List.length_map] at h1; omega)
  have hxi : (xn : Int) ≤ 5000 := by have := HXB.out; omega
  clear hxn hfi hfl hnw t2 q0 q1 q2 q3
  go_wp2_with fail
  go_loopw [9, 20] (fun v9 i wr => ∃ (k : Nat) (R : List Tf) (ra : Option Addr) (rn rc : Nat), i = .int .i64 (k : Nat) ∧ v9 = .slice ra rn rc ∧ rn = R.length ∧ k ≤ xn ∧ rn ≤ k ∧ RowOk wr w2.heap.size ra rc R ∧ fls R = (fls (xl.take k)).filter (overF least most) ∧ (∀ y ∈ R, FT wr w2.heap.size y) ∧ Turns (fun j => w2.heap.size ≤ j) w2 wr) (fun _ i _ => xn - (intOf i).toNat)
  case atStart => exact ⟨0, [], none, 0, 0, rfl, rfl, rfl, Nat.zero_le _, Nat.le_refl _, .inl ⟨rfl, rfl, rfl⟩, by simp [fls], fun y hy => (by cases hy), Turns.refl _ _⟩
  case round =>
    obtain ⟨k, R, ra, rn, rc, rfl, rfl, hrn, hk, hrk, hro, hfr, hft, htn⟩ := hrel
    have HRN := hide hrn
    have HRK := hide hrk
    have HRO := hide hro
    have HFR := hide hfr
    have HFT := hide hft
    have HTN := hide htn
    have HTQ := hide (show Turns (fun _ => False) w2 wr from htn.mono fun j hj e => by omega)
    clear hrn hro hfr hft htn
    by_cases hkn : k < xn
    · obtain ⟨y, hy⟩ : ∃ y, xl[k]? = some y := ⟨_, List.getElem?_eq_getElem (by have := HXN.out; omega)⟩
      obtain ⟨b, off, rfl, h6, hfb⟩ := fc_of (HFI.out.quiet HTQ.out) hy
      have i1 : (k : Int) < xn := by omega
      have i0 : (0 : Int) ≤ k := by omega
      obtain ⟨_, _, _, _, _, _, _, v8, _, v10, _⟩ := wrongF_false (HNW.out y (List.mem_of_getElem? hy))
      have HNX := hide (show (fls (xl.take (k + 1))).filter (overF least most) = fls R ++ if overF least most y.f then [y.f] else [] by
        rw [HFR.out, List.take_add_one, hy]
        simp only [fls, List.map_append, Option.toList_some, List.map_cons, List.map_nil, List.filter_append]
        congr 1
        cases h : overF least most y.f <;> simp [h])
      have CO := hide (fun (u : World) (t : Turns (fun _ => False) wr u) => over1_any y P (P + 1) a1 n1 c1 a2 n2 c2 least most u (hfb.quiet t) (t.cell (HTQ.out.cell G1.out (fun x => x)) (fun x => x)) (t.cell (HTQ.out.cell G2.out (fun x => x)) (fun x => x)) (HB1.out.quiet (T2.out.trans (HTQ.out.trans t))) (HB2.out.quiet (T2.out.trans (HTQ.out.trans t))))
      have CC := hide (fun (u : World) (t : Turns (fun _ => False) wr u) => cloneF_any y u (hfb.quiet t) (by omega) (by omega))
      obtain ⟨la, lc, ma, mc, ⟨no, sz, ls, ms, en, sq⟩⟩ := y
      obtain ⟨y0, y1, y2, y3, y4, y5⟩ := h6
      unfold Tf.agg at CO CC
      simp only at *
      generalize ls.length = L1 at *
      generalize ms.length = L2 at *
      have TF := hide ((Turns.refl (fun _ => False) wr).alloc (.cells #[.int .u64 (no : Nat), .int .i64 sz, .slice la L1 lc, .slice ma L2 mc, .int .i64 en, .int .u64 (sq : Nat)] 37))
      have RF := hide (heap_alloc_new wr (.cells #[.int .u64 (no : Nat), .int .i64 sz, .slice la L1 lc, .slice ma L2 mc, .int .i64 en, .int .u64 (sq : Nat)] 37))
      clear hfb hy v8 v10
      go_wp2_with fail
      refine (CO.out _ TF.out).mono ?_
      rintro e w3 ⟨rfl, t3⟩
      have T3 := hide (TF.out.trans t3)
      have R3 := hide (t3.heap RF.out (fun x => x))
      clear t3 CO
      generalize hov : overF least most ⟨no, sz, ls, ms, en, sq⟩ = ov at *
      clear hov y0 y1 y2 y3 y4 y5
      cases ov with
      | false =>
        go_wp2_with fail
        go_roundw
        case rel => exact ⟨k + 1, R, ra, rn, rc, by go_num, rfl, HRN.out, by omega, by omega, HRO.out.keep T3.out fun _ _ x => x, by rw [HNX.out]; simp, fun y hy => (HFT.out y hy).quiet T3.out, HTN.out.trans (T3.out.mono fun _ _ x => x.elim)⟩
        case measure => simp [intOf]; omega
      | true =>
        have c0 := cell_of_row w3 wr.heap.size 0 _ 37 (0, 0) R3.out
        have c1' := cell_of_row w3 wr.heap.size 1 _ 37 (0, 0) R3.out
        have c2' := cell_of_row w3 wr.heap.size 2 _ 37 (0, 0) R3.out
        have c3 := cell_of_row w3 wr.heap.size 3 _ 37 (0, 0) R3.out
        have c4 := cell_of_row w3 wr.heap.size 4 _ 37 (0, 0) R3.out
        have c5 := cell_of_row w3 wr.heap.size 5 _ 37 (0, 0) R3.out
        go_wp2_with fail
        refine (CC.out _ T3.out).mono ?_
        rintro e w4 ⟨y2, rfl, hyf, hft2, t4⟩
        obtain ⟨y2la, y2lc, y2ma, y2mc, ⟨no2, sz2, ls2, ms2, en2, sq2⟩⟩ := y2
        have T4 := hide (T3.out.trans t4)
        have TB := hide ((Turns.refl (fun _ => False) w4).alloc (.cells #[.int .u64 (no2 : Nat), .int .i64 sz2, .slice y2la ls2.length y2lc, .slice y2ma ms2.length y2mc, .int .i64 en2, .int .u64 (sq2 : Nat)] 37))
        have hnw := heap_alloc_new w4 (.cells #[.int .u64 (no2 : Nat), .int .i64 sz2, .slice y2la ls2.length y2lc, .slice y2ma ms2.length y2mc, .int .i64 en2, .int .u64 (sq2 : Nat)] 37)
        have hszs := HTN.out.size
        have hsz4 := T4.out.size
        have hszB := TB.out.size
        obtain ⟨a5, n5, c5', w5, hr5, hn5, hro5, ht5, hq5⟩ := append_fl _ w2.heap.size ra rc R (HRO.out.keep (T4.out.trans TB.out) fun _ _ x => x) (by omega) (by have := HRN.out; have := HXB.out; omega) ⟨y2la, y2lc, y2ma, y2mc, ⟨no2, sz2, ls2, ms2, en2, sq2⟩⟩ w4.heap.size 1 hnw
        rw [← HRN.out] at hr5
        have HR5 := hide hr5
        have REL := hide (show n5 = (R ++ [(⟨y2la, y2lc, y2ma, y2mc, ⟨no2, sz2, ls2, ms2, en2, sq2⟩⟩ : Tf)]).length ∧ n5 ≤ k + 1 ∧ RowOk w5 w2.heap.size a5 c5' (R ++ [(⟨y2la, y2lc, y2ma, y2mc, ⟨no2, sz2, ls2, ms2, en2, sq2⟩⟩ : Tf)]) ∧ fls (R ++ [(⟨y2la, y2lc, y2ma, y2mc, ⟨no2, sz2, ls2, ms2, en2, sq2⟩⟩ : Tf)]) = (fls (xl.take (k + 1))).filter (overF least most) ∧ (∀ y ∈ R ++ [(⟨y2la, y2lc, y2ma, y2mc, ⟨no2, sz2, ls2, ms2, en2, sq2⟩⟩ : Tf)], FT w5 w2.heap.size y) ∧ Turns (fun j => w2.heap.size ≤ j) w2 w5 from by
          have hyf' : (⟨no2, sz2, ls2, ms2, en2, sq2⟩ : Fl) = ⟨no, sz, ls, ms, en, sq⟩ := hyf
          have hne : ∀ j, ra = some ⟨j, 0, none⟩ → w2.heap.size ≤ j := fun j e => by
            rcases HRO.out with ⟨e3, _⟩ | ⟨g2, e3, h5, _⟩
            · rw [e3] at e; cases e
            · rw [e3] at e; cases e; exact h5
          refine ⟨hn5, by rw [hn5, List.length_append, ← HRN.out]; simp; omega, hro5, ?_, fun y hy => ?_, (HTN.out.trans ((T4.out.trans TB.out).mono fun _ _ x => x.elim)).trans (ht5.mono fun j _ e => hne j e)⟩
          · rw [HNX.out]
            simp [fls, hyf']
          · have hkeep : ∀ {B : Nat} {y : Tf}, FT (w4.alloc (.cells #[.int .u64 (no2 : Nat), .int .i64 sz2, .slice y2la ls2.length y2lc, .slice y2ma ms2.length y2mc, .int .i64 en2, .int .u64 (sq2 : Nat)] 37)) B y → FT w5 B y := fun hy => hy.keep ht5 fun j e _ cs' z' e2 => ((HRO.out.keep (T4.out.trans TB.out) fun _ _ x => x).ne e2 (by decide) j e rfl)
            rcases List.mem_append.1 hy with hy | hy
            · exact hkeep ((HFT.out y hy).quiet (T4.out.trans TB.out))
            · obtain rfl := List.mem_singleton.1 hy
              have hs3 := T3.out.size
              exact (hkeep (hft2.quiet TB.out)).mono (by omega))
        clear hr5 hn5 hro5 ht5 hq5 hnw t4 hyf hft2 c0 c1' c2' c3 c4 c5 hszs hsz4 hszB
        go_wp2_with (at_builtin; refine wpList_append_run rfl _ _ 50 rfl (.slice ra rn rc) (.slice (some ⟨w4.heap.size, 0, none⟩) 1 1) rfl rfl _ _ (HR5.out _) ?_)
        obtain ⟨r1, r2, r3, r4, r5, r6⟩ := REL.out
        go_roundw
        case rel => exact ⟨k + 1, _, a5, n5, c5', by go_num, rfl, r1, by omega, r2, r3, r4, r5, r6⟩
        case measure => simp [intOf]; omega
    · obtain rfl : k = xn := by omega
      have htk : xl.take k = xl := List.take_of_length_le (by have := HXN.out; omega)
      rw [htk, HFL.out] at HFR
      clear htk
      have hT2 := T2.out.size
      go_wp2_with fail
      go_ret
      exact ⟨ra, rc, R, by rw [HRN.out]; rfl, HRO.out.mono hT2, HFR.out, fun y hy => (HFT.out y hy).mono hT2, T2.out.trans HTQ.out⟩
end Go.Proofs.Ytmmcikbedegigaa

/-
  Deepest.
-/
namespace Go.Proofs.Ytmmcikbedegigaa
open Go.RowKit
set_option maxRecDepth 100000
set_option maxHeartbeats 4000000
def overT (least most : List (BitVec 8)) (x : Tf) : Bool := overF least most x.f
theorem index_over (a : Option Addr) (n c : Nat) (l : List Tf) (P1 P2 : Nat) (a1 : Option Addr) (n1 c1 : Nat) (a2 : Option Addr) (n2 c2 : Nat) (least most : List (BitVec 8)) (w : World) (h : Fils w a l) (hn : n = l.length) (hmx : n ≤ 1000000) (h1 : w.cell? ⟨P1, 0, none⟩ = some (.slice a1 n1 c1)) (h2 : w.cell? ⟨P2, 0, none⟩ = some (.slice a2 n2 c2)) (b1 : Bytes w (.slice a1 n1 c1) least) (b2 : Bytes w (.slice a2 n2 c2) most) :
    Calls Try.prog 64 #[.slice a n c, .func (.func 62) #[] #[.pointer (some ⟨P1, 0, none⟩), .pointer (some ⟨P2, 0, none⟩)]] w fun e w' => ∃ z : Int, e = .returned (.int .i64 z) ∧ (0 ≤ z ↔ l.any (overT least most) = true) ∧ Turns (fun _ => False) w w' := by
  have H := hide h
  have HL := hide hn
  have hni : (n : Int) ≤ 1000000 := by omega
  have CV := hide (fun (u : World) (t : Turns (fun _ => False) w u) (x : Tf) (hfb : FB u x) => over1_any x P1 P2 a1 n1 c1 a2 n2 c2 least most u hfb (t.cell h1 (fun x => x)) (t.cell h2 (fun x => x)) (b1.quiet t) (b2.quiet t))
  clear h hn h1 h2 b1 b2
  go_enter Try.func64, Try.ntmps64
  go_wp2_with fail
  go_loopw [8] (fun i wr => ∃ k : Nat, i = .int .i64 (k : Nat) ∧ k ≤ n ∧ (l.take k).any (overT least most) = false ∧ Turns (fun _ => False) w wr) (fun i _ => n - (intOf i).toNat)
  case atStart => exact ⟨0, rfl, Nat.zero_le _, rfl, Turns.refl _ _⟩
  case round =>
    obtain ⟨k, rfl, hk, hno, hb⟩ := hrel
    have HNO := hide hno
    have HB := hide hb
    clear hno hb
    by_cases hkn : k < n
    · obtain ⟨x, hx⟩ : ∃ x, l[k]? = some x := ⟨_, List.getElem?_eq_getElem (by have := HL.out; omega)⟩
      obtain ⟨b, off, rfl, h6, hfb⟩ := fc_of (H.out.quiet HB.out) hx
      have i1 : (k : Int) < (n : Int) := by omega
      have i0 : (0 : Int) ≤ (k : Int) := by omega
      have HTK := hide (show (l.take (k + 1)).any (overT least most) = (overT least most) x by rw [List.take_add_one, hx, List.any_append, HNO.out]; simp)
      have HANY := hide (show (overT least most) x = true → l.any (overT least most) = true from fun e => List.any_eq_true.2 ⟨x, List.mem_of_getElem? hx, e⟩)
      have CC := hide (show Calls Try.prog 62 #[x.agg, .pointer (some ⟨P1, 0, none⟩), .pointer (some ⟨P2, 0, none⟩)] wr fun e w' => e = .returned (.bool (overT least most x)) ∧ Turns (fun _ => False) wr w' from CV.out wr HB.out x hfb)
      obtain ⟨y0, y1, y2, y3, y4, y5⟩ := h6
      unfold Tf.agg at CC
      clear hfb hx
      go_wp2_with fail
      refine CC.out.mono ?_
      rintro e w1 ⟨rfl, t1⟩
      have B1 := hide (HB.out.trans t1)
      clear t1 CC y0 y1 y2 y3 y4 y5
      generalize hq : (overT least most) x = q at *
      have HQ := hide hq
      clear hq
      cases q
      · go_wp2_with fail
        go_roundw
        case rel => exact ⟨k + 1, by go_num, by omega, HTK.out, B1.out⟩
        case measure => simp [intOf]; omega
      · go_wp2_with fail
        go_ret
        exact ⟨_, rfl, ⟨fun _ => HANY.out trivial, fun _ => by omega⟩, B1.out⟩
    · obtain rfl : k = n := by omega
      have ht : l.take k = l := List.take_of_length_le (by have := HL.out; omega)
      have HT := hide ht
      clear ht
      go_wp2_with fail
      go_ret
      refine ⟨_, rfl, ⟨fun h => by omega, fun h => ?_⟩, HB.out⟩
      have := HNO.out
      rw [HT.out, h] at this
      cases this
theorem contains_over (a : Option Addr) (n c : Nat) (l : List Tf) (P1 P2 : Nat) (a1 : Option Addr) (n1 c1 : Nat) (a2 : Option Addr) (n2 c2 : Nat) (least most : List (BitVec 8)) (w : World) (h : Fils w a l) (hn : n = l.length) (hmx : n ≤ 1000000) (h1 : w.cell? ⟨P1, 0, none⟩ = some (.slice a1 n1 c1)) (h2 : w.cell? ⟨P2, 0, none⟩ = some (.slice a2 n2 c2)) (b1 : Bytes w (.slice a1 n1 c1) least) (b2 : Bytes w (.slice a2 n2 c2) most) :
    Calls Try.prog 34 #[.slice a n c, .func (.func 62) #[] #[.pointer (some ⟨P1, 0, none⟩), .pointer (some ⟨P2, 0, none⟩)]] w fun e w' => e = .returned (.bool (l.any (overT least most))) ∧ Turns (fun _ => False) w w' := by
  have IX := hide (index_over a n c l P1 P2 a1 n1 c1 a2 n2 c2 least most w h hn hmx h1 h2 b1 b2)
  clear h hn h1 h2 b1 b2
  go_enter Try.func34, Try.ntmps34
  go_wp2_with fail
  refine IX.out.mono ?_
  rintro e w1 ⟨z, rfl, hz, t1⟩
  have HZ := hide hz
  have B1 := hide t1
  clear hz t1 IX
  go_wp2_with fail
  go_ret
  refine ⟨congrArg Ending.returned (congrArg Value.bool (Bool.eq_iff_iff.2 ?_)), B1.out⟩
  rw [← HZ.out]
  simp
theorem len_of5 {LL : List (List Fl)} {next seq log : Nat} (h : wrongVF LL next seq log = false) : LL.length = 5 := by
  unfold wrongVF at h
  simp only [Bool.or_eq_false_iff, decide_eq_false_iff_not] at h
  omega
def deepF (LL : List (List Fl)) (next seq log : Nat) (z : Int) (least most : List (BitVec 8)) : Bool := decide (z < 0) || wrongVF LL next seq log || !(LL.zipIdx.any fun p => decide (z < (p.2 : Int)) && p.1.any (overF least most))
theorem deep_take {L : List Lv} {k : Nat} {x : Lv} (z : Int) (least most : List (BitVec 8)) (h : L[k]? = some x) : ((flL (L.take (k + 1))).zipIdx.any fun p => decide (z < (p.2 : Int)) && p.1.any (overF least most)) = (((flL (L.take k)).zipIdx.any fun p => decide (z < (p.2 : Int)) && p.1.any (overF least most)) || (decide (z < (k : Int)) && x.l.any (overT least most))) := by
  have hi := (List.getElem?_eq_some_iff.1 h).1
  have e : L.take (k + 1) = L.take k ++ [x] := by rw [List.take_add_one, h]; rfl
  have hl : (flL (L.take k)).length = k := by rw [flL_length, List.length_take]; omega
  rw [e, show flL (L.take k ++ [x]) = flL (L.take k) ++ [fls x.l] by simp [flL], List.zipIdx_append, List.any_append, hl, Nat.zero_add]
  congr 1
  simp only [List.zipIdx_singleton, List.any_cons, List.any_nil, Bool.or_false, fls, List.any_map]
  rfl
theorem deepest_any (a : Option Addr) (n c next seq log : Nat) (L : List Lv) (z : Int) (a1 : Option Addr) (n1 c1 : Nat) (a2 : Option Addr) (n2 c2 : Nat) (least most : List (BitVec 8)) (w : World) (h : VerIn w a n L next seq log) (b1 : Bytes w (.slice a1 n1 c1) least) (b2 : Bytes w (.slice a2 n2 c2) most) :
    Calls Try.prog 12 #[verAgg a n c next seq log, .int .i64 z, .slice a1 n1 c1, .slice a2 n2 c2] w fun e w' => e = .returned (.bool (deepF (flL L) next seq log z least most)) ∧ Turns (fun _ => False) w w' := by
  have TA := hide ((Turns.refl (fun _ => False) w).alloc (.cells #[.slice a n c, .int .u64 (next : Nat), .int .u64 (seq : Nat), .int .u64 (log : Nat)] 25))
  have R0 := hide (heap_alloc_new w (.cells #[.slice a n c, .int .u64 (next : Nat), .int .u64 (seq : Nat), .int .u64 (log : Nat)] 25))
  have CK := hide (check_any a n c next seq log L _ (h.quiet TA.out))
  have HCV := hide (show chkV L next seq log = if wrongV L next seq log then 2 else 0 from rfl)
  have HV := hide h
  have HB1 := hide b1
  have HB2 := hide b2
  unfold verAgg at *
  clear h b1 b2
  by_cases hz : z < 0
  · have HD := hide (show deepF (flL L) next seq log z least most = true by simp [deepF, hz])
    generalize deepF (flL L) next seq log z least most = DD at *
    go_enter Try.func12, Try.ntmps12
    go_wp2_with fail
    go_ret
    exact ⟨congrArg Ending.returned (congrArg Value.bool HD.out.symm), TA.out⟩
  generalize hV : wrongV L next seq log = V at *
  have HWV := hide (show wrongVF (flL L) next seq log = V by rw [← wrongV_F]; exact hV)
  clear hV
  generalize chkV L next seq log = C at *
  cases V with
  | true =>
    have hc : C = 2 := HCV.out
    subst hc
    have HD := hide (show deepF (flL L) next seq log z least most = true by simp [deepF, HWV.out])
    generalize deepF (flL L) next seq log z least most = DD at *
    go_enter Try.func12, Try.ntmps12
    go_wp2_with fail
    refine CK.out.mono ?_
    rintro e w1 ⟨rfl, t1⟩
    have T1 := hide (TA.out.trans t1)
    clear t1
    go_wp2_with fail
    go_ret
    exact ⟨congrArg Ending.returned (congrArg Value.bool HD.out.symm), T1.out⟩
  | false =>
    have hc : C = 0 := HCV.out
    subst hc
    have HD := hide (show deepF (flL L) next seq log z least most = !((flL L).zipIdx.any fun p => decide (z < (p.2 : Int)) && p.1.any (overF least most)) by simp [deepF, HWV.out, hz])
    generalize deepF (flL L) next seq log z least most = DD at *
    obtain rfl : n = 5 := by have h1 := len_of5 HWV.out; rw [flL_length] at h1; have := HV.out.len; omega
    go_enter Try.func12, Try.ntmps12
    go_wp2_with fail
    refine CK.out.mono ?_
    rintro e w1 ⟨rfl, t1⟩
    have T1 := hide (TA.out.trans t1)
    have R1 := hide (t1.heap R0.out (fun x => x))
    clear t1 CK
    go_wp2_with fail
    refine (overlaps_any a1 n1 c1 a2 n2 c2 w1).mono ?_
    rintro e w2 ⟨rfl, q1, q2, t2⟩
    have T2 := hide (T1.out.trans t2)
    have Q1 := hide q1
    have Q2 := hide q2
    have p0 := cell_of_row w2 w.heap.size 0 _ 25 (0, 0) (t2.heap R1.out (fun x => x))
    clear q1 q2 t2
    generalize w1.heap.size = P1 at *
    go_wp2_with fail
    clear p0
    go_loopw [25] (fun i wr => ∃ k : Nat, i = .int .i64 (k : Nat) ∧ k ≤ 5 ∧ ((flL (L.take k)).zipIdx.any fun p => decide (z < (p.2 : Int)) && p.1.any (overF least most)) = false ∧ Turns (fun _ => False) w2 wr) (fun i _ => 5 - (intOf i).toNat)
    case atStart => exact ⟨0, rfl, Nat.zero_le _, by simp [flL], Turns.refl _ _⟩
    case round =>
      obtain ⟨k, rfl, hk, hno, hb⟩ := hrel
      have HNO := hide hno
      have HB := hide hb
      clear hno hb
      by_cases hkn : k < 5
      · obtain ⟨x, hx⟩ : ∃ x, L[k]? = some x := ⟨_, List.getElem?_eq_getElem (by have := HV.out.len; omega)⟩
        obtain ⟨⟨b, off, rfl, hcl⟩, hfi⟩ := (HV.out.levs.quiet (T2.out.trans HB.out)) k x hx
        have i1 : (k : Int) < 5 := by omega
        have i0 : (0 : Int) ≤ (k : Int) := by omega
        have HTK := hide (deep_take z least most hx)
        have hxl : x.l.length ≤ 1000000 := by have := cnt_take hx; have := cnt_take_le L (k + 1); have := HV.out.cnt; omega
        have CC := hide (contains_over x.a x.l.length x.c x.l P1 (P1 + 1) a1 n1 c1 a2 n2 c2 least most wr hfi rfl hxl (HB.out.cell Q1.out (fun x => x)) (HB.out.cell Q2.out (fun x => x)) (HB1.out.quiet (T2.out.trans HB.out)) (HB2.out.quiet (T2.out.trans HB.out)))
        have HTRUE := hide (show z < (k : Int) → x.l.any (overT least most) = true → ((flL L).zipIdx.any fun p => decide (z < (p.2 : Int)) && p.1.any (overF least most)) = true from fun e1 e2 => List.any_eq_true.2 ⟨(fls x.l, k), List.mem_zipIdx_iff_getElem?.2 (flL_at hx), by simp only [fls, List.any_map, e1, decide_true, Bool.true_and]; exact e2⟩)
        obtain ⟨xa, xc, xl⟩ := x
        simp only at *
        generalize xl.length = XL at *
        generalize xl.any (overT least most) = OV at *
        clear hx hfi hxl
        by_cases hzk : z < (k : Int)
        · go_wp2_with fail
          refine CC.out.mono ?_
          rintro e w3 ⟨rfl, t3⟩
          have T3 := hide (HB.out.trans t3)
          clear t3 CC
          cases OV with
          | false =>
            go_wp2_with fail
            go_roundw
            case rel => exact ⟨k + 1, by go_num, by omega, by rw [HTK.out, HNO.out]; simp, T3.out⟩
            case measure => simp [intOf]; omega
          | true =>
            go_wp2_with fail
            go_ret
            exact ⟨congrArg Ending.returned (congrArg Value.bool (by rw [HD.out, HTRUE.out hzk trivial]; rfl)), T2.out.trans T3.out⟩
        · go_wp2_with fail
          go_roundw
          case rel => exact ⟨k + 1, by go_num, by omega, by rw [HTK.out, HNO.out]; simp; omega, HB.out⟩
          case measure => simp [intOf]; omega
      · obtain rfl : k = 5 := by omega
        have ht : L.take 5 = L := List.take_of_length_le (by have := HV.out.len; omega)
        rw [ht] at HNO
        clear ht
        go_wp2_with fail
        go_ret
        exact ⟨congrArg Ending.returned (congrArg Value.bool (by rw [HD.out, HNO.out]; rfl)), T2.out.trans HB.out⟩
end Go.Proofs.Ytmmcikbedegigaa
