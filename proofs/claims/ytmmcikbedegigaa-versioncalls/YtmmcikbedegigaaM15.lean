import Derived.Test.YtmmcikbedegigaaM14
/-
  add.
-/
namespace Go.Proofs.Ytmmcikbedegigaa
open Go.RowKit
set_option maxRecDepth 100000
set_option maxHeartbeats 4000000
/-- What adds have come to. -/
def Added (w' : World) (B G : Nat) (L : List Lv) (A : List (Int × Tf)) : Prop := ∃ L', L'.length = 5 ∧ DR w' B G 5 L' ∧ ∀ (k : Nat) (x x' : Lv), L[k]? = some x → L'[k]? = some x' → (fls x'.l).Perm (fls x.l ++ addsOn k A) ∧ SortF k x'.l
/-- How far the adding has come. -/
structure Add2 (w wr : World) (B G c P : Nat) (L : List Lv) (A : List (Int × Tf)) (i : Nat) (L2 : List Lv) : Prop where
  len : L2.length = 5
  dr : DR wr B G 5 L2
  fls : ∀ (k : Nat) (x x' : Lv), L[k]? = some x → L2[k]? = some x' → Ytmmcikbedegigaa.fls x'.l = Ytmmcikbedegigaa.fls x.l ++ addsOn k (A.take i)
  hp : wr.heap[P]? = some (.cells #[.slice (some ⟨G, 0, none⟩) 5 c] 54 (0, 0))
  good : (A.take i).all (fun d => goodLev d.1) = true
  own : ∀ k, own G L2 k → Ytmmcikbedegigaa.own G L k ∨ w.heap.size ≤ k
  turn : Turns (Ytmmcikbedegigaa.own G L) w wr
def F28 (u : World) (P G c k : Nat) (xa : Option Addr) (XL xc X no : Nat) (sz : Int) (la : Option Addr) (L1 lc : Nat) (ma : Option Addr) (L2 mc : Nat) (en : Int) (sq : Nat) : Prop :=
  u.cell? ⟨P, 0, none⟩ = some (.slice (some ⟨G, 0, none⟩) 5 c) ∧ u.cell? ⟨G, k, none⟩ = some (.slice xa XL xc) ∧ u.cell? ⟨X, 0, none⟩ = some (.int .i64 (k : Nat)) ∧ u.cell? ⟨X, 1, none⟩ = some (.int .u64 (no : Nat)) ∧ u.cell? ⟨X, 2, none⟩ = some (.int .i64 sz) ∧ u.cell? ⟨X, 3, none⟩ = some (.slice la L1 lc) ∧ u.cell? ⟨X, 4, none⟩ = some (.slice ma L2 mc) ∧ u.cell? ⟨X, 5, none⟩ = some (.int .i64 en) ∧ u.cell? ⟨X, 6, none⟩ = some (.int .u64 (sq : Nat))
theorem cnt_le_mul (b : Nat) : ∀ L : List Lv, (∀ x ∈ L, x.l.length ≤ b) → cnt L ≤ L.length * b
  | [], _ => by simp [cnt]
  | x :: r, h => by
    have h1 := cnt_le_mul b r fun y hy => h y (by simp [hy])
    have h2 := h x (by simp)
    unfold cnt at *
    simp only [List.map_cons, List.sum_cons, List.length_cons, Nat.add_mul, Nat.one_mul]
    omega
theorem add_any (w0 w : World) (T0 : Turns (fun _ => False) w0 w) (G c : Nat) (L : List Lv) (aa : Option Addr) (an ac : Nat) (A : List (Int × Tf)) (h : DR w w0.heap.size G 5 L) (hl : L.length = 5) (hc : cnt L ≤ 10000) (hf : Fit L) (hA : Adds w0 aa A) (han : an = A.length) (hdm : an ≤ 1000) (hfit : ∀ d ∈ A, d.2.f.no < 18446744073709551616 ∧ d.2.f.least.length ≤ 1000000 ∧ d.2.f.most.length ≤ 1000000) :
    Calls Try.prog 28 #[.agg #[.slice (some ⟨G, 0, none⟩) 5 c], .slice aa an ac] w fun e w' => Turns (own G L) w w' ∧ ((okAdds (mp (pairsL L)) (addNos A) = false ∧ e = .returned (.int .i64 5)) ∨ (okAdds (mp (pairsL L)) (addNos A) = true ∧ A.all (fun d => goodLev d.1) = false ∧ e = .returned (.int .i64 2)) ∨ (okAdds (mp (pairsL L)) (addNos A) = true ∧ A.all (fun d => goodLev d.1) = true ∧ e = .returned (.int .i64 0) ∧ Added w' w0.heap.size G L A)) := by
  have TA := hide ((Turns.refl (fun _ => False) w).alloc (.cells #[.slice (some ⟨G, 0, none⟩) 5 c] 54))
  have R0 := hide (heap_alloc_new w (.cells #[.slice (some ⟨G, 0, none⟩) 5 c] 54))
  have CLO := hide (levelOf_any (some ⟨G, 0, none⟩) 5 c L _ (h.levs.quiet TA.out) hl.symm (by omega) (by omega) hf)
  have H := hide h
  have HL := hide hl
  have HC := hide hc
  have HF := hide hf
  have HAA := hide hA
  have HAN := hide han
  have HT0 := hide T0
  have HFIT := hide hfit
  have hdi : (an : Int) ≤ 1000 := by omega
  clear h hl hc hf hA han T0 hfit
  go_enter Try.func28, Try.ntmps28
  go_wp2_with fail
  refine CLO.out.mono ?_
  rintro e w1 ⟨M, rfl, hM, hm, t1⟩
  have T1 := hide (TA.out.trans t1)
  have RP := hide (t1.heap R0.out (fun x => x))
  have HM1 := hide hm
  have HMS := hide hM
  have HPS := hide (show w.heap.size < w1.heap.size from lt_of_heap RP.out)
  clear hM hm t1 CLO
  go_wp2_with fail
  generalize hP : w.heap.size = P at *
  have HP := hide hP
  clear hP
  have MP := hide (show ¬ P = M from fun e => by have h1 := RP.out; rw [e] at h1; exact HM1.out.notCells h1)
  go_loopw [16] (fun i wr => ∃ (k : Nat) (m : Nat → Option Int) (s : Nat), i = .int .i64 (k : Nat) ∧ k ≤ an ∧ okAdds (mp (pairsL L)) (addNos A) = okAdds m (addNos (A.drop k)) ∧ MapN wr M (cnt L + k) m s ∧ Turns (fun j => j = M) w1 wr) (fun i _ => an - (intOf i).toNat)
  case atStart => exact ⟨0, _, _, rfl, Nat.zero_le _, rfl, HM1.out, Turns.refl _ _⟩
  case round =>
    obtain ⟨k, m, s, rfl, hk, hdp, hm, hb⟩ := hrel
    have HDP := hide hdp
    have HMM := hide hm
    have HB := hide hb
    have HW := hide (show Turns (fun _ => False) w wr from T1.out.andThen hb fun j hj e => by have := HMS.out; have := HP.out; simp at *; omega)
    clear hdp hm hb
    by_cases hkn : k < an
    · obtain ⟨d, hd⟩ : ∃ d, A[k]? = some d := ⟨_, List.getElem?_eq_getElem (by have := HAN.out; omega)⟩
      obtain ⟨⟨b, off, rfl, y0, h6⟩, hfb⟩ := (HAA.out.quiet (HT0.out.trans HW.out)) k d hd
      have hno := (HFIT.out d (List.mem_of_getElem? hd)).1
      have HST := hide (okAdds_drop hd HDP.out)
      have i1 : (k : Int) < an := by omega
      have i0 : (0 : Int) ≤ k := by omega
      obtain ⟨lv, ⟨la, lc, ma, mc, ⟨no, sz, ls, ms, en, sq⟩⟩⟩ := d
      obtain ⟨y1, y2, y3, y4, y5, y6⟩ := h6
      simp only [Nat.add_assoc, Nat.reduceAdd] at y1 y2 y3 y4 y5 y6
      simp only [← Nat.add_assoc] at y1 y2 y3 y4 y5 y6
      simp only at *
      generalize ls.length = L1 at *
      generalize ms.length = L2 at *
      have TF := hide ((Turns.refl (fun _ => False) wr).alloc (.cells #[.int .i64 lv, .int .u64 (no : Nat), .int .i64 sz, .slice la L1 lc, .slice ma L2 mc, .int .i64 en, .int .u64 (sq : Nat)] 62))
      obtain ⟨v, hlk, ⟨z, rfl⟩, hz⟩ := (HMM.out.keep TF.out (fun x => x)).look no hno
      have hcm := HC.out
      obtain ⟨w3, hup, hm3, ht3⟩ := (HMM.out.keep TF.out (fun x => x)).store (by unfold maxLen; omega) no hno lv
      have HM3 := hide hm3
      have HT3 := hide ht3
      clear hd hm3 ht3 hno hfb hcm hz
      cases hmn : m no with
      | some z' =>
        rw [hmn] at hlk HST
        clear hmn
        go_wp2_with fail
        go_ret
        exact ⟨(HW.out.trans TF.out).mono fun _ _ x => x.elim, .inl ⟨by rw [HST.out]; simp, rfl⟩⟩
      | none =>
        rw [hmn] at hlk HST
        clear hmn
        go_wp2_with fail
        go_roundw
        case rel => exact ⟨k + 1, _, _, by go_num, by omega, by rw [HST.out]; simp, HM3.out, (HB.out.trans (TF.out.mono fun _ _ x => x.elim)).trans HT3.out⟩
        case measure => simp [intOf]; omega
    · obtain rfl : k = an := by omega
      have hdr : A.drop k = [] := List.drop_eq_nil_of_le (by have := HAN.out; omega)
      have HOK := hide (show okAdds (mp (pairsL L)) (addNos A) = true by rw [HDP.out, hdr]; rfl)
      have RPW := hide (HB.out.heap RP.out MP.out)
      have A0 := hide (show Add2 w wr w0.heap.size G c P L A 0 L from ⟨HL.out, H.out.quiet HW.out, fun j x x' hx hx' => by rw [hx] at hx'; cases hx'; simp [addsOn], RPW.out, rfl, fun _ h => .inl h, HW.out.mono fun _ _ x => x.elim⟩)
      have HWS := hide (show w0.heap.size ≤ w.heap.size from HT0.out.size)
      clear hdr HDP HB HMM
      generalize hwl : wr = wl at *
      clear hwl
      go_wp2_with fail
      go_loopw [38] (fun v wr => ∃ (i : Nat) (L2 : List Lv), v = .int .i64 (i : Nat) ∧ i ≤ k ∧ Add2 w wr w0.heap.size G c P L A i L2) (fun v _ => k - (intOf v).toNat)
      case atStart => exact ⟨0, L, rfl, Nat.zero_le _, A0.out⟩
      case round =>
        obtain ⟨i, L2, rfl, hi, ha2⟩ := hrel
        have HA2 := hide ha2
        clear ha2
        have HWR := hide (show Turns (fun _ => False) w0 wr from HT0.out.andThen HA2.out.turn fun j hj e => by have := H.out.own_ge e; omega)
        by_cases hin : i < k
        · obtain ⟨d, hd⟩ : ∃ d, A[i]? = some d := ⟨_, List.getElem?_eq_getElem (by have := HAN.out; omega)⟩
          obtain ⟨⟨b, off, eaa, y0, h6⟩, hfb⟩ := (HAA.out.quiet HWR.out) i d hd
          have hfit := HFIT.out d (List.mem_of_getElem? hd)
          have i1 : (i : Int) < k := by omega
          have i0 : (0 : Int) ≤ i := by omega
          have HDI := hide hd
          have CC0 := hide (fun (u : World) (t : Turns (fun _ => False) wr u) => cloneF_any d.2 u (hfb.quiet t) hfit.2.1 hfit.2.2)
          obtain ⟨lv, ⟨la, lc, ma, mc, ⟨no, sz, ls, ms, en, sq⟩⟩⟩ := d
          obtain ⟨y1, y2, y3, y4, y5, y6⟩ := h6
          simp only [Nat.add_assoc, Nat.reduceAdd] at y1 y2 y3 y4 y5 y6
          simp only [← Nat.add_assoc] at y1 y2 y3 y4 y5 y6
          unfold Tf.agg at CC0
          simp only at *
          subst eaa
          generalize ls.length = L1 at *
          generalize ms.length = L2' at *
          clear hd hfb hfit
          have TF0 := hide ((Turns.refl (fun _ => False) wr).alloc (.cells #[.int .i64 lv, .int .u64 (no : Nat), .int .i64 sz, .slice la L1 lc, .slice ma L2' mc, .int .i64 en, .int .u64 (sq : Nat)] 62))
          have RF := hide (heap_alloc_new wr (.cells #[.int .i64 lv, .int .u64 (no : Nat), .int .i64 sz, .slice la L1 lc, .slice ma L2' mc, .int .i64 en, .int .u64 (sq : Nat)] 62))
          go_wp2_with fail
          refine (isLevel_any lv _).mono ?_
          rintro e wq ⟨rfl, rfl⟩
          cases hgl : goodLev lv with
          | false =>
            go_wp2_with fail
            go_ret
            refine ⟨HA2.out.turn.trans (TF0.out.mono fun _ _ x => x.elim), .inr (.inl ⟨HOK.out, ?_, rfl⟩)⟩
            exact List.all_eq_false.2 ⟨_, List.mem_of_getElem? HDI.out, by simp [hgl]⟩
          | true =>
            have hgl2 : 0 ≤ lv ∧ lv < 5 := by simpa [goodLev] using hgl
            obtain ⟨kk, rfl⟩ : ∃ kk : Nat, lv = kk := ⟨lv.toNat, by omega⟩
            have HGL := hide hgl
            clear hgl
            have hk5 : kk < 5 := by omega
            have k5i : (kk : Int) < 5 := by omega
            have k0i : (0 : Int) ≤ kk := by omega
            clear hgl2
            clear y0 y1 y2 y3 y4 y5 y6
            obtain ⟨x, hx⟩ : ∃ x, L2[kk]? = some x := ⟨_, List.getElem?_eq_getElem (by have := HA2.out.len; omega)⟩
            obtain ⟨x0, hx0⟩ : ∃ x, L[kk]? = some x := ⟨_, List.getElem?_eq_getElem (by have := HL.out; omega)⟩
            have hfx := HA2.out.fls kk x0 x hx0 hx
            have HXLN := hide (show x.l.length ≤ 1000000 by
              have h1 := congrArg List.length hfx
              have h2 : (addsOn kk (A.take i)).length ≤ i := by
                unfold addsOn
                rw [List.length_map]
                exact Nat.le_trans (List.length_filter_le _ _) (by rw [List.length_take]; omega)
              simp only [fls, List.length_map, List.length_append] at h1
              have := cnt_take hx0; have := cnt_take_le L (kk + 1); have := HC.out; omega)
            obtain ⟨⟨b2, off2, e2, hcl⟩, _⟩ := HA2.out.dr.levs kk x hx
            cases e2
            rw [Nat.zero_add] at hcl
            have HX := hide hx
            have HX0 := hide hx0
            have HFX := hide hfx
            obtain ⟨xa, xc, xl⟩ := x
            simp only at *
            generalize hXL : xl.length = XL at *
            have HXL := hide hXL
            clear hx hx0 hfx hXL
            go_upto_region 15 with (fail)
            have HDW := hide (HA2.out.dr.quiet TF0.out)
            have HWS2 := hide (show w0.heap.size ≤ (wr.alloc (.cells #[.int .i64 (kk : Nat), .int .u64 (no : Nat), .int .i64 sz, .slice la L1 lc, .slice ma L2' mc, .int .i64 en, .int .u64 (sq : Nat)] 62)).heap.size from Nat.le_trans HWR.out.size TF0.out.size)
            have HPW := hide (TF0.out.heap HA2.out.hp (fun x => x))
            have HGC := hide (TF0.out.cell hcl (fun x => x))
            clear hcl
            generalize wr.alloc (.cells #[.int .i64 (kk : Nat), .int .u64 (no : Nat), .int .i64 sz, .slice la L1 lc, .slice ma L2' mc, .int .i64 en, .int .u64 (sq : Nat)] 62) = W at *
            generalize hX : wr.heap.size = X at *
            have NP := hide (show ∀ g, xa = some ⟨g, 0, none⟩ → ¬ g = P from (HDW.out.rows kk _ HX.out).ne HPW.out (by decide))
            have NX := hide (show ∀ g, xa = some ⟨g, 0, none⟩ → ¬ g = X from (HDW.out.rows kk _ HX.out).ne RF.out (by decide))
            have NG := hide (show ∀ g, xa = some ⟨g, 0, none⟩ → ¬ g = G from fun g e => by obtain ⟨cs, h1, _⟩ := HDW.out.head; exact (HDW.out.rows kk _ HX.out).ne h1 (by decide) g e)
            have CC := hide (fun (u : World) (t : Turns (fun _ => False) W u) => CC0.out u (TF0.out.trans t))
            have tV : Turns (fun j => xa = some ⟨j, 0, none⟩) W W.drew := (Turns.refl _ _).drew
            have tF : Turns (fun _ => False) W W.drew := (Turns.refl _ _).drew
            have SK := hide (fun (u : World) (t : Turns (fun j => xa = some ⟨j, 0, none⟩) W u) => show F28 u P G c kk xa XL xc X no sz la L1 lc ma L2' mc en sq from ⟨t.cell (cell_of_row W P 0 _ 54 (0, 0) HPW.out) (fun e => NP.out _ e rfl), t.cell HGC.out (fun e => NG.out _ e rfl), t.cell (cell_of_row W X 0 _ 62 (0, 0) RF.out) (fun e => NX.out _ e rfl), t.cell (cell_of_row W X 1 _ 62 (0, 0) RF.out) (fun e => NX.out _ e rfl), t.cell (cell_of_row W X 2 _ 62 (0, 0) RF.out) (fun e => NX.out _ e rfl), t.cell (cell_of_row W X 3 _ 62 (0, 0) RF.out) (fun e => NX.out _ e rfl), t.cell (cell_of_row W X 4 _ 62 (0, 0) RF.out) (fun e => NX.out _ e rfl), t.cell (cell_of_row W X 5 _ 62 (0, 0) RF.out) (fun e => NX.out _ e rfl), t.cell (cell_of_row W X 6 _ 62 (0, 0) RF.out) (fun e => NX.out _ e rfl)⟩)
            refine wp_region_z_drew 16 (S := fun u => F28 u P G c kk xa XL xc X no sz la L1 lc ma L2' mc en sq) (by kernel_rfl) (SK.out _ tV) (fun _ => ?_)
            change wpAnyZ _ _ _ _ _ _ 17 (Array.replicate 17 false) _ _
            refine wpAnyZ_take (i := 0) (oi := { dst := some 46, op := Op.fieldAddr 54 (Operand.tmp 2) 0, type := 0, pos := "lists.go:97", after := #[], guard := none }) (v := .pointer (some ⟨P, 0, none⟩)) rfl (by kernel_rfl) (by kernel_rfl) (by kernel_rfl) (by kernel_rfl) (fun _ _ _ h => h) (Or.inl ⟨by rfl, ?_⟩) (SK.out _ tV) ?_
            · rintro w ⟨s0, s1, s2, d0, d1, d2, d3, d4, d5⟩
              go_simp
            simp only [Act.put, List.setIfInBounds_toArray, List.set_cons_zero, List.set_cons_succ]
            refine wpAnyZ_take (i := 1) (oi := { dst := some 47, op := Op.load 22 (Operand.tmp 46), type := 22, pos := "lists.go:97", after := #[{ on := 0, ground := Ground.data }], guard := none }) (v := .slice (some ⟨G, 0, none⟩) 5 c) rfl (by kernel_rfl) (by kernel_rfl) (by kernel_rfl) (by kernel_rfl) (fun _ _ _ h => h) (Or.inl ⟨by rfl, ?_⟩) (SK.out _ tV) ?_
            · rintro w ⟨s0, s1, s2, d0, d1, d2, d3, d4, d5⟩
              go_simp
            simp only [Act.put, List.setIfInBounds_toArray, List.set_cons_zero, List.set_cons_succ]
            refine wpAnyZ_take (i := 2) (oi := { dst := some 48, op := Op.fieldAddr 62 (Operand.tmp 11) 0, type := 0, pos := "lists.go:97", after := #[], guard := none }) (v := .pointer (some ⟨X, 0, none⟩)) rfl (by kernel_rfl) (by kernel_rfl) (by kernel_rfl) (by kernel_rfl) (fun _ _ _ h => h) (Or.inl ⟨by rfl, ?_⟩) (SK.out _ tV) ?_
            · rintro w ⟨s0, s1, s2, d0, d1, d2, d3, d4, d5⟩
              go_simp
            simp only [Act.put, List.setIfInBounds_toArray, List.set_cons_zero, List.set_cons_succ]
            refine wpAnyZ_take (i := 3) (oi := { dst := some 49, op := Op.load 3 (Operand.tmp 48), type := 3, pos := "lists.go:97", after := #[{ on := 2, ground := Ground.data }], guard := none }) (v := .int .i64 (kk : Nat)) rfl (by kernel_rfl) (by kernel_rfl) (by kernel_rfl) (by kernel_rfl) (fun _ _ _ h => h) (Or.inl ⟨by rfl, ?_⟩) (SK.out _ tV) ?_
            · rintro w ⟨s0, s1, s2, d0, d1, d2, d3, d4, d5⟩
              go_simp
            simp only [Act.put, List.setIfInBounds_toArray, List.set_cons_zero, List.set_cons_succ]
            refine wpAnyZ_take (i := 4) (oi := { dst := some 50, op := Op.fieldAddr 54 (Operand.tmp 2) 0, type := 0, pos := "lists.go:97", after := #[], guard := none }) (v := .pointer (some ⟨P, 0, none⟩)) rfl (by kernel_rfl) (by kernel_rfl) (by kernel_rfl) (by kernel_rfl) (fun _ _ _ h => h) (Or.inl ⟨by rfl, ?_⟩) (SK.out _ tV) ?_
            · rintro w ⟨s0, s1, s2, d0, d1, d2, d3, d4, d5⟩
              go_simp
            simp only [Act.put, List.setIfInBounds_toArray, List.set_cons_zero, List.set_cons_succ]
            refine wpAnyZ_take (i := 5) (oi := { dst := some 51, op := Op.load 22 (Operand.tmp 50), type := 22, pos := "lists.go:97", after := #[{ on := 4, ground := Ground.data }], guard := none }) (v := .slice (some ⟨G, 0, none⟩) 5 c) rfl (by kernel_rfl) (by kernel_rfl) (by kernel_rfl) (by kernel_rfl) (fun _ _ _ h => h) (Or.inl ⟨by rfl, ?_⟩) (SK.out _ tV) ?_
            · rintro w ⟨s0, s1, s2, d0, d1, d2, d3, d4, d5⟩
              go_simp
            simp only [Act.put, List.setIfInBounds_toArray, List.set_cons_zero, List.set_cons_succ]
            refine wpAnyZ_take (i := 6) (oi := { dst := some 52, op := Op.fieldAddr 62 (Operand.tmp 11) 0, type := 0, pos := "lists.go:97", after := #[], guard := none }) (v := .pointer (some ⟨X, 0, none⟩)) rfl (by kernel_rfl) (by kernel_rfl) (by kernel_rfl) (by kernel_rfl) (fun _ _ _ h => h) (Or.inl ⟨by rfl, ?_⟩) (SK.out _ tV) ?_
            · rintro w ⟨s0, s1, s2, d0, d1, d2, d3, d4, d5⟩
              go_simp
            simp only [Act.put, List.setIfInBounds_toArray, List.set_cons_zero, List.set_cons_succ]
            refine wpAnyZ_take (i := 7) (oi := { dst := some 53, op := Op.load 3 (Operand.tmp 52), type := 3, pos := "lists.go:97", after := #[{ on := 6, ground := Ground.data }], guard := none }) (v := .int .i64 (kk : Nat)) rfl (by kernel_rfl) (by kernel_rfl) (by kernel_rfl) (by kernel_rfl) (fun _ _ _ h => h) (Or.inl ⟨by rfl, ?_⟩) (SK.out _ tV) ?_
            · rintro w ⟨s0, s1, s2, d0, d1, d2, d3, d4, d5⟩
              go_simp
            simp only [Act.put, List.setIfInBounds_toArray, List.set_cons_zero, List.set_cons_succ]
            refine wpAnyZ_take (i := 8) (oi := { dst := some 54, op := Op.indexAddr 22 (Operand.tmp 51) (Operand.tmp 53), type := 0, pos := "lists.go:97", after := #[{ on := 5, ground := Ground.data }, { on := 7, ground := Ground.data }], guard := none }) (v := .pointer (some ⟨G, kk, none⟩)) rfl (by kernel_rfl) (by kernel_rfl) (by kernel_rfl) (by kernel_rfl) (fun _ _ _ h => h) (Or.inl ⟨by rfl, ?_⟩) (SK.out _ tV) ?_
            · rintro w ⟨s0, s1, s2, d0, d1, d2, d3, d4, d5⟩
              go_simp
            simp only [Act.put, List.setIfInBounds_toArray, List.set_cons_zero, List.set_cons_succ]
            refine wpAnyZ_take (i := 9) (oi := { dst := some 55, op := Op.load 50 (Operand.tmp 54), type := 50, pos := "lists.go:97", after := #[{ on := 8, ground := Ground.data }], guard := none }) (v := .slice xa XL xc) rfl (by kernel_rfl) (by kernel_rfl) (by kernel_rfl) (by kernel_rfl) (fun _ _ _ h => h) (Or.inl ⟨by rfl, ?_⟩) (SK.out _ tV) ?_
            · rintro w ⟨s0, s1, s2, d0, d1, d2, d3, d4, d5⟩
              go_simp
            simp only [Act.put, List.setIfInBounds_toArray, List.set_cons_zero, List.set_cons_succ]
            refine wpAnyZ_take (i := 10) (oi := { dst := some 56, op := Op.fieldAddr 62 (Operand.tmp 11) 1, type := 0, pos := "lists.go:97", after := #[], guard := none }) (v := .pointer (some ⟨X, 1, none⟩)) rfl (by kernel_rfl) (by kernel_rfl) (by kernel_rfl) (by kernel_rfl) (fun _ _ _ h => h) (Or.inl ⟨by rfl, ?_⟩) (SK.out _ tV) ?_
            · rintro w ⟨s0, s1, s2, d0, d1, d2, d3, d4, d5⟩
              go_simp
            simp only [Act.put, List.setIfInBounds_toArray, List.set_cons_zero, List.set_cons_succ]
            refine wpAnyZ_take (i := 11) (oi := { dst := some 57, op := Op.load 37 (Operand.tmp 56), type := 37, pos := "lists.go:97", after := #[{ on := 10, ground := Ground.data }], guard := none }) (v := .agg #[.int .u64 (no : Nat), .int .i64 sz, .slice la L1 lc, .slice ma L2' mc, .int .i64 en, .int .u64 (sq : Nat)]) rfl (by kernel_rfl) (by kernel_rfl) (by kernel_rfl) (by kernel_rfl) (fun _ _ _ h => h) (Or.inl ⟨by rfl, ?_⟩) (SK.out _ tV) ?_
            · rintro w ⟨s0, s1, s2, d0, d1, d2, d3, d4, d5⟩
              go_simp
            simp only [Act.put, List.setIfInBounds_toArray, List.set_cons_zero, List.set_cons_succ]
            refine wpAnyZ_ready (rs := [12]) (by kernel_rfl) (by simp) ?_
            refine AllReadyZ.cons rfl (fun K hK => ?_) AllReadyZ.nil
            go_simp
            refine (CC.out _ tF).mono ?_
            rintro oo Vn ⟨y2, rfl, hyf, hft, tq⟩
            have tF := tF.trans tq
            have tV := tV.trans (tq.mono (S' := fun j => xa = some ⟨j, 0, none⟩) fun _ _ x => x.elim)
            have HYF := hide hyf
            have HFT := hide hft
            clear hyf hft tq
            go_simp
            refine hK.out _ _ (SK.out _ tV) (fun _ => ?_)
            clear hK K
            obtain ⟨y2la, y2lc, y2ma, y2mc, ⟨no2, sz2, ls2, ms2, en2, sq2⟩⟩ := y2
            have tF2 := tF.alloc (.cells #[.int .u64 (no2 : Nat), .int .i64 sz2, .slice y2la ls2.length y2lc, .slice y2ma ms2.length y2mc, .int .i64 en2, .int .u64 (sq2 : Nat)] 37)
            have tV2 := tV.alloc (.cells #[.int .u64 (no2 : Nat), .int .i64 sz2, .slice y2la ls2.length y2lc, .slice y2ma ms2.length y2mc, .int .i64 en2, .int .u64 (sq2 : Nat)] 37)
            have hnw := heap_alloc_new Vn (.cells #[.int .u64 (no2 : Nat), .int .i64 sz2, .slice y2la ls2.length y2lc, .slice y2ma ms2.length y2mc, .int .i64 en2, .int .u64 (sq2 : Nat)] 37)
            refine wpAnyZ_ready (rs := [13]) (by kernel_rfl) (by simp) ?_
            refine AllReadyZ.cons rfl (fun K hK => ?_) AllReadyZ.nil
            go_simp
            refine hK.out _ _ (SK.out _ tV2) (fun _ => ?_)
            clear hK K
            have HFT2 := hide (HFT.out.quiet ((Turns.refl (fun _ => False) Vn).alloc (.cells #[.int .u64 (no2 : Nat), .int .i64 sz2, .slice y2la ls2.length y2lc, .slice y2ma ms2.length y2mc, .int .i64 en2, .int .u64 (sq2 : Nat)] 37)))
            have hbw : w0.heap.size ≤ (Vn.alloc (.cells #[.int .u64 (no2 : Nat), .int .i64 sz2, .slice y2la ls2.length y2lc, .slice y2ma ms2.length y2mc, .int .i64 en2, .int .u64 (sq2 : Nat)] 37)).heap.size := by have h1 := HWS2.out; have h2 := tF2.size; omega
            obtain ⟨a3, n3, c3, w3, hr3, hn3, hro3, ht3, hq3⟩ := append_fl _ w0.heap.size xa xc xl ((HDW.out.rows kk _ HX.out).keep tF2 fun _ _ x => x) hbw (by rw [HXL.out]; exact HXLN.out) ⟨y2la, y2lc, y2ma, y2mc, ⟨no2, sz2, ls2, ms2, en2, sq2⟩⟩ Vn.heap.size 1 hnw
            rw [HXL.out] at hr3
            have tV3 := tV2.trans ht3
            refine wpAnyZ_ready (rs := [14]) (by kernel_rfl) (by simp) ?_
            refine AllReadyZ.cons rfl (fun K hK => ?_) AllReadyZ.nil
            refine step_append_run rfl _ _ 50 rfl (.slice xa XL xc) (.slice (some ⟨Vn.heap.size, 0, none⟩) 1 1) rfl rfl _ _ (hr3 _) 60 rfl ?_
            refine hK.out _ _ (SK.out _ tV3) (fun _ => ?_)
            clear hK K
            simp only [Act.put, List.setIfInBounds_toArray, List.set_cons_zero, List.set_cons_succ]
            have tV := tV3
            refine wpAnyZ_take (i := 15) (oi := { dst := some 61, op := Op.indexAddr 22 (Operand.tmp 47) (Operand.tmp 49), type := 0, pos := "lists.go:97", after := #[{ on := 1, ground := Ground.data }, { on := 3, ground := Ground.data }, { on := 0, ground := Ground.phase }, { on := 1, ground := Ground.phase }, { on := 2, ground := Ground.phase }, { on := 3, ground := Ground.phase }, { on := 4, ground := Ground.phase }, { on := 5, ground := Ground.phase }, { on := 6, ground := Ground.phase }, { on := 7, ground := Ground.phase }, { on := 8, ground := Ground.phase }, { on := 9, ground := Ground.phase }, { on := 10, ground := Ground.phase }, { on := 11, ground := Ground.phase }, { on := 12, ground := Ground.phase }, { on := 13, ground := Ground.phase }, { on := 14, ground := Ground.phase }], guard := none }) (v := .pointer (some ⟨G, kk, none⟩)) rfl (by kernel_rfl) (by kernel_rfl) (by kernel_rfl) (by kernel_rfl) (fun _ _ _ h => h) (Or.inl ⟨by rfl, ?_⟩) (SK.out _ tV) ?_
            · rintro w ⟨s0, s1, s2, d0, d1, d2, d3, d4, d5⟩
              go_simp
            simp only [Act.put, List.setIfInBounds_toArray, List.set_cons_zero, List.set_cons_succ]
            obtain ⟨cs1, hg1, hcs1, _⟩ := HDW.out.head
            have hg2 := tV3.heap hg1 (fun e => (HDW.out.rows kk _ HX.out).ne hg1 (by decide) G e rfl)
            obtain ⟨dv, d0⟩ : ∃ dv, w3.cell? ⟨G, kk, none⟩ = some dv := ⟨_, by rw [cell_of_row _ G kk _ 50 (0, 0) hg2]; exact Array.getElem?_eq_getElem (by omega)⟩
            have z0 := frozen_of_row w3 G kk _ 50 hg2
            have TV := hide tV3
            have TF := hide tF2
            have TT := hide (Turns.of_tick ((Tick.refl hg2).set kk (.slice a3 n3 c3)))
            have RO3 := hide hro3
            have HN3 := hide hn3
            have HT3 := hide ht3
            have HQ3 := hide hq3
            clear hg1 hg2 hcs1 tV tV2 tV3 tF tF2 hro3 hn3 hr3 ht3 hq3 hnw hbw
            refine wpAnyZ_ready (rs := [16]) (by kernel_rfl) (by simp) ?_
            refine AllReadyZ.free rfl (by kernel_rfl) (fun K hK => ?_) AllReadyZ.nil
            go_simp
            refine hK.out _ _ ?_
            clear hK K
            refine wpAnyZ_done (by kernel_rfl) ?_ _
            clear d0 z0
            have REL := hide (show ∃ L3 : List Lv, Add2 w (w3.setCell ⟨G, kk, none⟩ (.slice a3 n3 c3)) w0.heap.size G c P L A (i + 1) L3 from by
              have hkl := (List.getElem?_eq_some_iff.1 HX.out).1
              have t := (TF0.out.mono (S' := fun j => xa = some ⟨j, 0, none⟩) fun _ _ x => x.elim).trans TV.out
              have hyf : (⟨no2, sz2, ls2, ms2, en2, sq2⟩ : Fl) = ⟨no, sz, ls, ms, en, sq⟩ := HYF.out
              have hG : ¬ P = G := fun e => by obtain ⟨cs, h1, _⟩ := HDW.out.head; have h2 := HPW.out; rw [e, h1] at h2; cases h2
              have hdr := HA2.out.dr.redo (a' := a3) (c' := c3) (R' := xl ++ [⟨y2la, y2lc, y2ma, y2mc, ⟨no2, sz2, ls2, ms2, en2, sq2⟩⟩]) HX.out hk5 t RO3.out (fun g e => by
                rcases HQ3.out g e with h1 | h1
                · exact .inl h1
                · refine .inr ?_
                  have h2 := TF.out.size
                  have h3 := TF0.out.size
                  omega) (fun y hy => by
                rcases List.mem_append.1 hy with hy | hy
                · exact (HA2.out.dr.files _ (List.mem_of_getElem? HX.out) y hy).keep t fun j e _ cs' z' e2 => (HA2.out.dr.rows kk _ HX.out).ne e2 (by decide) j e rfl
                · obtain rfl := List.mem_singleton.1 hy
                  exact (HFT2.out.mono (by have h1 := HWS2.out; exact h1)).keep HT3.out fun j e _ cs' z' e2 => ((HDW.out.rows kk _ HX.out).keep TF.out fun _ _ x => x).ne e2 (by decide) j e rfl)
              rw [← HN3.out] at hdr
              refine ⟨L2.set kk ⟨a3, c3, xl ++ [⟨y2la, y2lc, y2ma, y2mc, ⟨no2, sz2, ls2, ms2, en2, sq2⟩⟩]⟩, by rw [List.length_set]; exact HA2.out.len, hdr, fun j y y' hy hy' => ?_, TT.out.heap (TV.out.heap HPW.out fun e => NP.out _ e rfl) hG, ?_, ?_, ?_⟩
              · rw [addsOn_take HDI.out]
                by_cases hj : j = kk
                · subst hj
                  rw [List.getElem?_set_self hkl] at hy'
                  cases hy'
                  rw [HX0.out] at hy
                  cases hy
                  have h1 := HFX.out
                  simp only [fls, List.map_append, List.map_cons, List.map_nil, if_true] at *
                  rw [h1, hyf, List.append_assoc]
                · rw [List.getElem?_set_ne (by omega)] at hy'
                  rw [if_neg (by simp only; omega), List.append_nil]
                  exact HA2.out.fls j y y' hy hy'
              · rw [List.take_add_one, HDI.out, List.all_append, HA2.out.good]
                simp [HGL.out]
              · rintro q (rfl | ⟨j, y, hy, e⟩)
                · exact .inl (.inl rfl)
                · by_cases hj : j = kk
                  · subst hj
                    rw [List.getElem?_set_self hkl] at hy
                    cases hy
                    rcases HQ3.out q e with h1 | h1
                    · exact HA2.out.own q (.inr ⟨j, _, HX.out, h1⟩)
                    · refine .inr ?_
                      have h2 := TF.out.size
                      have h3 := TF0.out.size
                      have h4 := HA2.out.turn.size
                      omega
                  · rw [List.getElem?_set_ne (by omega)] at hy
                    exact HA2.out.own q (.inr ⟨j, y, hy, e⟩)
              · refine (HA2.out.turn.andThen t fun q hq e => ?_).trans (TT.out.mono fun j _ e => .inl e)
                rcases HA2.out.own q (.inr ⟨kk, _, HX.out, e⟩) with h1 | h1
                · exact h1
                · omega)
            clear TV TF TT RO3 HN3 HT3 HQ3 HFT HFT2
            go_wp2_with fail
            obtain ⟨L3, r1⟩ := REL.out
            go_roundw
            case rel => exact ⟨i + 1, L3, by go_num, by omega, r1⟩
            case measure => simp [intOf]; omega
        · obtain rfl : i = k := by omega
          have htk : A.take i = A := List.take_of_length_le (by have := HAN.out; omega)
          have hp0 := cell_of_row wr P 0 _ 54 (0, 0) HA2.out.hp
          have hcnt : cnt L2 ≤ 100000 := by
            have h1 := cnt_le_mul 11000 L2 (fun x hx => by
              obtain ⟨j, hj⟩ := List.getElem?_of_mem hx
              have hj5 := (List.getElem?_eq_some_iff.1 hj).1
              obtain ⟨x0, hx0⟩ : ∃ x, L[j]? = some x := ⟨_, List.getElem?_eq_getElem (by have := HL.out; have := HA2.out.len; omega)⟩
              have h1 := congrArg List.length (HA2.out.fls j x0 x hx0 hj)
              have h2 : (addsOn j (A.take i)).length ≤ i := by
                unfold addsOn
                rw [List.length_map]
                exact Nat.le_trans (List.length_filter_le _ _) (by rw [List.length_take]; omega)
              simp only [fls, List.length_map, List.length_append] at h1
              have := cnt_take hx0; have := cnt_take_le L (j + 1); have := HC.out; omega)
            rw [HA2.out.len] at h1
            omega
          have CSO := hide (sort_any G c w0.heap.size L2 wr HA2.out.dr HA2.out.len hcnt)
          have HGD := hide (show A.all (fun d => goodLev d.1) = true from by have h1 := HA2.out.good; rw [htk] at h1; exact h1)
          have HTK := hide htk
          clear hcnt htk
          go_wp2_with fail
          refine CSO.out.mono ?_
          rintro e w2 ⟨rfl, L3, q1, q2, q3, q4⟩
          have DONE := hide (show Turns (own G L) w w2 ∧ Added w2 w0.heap.size G L A from by
            refine ⟨HA2.out.turn.andThen q4 fun q hq e => ?_, L3, q1, q2, fun j x x' hx hx' => ?_⟩
            · rcases HA2.out.own q e with h1 | h1
              · exact h1
              · omega
            · have hj5 := (List.getElem?_eq_some_iff.1 hx').1
              obtain ⟨x2, hx2⟩ : ∃ x, L2[j]? = some x := ⟨_, List.getElem?_eq_getElem (by have := HA2.out.len; omega)⟩
              have h1 := q3 j x2 x' hx2 hx'
              have h2 := HA2.out.fls j x x2 hx hx2
              rw [HTK.out] at h2
              rw [← h2]
              exact ⟨h1.1.map _, h1.2.1⟩)
          clear q1 q2 q3 q4 CSO
          go_wp2_with fail
          go_ret
          exact ⟨DONE.out.1, .inr (.inr ⟨HOK.out, HGD.out, rfl, DONE.out.2⟩)⟩
end Go.Proofs.Ytmmcikbedegigaa
