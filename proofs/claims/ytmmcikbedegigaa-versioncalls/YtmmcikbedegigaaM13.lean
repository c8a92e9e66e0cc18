import Derived.Test.YtmmcikbedegigaaM12
/-
  drop.
-/
namespace Go.Proofs.Ytmmcikbedegigaa
open Go.RowKit
set_option maxRecDepth 100000
set_option maxHeartbeats 4000000
theorem flL_length (L : List Lv) : (flL L).length = L.length := by simp [flL]
theorem flL_at {L : List Lv} {k : Nat} {x : Lv} (h : L[k]? = some x) : (flL L)[k]? = some (fls x.l) := by simp [flL, h]
theorem drop_any (w0 w : World) (T0 : Turns (fun _ => False) w0 w) (G c : Nat) (L : List Lv) (da : Option Addr) (dn dc : Nat) (D : List (Int × Nat)) (h : DR w w0.heap.size G 5 L) (hl : L.length = 5) (hc : cnt L ≤ 100000) (hf : Fit L) (hD : Drops w0 da D) (hdn : dn = D.length) (hdm : dn ≤ 1000) :
    Calls Try.prog 27 #[.agg #[.slice (some ⟨G, 0, none⟩) 5 c], .slice da dn dc] w fun e w' => Turns (own G L) w w' ∧ ((dropsP (mp (pairsL L)) D = none ∧ e = .returned (.int .i64 6)) ∨ ∃ m L', dropsP (mp (pairsL L)) D = some m ∧ e = .returned (.int .i64 0) ∧ L'.length = 5 ∧ DR w' w0.heap.size G 5 L' ∧ flL L' = (flL L).map (List.filter (keepF m)) ∧ L'.map (·.a) = L.map (·.a)) := by
  have TA := hide ((Turns.refl (fun _ => False) w).alloc (.cells #[.slice (some ⟨G, 0, none⟩) 5 c] 54))
  have R0 := hide (heap_alloc_new w (.cells #[.slice (some ⟨G, 0, none⟩) 5 c] 54))
  have CLO := hide (levelOf_any (some ⟨G, 0, none⟩) 5 c L _ (h.levs.quiet TA.out) hl.symm (by omega) (by omega) hf)
  have H := hide h
  have HL := hide hl
  have HC := hide hc
  have HF := hide hf
  have HDD := hide hD
  have HDN := hide hdn
  have HT0 := hide T0
  have hdi : (dn : Int) ≤ 1000 := by omega
  clear h hl hc hf hD hdn T0
  go_enter Try.func27, Try.ntmps27
  go_wp2_with fail
  refine CLO.out.mono ?_
  rintro e w1 ⟨M, rfl, hM, hm, t1⟩
  have T1 := hide (TA.out.trans t1)
  have RP := hide (t1.heap R0.out (fun x => x))
  have HM1 := hide hm
  have HMS := hide hM
  have TB := hide ((Turns.refl (fun _ => False) w1).alloc (.cells #[.map (some M)] 87))
  have RV0 := hide (heap_alloc_new w1 (.cells #[.map (some M)] 87))
  clear hM hm t1 CLO
  go_wp2_with fail
  have RP2 := hide (TB.out.heap RP.out (fun x => x))
  have HM2 := hide (HM1.out.keep TB.out (fun x => x))
  have T2 := hide (T1.out.trans TB.out)
  have HPV := hide (show w.heap.size < w1.heap.size by exact lt_of_heap RP.out)
  have HMV := hide (show M < w1.heap.size from HM1.out.lt)
  generalize w1.alloc (.cells #[.map (some M)] 87) = w2 at *
  generalize w1.heap.size = V at *
  generalize hP : w.heap.size = P at *
  have HP := hide hP
  clear hP TB RP HM1 T1
  have c5 := cell_of_row w2 V 0 _ 87 (0, 0) RV0.out
  clear c5
  go_loopw [16] (fun i wr => ∃ (k : Nat) (m : Nat → Option Int) (s : Nat), i = .int .i64 (k : Nat) ∧ k ≤ dn ∧ dropsP (mp (pairsL L)) D = dropsP m (D.drop k) ∧ MapN wr M (cnt L) m s ∧ Turns (fun j => j = M) w2 wr) (fun i _ => dn - (intOf i).toNat)
  case atStart => exact ⟨0, _, _, rfl, Nat.zero_le _, rfl, HM2.out, Turns.refl _ _⟩
  case round =>
    obtain ⟨k, m, s, rfl, hk, hdp, hm, hb⟩ := hrel
    have HDP := hide hdp
    have HMM := hide hm
    have HB := hide hb
    have HW := hide (show Turns (fun _ => False) w wr from T2.out.andThen hb fun j hj e => by have := HMS.out; have := HP.out; simp at *; omega)
    clear hdp hm hb
    by_cases hkn : k < dn
    · obtain ⟨d, hd⟩ : ∃ d, D[k]? = some d := ⟨_, List.getElem?_eq_getElem (by have := HDN.out; omega)⟩
      obtain ⟨hno, b, off, rfl, y0, y1⟩ := (HDD.out.quiet (HT0.out.trans HW.out)) k d hd
      have hst := dropsP_drop hd HDP.out
      have HST := hide hst
      have i1 : (k : Int) < dn := by omega
      have i0 : (0 : Int) ≤ k := by omega
      obtain ⟨lv, no⟩ := d
      simp only at *
      have TF := hide ((Turns.refl (fun _ => False) wr).alloc (.cells #[.int .i64 lv, .int .u64 (no : Nat)] 64))
      have hcV : (wr.alloc (.cells #[.int .i64 lv, .int .u64 (no : Nat)] 64)).cell? ⟨V, 0, none⟩ = some (.map (some M)) := TF.out.cell (HB.out.cell (cell_of_row w2 V 0 _ 87 (0, 0) RV0.out) (show ¬ V = M by have := HMV.out; omega)) (fun x => x)
      obtain ⟨v, hlk, ⟨z, rfl⟩, hz⟩ := (HMM.out.keep TF.out (fun x => x)).look no hno
      obtain ⟨w3, hdel, hm3, ht3⟩ := (HMM.out.keep TF.out (fun x => x)).drop no hno 0
      have HM3 := hide hm3
      have HT3 := hide ht3
      have hcV3 := hcV
      clear hd hst hm3 ht3 hno
      cases hmn : m no with
      | none =>
        rw [hmn] at hlk HST
        clear hz hmn
        go_wp2_with fail
        go_ret
        exact ⟨(HW.out.trans TF.out).mono fun _ _ x => x.elim, .inl ⟨by rw [HST.out]; simp, rfl⟩⟩
      | some z' =>
        have ez := hz z' hmn
        injection ez with _ ez
        subst ez
        rw [hmn] at hlk HST
        have HMN := hide hmn
        clear hz hmn
        by_cases hzl : z = lv
        · subst hzl
          go_wp2_with fail
          go_roundw
          case rel => exact ⟨k + 1, _, _, by go_num, by omega, by rw [HST.out]; simp, HM3.out, (HB.out.trans (TF.out.mono fun _ _ x => x.elim)).trans HT3.out⟩
          case measure => simp [intOf]; omega
        · go_wp2_with fail
          go_ret
          exact ⟨(HW.out.trans TF.out).mono fun _ _ x => x.elim, .inl ⟨by rw [HST.out]; simp [hzl], rfl⟩⟩
    · obtain rfl : k = dn := by omega
      have hdr : D.drop k = [] := List.drop_eq_nil_of_le (by have := HDN.out; omega)
      have HSM := hide (show dropsP (mp (pairsL L)) D = some m by rw [HDP.out, hdr]; rfl)
      have RVW := hide (HB.out.heap RV0.out (show ¬ V = M by have := HMV.out; omega))
      have RPW := hide (HB.out.heap RP2.out (show ¬ P = M by have := HMS.out; have := HP.out; simp at *; omega))
      have HDW := hide (H.out.quiet HW.out)
      have hp0 := cell_of_row wr P 0 _ 54 (0, 0) RPW.out
      clear hdr HDP HB
      generalize hwl : wr = wl at *
      clear hwl
      go_wp2_with fail
      clear hp0
      go_loopw [42] (fun i wr => ∃ (k : Nat) (L2 : List Lv), i = .int .i64 (k : Nat) ∧ k ≤ 5 ∧ L2.length = 5 ∧ DR wr w0.heap.size G 5 L2 ∧ flL L2 = ((flL L).take k).map (List.filter (keepF m)) ++ (flL L).drop k ∧ L2.map (·.a) = L.map (·.a) ∧ MapN wr M (cnt L) m s ∧ wr.heap[V]? = some (.cells #[.map (some M)] 87 (0, 0)) ∧ wr.heap[P]? = some (.cells #[.slice (some ⟨G, 0, none⟩) 5 c] 54 (0, 0)) ∧ Turns (own G L) w wr) (fun i _ => 5 - (intOf i).toNat)
      case atStart => exact ⟨0, L, rfl, Nat.zero_le _, HL.out, HDW.out, by simp, rfl, HMM.out, RVW.out, RPW.out, HW.out.mono fun _ _ x => x.elim⟩
      case round =>
        obtain ⟨q, L2, rfl, hq, hl2, hd2, hf2, ha2, hm2, hv2, hp2, ht2⟩ := hrel
        have HL2 := hide hl2
        have HD := hide hd2
        have HF2 := hide hf2
        have HA2 := hide ha2
        have HM5 := hide hm2
        have HV2 := hide hv2
        have HP2 := hide hp2
        have HT2 := hide ht2
        clear hl2 hd2 hf2 ha2 hm2 hv2 hp2 ht2
        by_cases hqn : q < 5
        · obtain ⟨x, hx⟩ : ∃ x, L2[q]? = some x := ⟨_, List.getElem?_eq_getElem (by have := HL2.out; omega)⟩
          obtain ⟨x0, hx0⟩ : ∃ x, L[q]? = some x := ⟨_, List.getElem?_eq_getElem (by have := HL.out; omega)⟩
          have hxf : fls x.l = fls x0.l := by
            have h1 := flL_at hx
            rw [HF2.out, List.getElem?_append_right (by simp [flL_length, HL.out]; omega), List.getElem?_drop] at h1
            simp only [List.length_map, List.length_take, flL_length, HL.out] at h1
            rw [show q + (q - min q 5) = q by omega, flL_at hx0] at h1
            exact (Option.some.inj h1).symm
          have hxl : x.l.length ≤ 1000000 := by
            have h1 := congrArg List.length hxf
            simp only [fls, List.length_map] at h1
            have := cnt_take hx0; have := cnt_take_le L (q + 1); have := HC.out; omega
          have hxn : ∀ y ∈ x.l, y.f.no < 18446744073709551616 := fun y hy => by
            have h1 : y.f ∈ fls x0.l := by rw [← hxf]; exact List.mem_map.2 ⟨y, hy, rfl⟩
            obtain ⟨y', hy', e⟩ := List.mem_map.1 h1
            rw [← e]; exact HF.out x0 (List.mem_of_getElem? hx0) y' hy'
          have HX := hide hx
          have HX0 := hide hx0
          have HXF := hide hxf
          obtain ⟨⟨b, off, e, hcl⟩, _⟩ := HD.out.levs q x hx
          cases e
          rw [Nat.zero_add] at hcl
          have CF := hide (fun (u : World) (t : Turns (fun _ => False) wr u) => delFunc_any x.a x.l.length x.c x.l w0.heap.size V M (cnt L) s m u ((HD.out.rows q x hx).keep t fun _ _ x => x) rfl hxl (t.heap HV2.out (fun x => x)) (HM5.out.keep t (fun x => x)) hxn)
          have NP := hide (show ∀ g, x.a = some ⟨g, 0, none⟩ → ¬ g = P from (HD.out.rows q x hx).ne HP2.out (by decide))
          have NV := hide (show ∀ g, x.a = some ⟨g, 0, none⟩ → ¬ g = V from (HD.out.rows q x hx).ne HV2.out (by decide))
          have NM := hide (show ¬ x.a = some ⟨M, 0, none⟩ from fun e => HD.out.not_map HM5.out (.inr ⟨q, x, hx, e⟩))
          obtain ⟨xa, xc, xl⟩ := x
          simp only at *
          generalize hXL : xl.length = XL at *
          have i1 : (q : Int) < 5 := by omega
          have i0 : (0 : Int) ≤ q := by omega
          clear hx hx0 hxf hxl hxn hXL
          go_upto_region 13 with (fail)
          have tV : Turns (fun j => xa = some ⟨j, 0, none⟩) wr wr.drew := (Turns.refl _ _).drew
          have tF : Turns (fun _ => False) wr wr.drew := (Turns.refl _ _).drew
          have SK := hide (fun (u : World) (t : Turns (fun j => xa = some ⟨j, 0, none⟩) wr u) => show u.cell? ⟨P, 0, none⟩ = some (.slice (some ⟨G, 0, none⟩) 5 c) from t.cell (cell_of_row wr P 0 _ 54 (0, 0) HP2.out) (fun e => NP.out _ e rfl))
          refine wp_region_z_drew 7 (S := fun u => u.cell? ⟨P, 0, none⟩ = some (.slice (some ⟨G, 0, none⟩) 5 c)) (by kernel_rfl) (SK.out _ tV) (fun _ => ?_)
          change wpAnyZ _ _ _ _ _ _ 8 (Array.replicate 8 false) _ _
          refine wpAnyZ_take (i := 0) (oi := { dst := some 47, op := Op.fieldAddr 54 (Operand.tmp 2) 0, type := 0, pos := "lists.go:75", after := #[], guard := none }) (v := .pointer (some ⟨P, 0, none⟩)) rfl (by kernel_rfl) (by kernel_rfl) (by kernel_rfl) (by kernel_rfl) (fun _ _ _ h => h) (Or.inl ⟨by rfl, ?_⟩) (SK.out _ tV) ?_
          · rintro w s0
            go_simp
          simp only [Act.put, List.setIfInBounds_toArray, List.set_cons_zero, List.set_cons_succ]
          refine wpAnyZ_take (i := 1) (oi := { dst := some 48, op := Op.load 22 (Operand.tmp 47), type := 22, pos := "lists.go:75", after := #[{ on := 0, ground := Ground.data }], guard := none }) (v := .slice (some ⟨G, 0, none⟩) 5 c) rfl (by kernel_rfl) (by kernel_rfl) (by kernel_rfl) (by kernel_rfl) (fun _ _ _ h => h) (Or.inl ⟨by rfl, ?_⟩) (SK.out _ tV) ?_
          · rintro w s0
            go_simp
          simp only [Act.put, List.setIfInBounds_toArray, List.set_cons_zero, List.set_cons_succ]
          refine wpAnyZ_take (i := 2) (oi := { dst := some 49, op := Op.move (Operand.tmp 10), type := 3, pos := "lists.go:75", after := #[], guard := none }) (v := .int .i64 (q : Nat)) rfl (by kernel_rfl) (by kernel_rfl) (by kernel_rfl) (by kernel_rfl) (fun _ _ _ h => h) (Or.inl ⟨by rfl, ?_⟩) (SK.out _ tV) ?_
          · rintro w s0
            go_simp
          simp only [Act.put, List.setIfInBounds_toArray, List.set_cons_zero, List.set_cons_succ]
          refine wpAnyZ_take (i := 3) (oi := { dst := some 50, op := Op.move (Operand.tmp 11), type := 50, pos := "lists.go:75", after := #[], guard := none }) (v := .slice xa XL xc) rfl (by kernel_rfl) (by kernel_rfl) (by kernel_rfl) (by kernel_rfl) (fun _ _ _ h => h) (Or.inl ⟨by rfl, ?_⟩) (SK.out _ tV) ?_
          · rintro w s0
            go_simp
          simp only [Act.put, List.setIfInBounds_toArray, List.set_cons_zero, List.set_cons_succ]
          refine wpAnyZ_take (i := 4) (oi := { dst := some 51, op := Op.makeFunc (Fn.func 53) #[] #[Operand.tmp 5], type := 66, pos := "lists.go:75", after := #[], guard := none }) (v := .func (.func 53) #[] #[.pointer (some ⟨V, 0, none⟩)]) rfl (by kernel_rfl) (by kernel_rfl) (by kernel_rfl) (by kernel_rfl) (fun _ _ _ h => h) (Or.inl ⟨by rfl, ?_⟩) (SK.out _ tV) ?_
          · rintro w s0
            go_simp
          simp only [Act.put, List.setIfInBounds_toArray, List.set_cons_zero, List.set_cons_succ]
          refine wpAnyZ_ready (rs := [5]) (by kernel_rfl) (by simp) ?_
          refine AllReadyZ.cons rfl (fun K hK => ?_) AllReadyZ.nil
          go_simp
          refine (CF.out _ tF).mono ?_
          rintro oo Vn ⟨n2, rfl, hn2, hrow, tq⟩
          have tN := (show Turns (fun j => xa = some ⟨j, 0, none⟩) _ _ from tq)
          have tV := tV.trans tN
          have HN2 := hide hn2
          have HROW := hide hrow
          clear hrow tq hn2
          clear tN
          go_simp
          refine hK.out _ _ (SK.out _ tV) (fun _ => ?_)
          clear hK K
          refine wpAnyZ_take (i := 6) (oi := { dst := some 53, op := Op.indexAddr 22 (Operand.tmp 48) (Operand.tmp 49), type := 0, pos := "lists.go:75", after := #[{ on := 1, ground := Ground.data }, { on := 2, ground := Ground.data }, { on := 0, ground := Ground.phase }, { on := 1, ground := Ground.phase }, { on := 2, ground := Ground.phase }, { on := 3, ground := Ground.phase }, { on := 4, ground := Ground.phase }, { on := 5, ground := Ground.phase }], guard := none }) (v := .pointer (some ⟨G, q, none⟩)) rfl (by kernel_rfl) (by kernel_rfl) (by kernel_rfl) (by kernel_rfl) (fun _ _ _ h => h) (Or.inl ⟨by rfl, ?_⟩) (SK.out _ tV) ?_
          · rintro w s0
            go_simp
          simp only [Act.put, List.setIfInBounds_toArray, List.set_cons_zero, List.set_cons_succ]
          obtain ⟨cs1, hg1, hcs1, _⟩ := HD.out.head
          have hg2 := tV.heap hg1 (fun e => (HD.out.rows q _ HX.out).ne hg1 (by decide) G e rfl)
          obtain ⟨dv, d0⟩ : ∃ dv, Vn.cell? ⟨G, q, none⟩ = some dv := ⟨_, by rw [cell_of_row _ G q _ 50 (0, 0) hg2]; exact Array.getElem?_eq_getElem (by omega)⟩
          have z0 := frozen_of_row Vn G q _ 50 hg2
          have TV := hide tV
          have TT := hide (Turns.of_tick ((Tick.refl hg2).set q (.slice xa n2 xc)))
          clear hg1 hg2 hcs1 tV
          refine wpAnyZ_ready (rs := [7]) (by kernel_rfl) (by simp) ?_
          refine AllReadyZ.free rfl (by kernel_rfl) (fun K hK => ?_) AllReadyZ.nil
          go_simp
          refine hK.out _ _ ?_
          clear hK K
          refine wpAnyZ_done (by kernel_rfl) ?_ _
          clear d0 z0
          have REL := hide (show ∃ L3 : List Lv, L3.length = 5 ∧ DR (Vn.setCell ⟨G, q, none⟩ (.slice xa n2 xc)) w0.heap.size G 5 L3 ∧ flL L3 = ((flL L).take (q + 1)).map (List.filter (keepF m)) ++ (flL L).drop (q + 1) ∧ L3.map (·.a) = L.map (·.a) ∧ MapN (Vn.setCell ⟨G, q, none⟩ (.slice xa n2 xc)) M (cnt L) m s ∧ (Vn.setCell ⟨G, q, none⟩ (.slice xa n2 xc)).heap[V]? = some (.cells #[.map (some M)] 87 (0, 0)) ∧ (Vn.setCell ⟨G, q, none⟩ (.slice xa n2 xc)).heap[P]? = some (.cells #[.slice (some ⟨G, 0, none⟩) 5 c] 54 (0, 0)) ∧ Turns (own G L) w (Vn.setCell ⟨G, q, none⟩ (.slice xa n2 xc)) from by
            have hG2 := HD.out.head
            obtain ⟨csG, hG1, _⟩ := hG2
            have hGV : ¬ V = G := fun e => by have h1 := HV2.out; rw [e, hG1] at h1; cases h1
            have hGP : ¬ P = G := fun e => by have h1 := HP2.out; rw [e, hG1] at h1; cases h1
            have hGM : ¬ M = G := fun e => HD.out.not_map HM5.out (.inl e)
            have hml : L2[q]? = some ⟨xa, xc, xl⟩ := HX.out
            have hql := (List.getElem?_eq_some_iff.1 hml).1
            refine ⟨L2.set q ⟨xa, xc, xl.filter (keepT m)⟩, by rw [List.length_set]; exact HL2.out, ?_, ?_, ?_, (HM5.out.keep TV.out NM.out).keep TT.out hGM, TT.out.heap (TV.out.heap HV2.out fun e => NV.out _ e rfl) hGV, TT.out.heap (TV.out.heap HP2.out fun e => NP.out _ e rfl) hGP, (HT2.out.trans (TV.out.mono fun j _ e => ?_)).trans (TT.out.mono fun j _ e => .inl e)⟩
            · have h1 := HD.out.redo HX.out hqn TV.out HROW.out (fun g e => .inl e) (fun y hy => (HD.out.files _ (List.mem_of_getElem? HX.out) y (List.mem_filter.1 hy).1).keep TV.out fun j e _ cs' z' e2 => (HD.out.rows q _ HX.out).ne e2 (by decide) j e rfl)
              rw [← HN2.out] at h1
              exact h1
            · have h2 := HF2.out
              unfold flL at *
              rw [List.map_set, h2, fls_filter, HXF.out, List.take_add_one, List.getElem?_map, HX0.out]
              simp only [Option.map_some, Option.toList_some, List.map_append, List.map_cons, List.map_nil, List.append_assoc]
              rw [List.set_append_right _ _ (by simp [HL.out]; omega)]
              congr 1
              have hq0 : q < (L.map fun x => fls x.l).length := by simp [HL.out]; omega
              have hlen : (((L.map fun x => fls x.l).take q).map (List.filter (keepF m))).length = q := by simp [HL.out]; omega
              rw [hlen, Nat.sub_self, List.drop_eq_getElem_cons hq0]
              simp
            · have h3 := HA2.out
              rw [List.map_set, h3]
              simp only
              apply List.ext_getElem?
              intro j
              by_cases hj : j = q
              · subst hj
                rw [List.getElem?_set_self (by simp [HL.out]; omega), ← h3, List.getElem?_map, hml]
                rfl
              · rw [List.getElem?_set_ne (by omega)]
            · refine .inr ⟨q, x0, HX0.out, ?_⟩
              have h3 := congrArg (fun l => l[q]?) HA2.out
              simp only [List.getElem?_map, HX0.out, hml, Option.map_some] at h3
              rw [← Option.some.inj h3]; exact e)
          clear TV HROW TT HN2
          go_wp2_with fail
          obtain ⟨L3, r1, r2, r3, r4, r5, r6, r7, r8⟩ := REL.out
          go_roundw
          case rel => exact ⟨q + 1, L3, by go_num, by omega, r1, r2, r3, r4, r5, r6, r7, r8⟩
          case measure => simp [intOf]; omega
        · obtain rfl : q = 5 := by omega
          have hfl : flL L2 = (flL L).map (List.filter (keepF m)) := by
            rw [HF2.out, List.take_of_length_le (by rw [flL_length]; have := HL.out; omega), List.drop_eq_nil_of_le (by rw [flL_length]; have := HL.out; omega), List.append_nil]
          have HFL := hide hfl
          clear hfl
          go_wp2_with fail
          go_ret
          exact ⟨HT2.out, .inr ⟨m, HSM.out, rfl, L2, HL2.out, HD.out, HFL.out, HA2.out⟩⟩
end Go.Proofs.Ytmmcikbedegigaa
