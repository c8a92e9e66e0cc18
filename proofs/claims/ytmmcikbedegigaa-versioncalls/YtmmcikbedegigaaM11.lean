import Derived.Test.YtmmcikbedegigaaM10
/-
  listsOf: lists of one's own with the same files.
-/
namespace Go.Proofs.Ytmmcikbedegigaa
open Go.RowKit
set_option maxRecDepth 100000
set_option maxHeartbeats 4000000
theorem sz54 : (Try.prog.info? 54).map (·.size) = some 1 := by kernel_rfl
def F26 (u : World) (P G c2 k gb XL gc gx no : Nat) (sz : Int) (la : Option Addr) (L1 lc : Nat) (ma : Option Addr) (L2 mc : Nat) (en : Int) (sq : Nat) : Prop :=
  u.cell? ⟨P, 0, none⟩ = some (.slice (some ⟨G, 0, none⟩) 5 c2) ∧ u.cell? ⟨G, k, none⟩ = some (.slice (some ⟨gb, 0, none⟩) XL gc) ∧ u.cell? ⟨gx, 0, none⟩ = some (.int .u64 (no : Nat)) ∧ u.cell? ⟨gx, 1, none⟩ = some (.int .i64 sz) ∧ u.cell? ⟨gx, 2, none⟩ = some (.slice la L1 lc) ∧ u.cell? ⟨gx, 3, none⟩ = some (.slice ma L2 mc) ∧ u.cell? ⟨gx, 4, none⟩ = some (.int .i64 en) ∧ u.cell? ⟨gx, 5, none⟩ = some (.int .u64 (sq : Nat))
theorem listsOf_any (ad : Addr) (c : Nat) (L : List Lv) (w : World) (h : Levs w (some ad) L) (hn : L.length = 5) (hc : cnt L ≤ 1000000) (hk : ∀ x ∈ L, ∀ y ∈ x.l, y.f.least.length ≤ 1000000 ∧ y.f.most.length ≤ 1000000) :
    Calls Try.prog 26 #[.slice (some ad) 5 c] w fun e w' => ∃ G c' L', e = .returned (.agg #[.slice (some ⟨G, 0, none⟩) 5 c']) ∧ 5 ≤ c' ∧ L'.length = 5 ∧ DR w' w.heap.size G 5 L' ∧ flL L' = flL L ∧ Turns (fun _ => False) w w' := by
  have H := hide h
  have HL := hide hn
  have HC := hide hc
  have HK := hide hk
  have TA := hide ((Turns.refl (fun _ => False) w).alloc (.cells #[.slice none 0 0] 54))
  have R0 := hide (heap_alloc_new w (.cells #[.slice none 0 0] 54))
  have CLL := hide (cloneLs_any ad 5 c L _ (h.quiet TA.out) hn.symm (by omega))
  clear h hn hc hk
  go_enter Try.func26, Try.ntmps26
  go_wp2_with fail
  refine CLL.out.mono ?_
  rintro e w1 ⟨G, c2, rfl, hG, hc2, hrow, t1⟩
  have T1 := hide (TA.out.trans t1)
  have HSZ := hide (show w.heap.size < w1.heap.size ∧ w.heap.size < G by have := t1.size; simp at this hG; omega)
  have RR := hide (t1.heap R0.out (fun x => x))
  have HG0 := hide (show DR w1 w.heap.size G 5 [] from ⟨by obtain ⟨cs, e1, e2, _⟩ := hrow; exact ⟨cs, e1, by omega, fun k x hx => by simp at hx⟩, by have := HSZ.out; omega, fun k x hx => by simp at hx, fun i j x y _ hx => by simp at hx, fun x hx => by simp at hx⟩)
  clear hrow t1 hG CLL
  have T2 := hide ((Turns.refl (fun _ => False) w1).alloc (.cells #[.slice (some ⟨G, 0, none⟩) 5 c2] 54))
  have R2 := hide (heap_alloc_new w1 (.cells #[.slice (some ⟨G, 0, none⟩) 5 c2] 54))
  go_wp2_with fail
  have RR2 := hide (T2.out.heap RR.out (fun x => x))
  have HG2 := hide (HG0.out.quiet T2.out)
  have TW := hide (T1.out.trans T2.out)
  have HP := hide (show w.heap.size < w1.heap.size from HSZ.out.1)
  generalize w1.alloc (.cells #[.slice (some ⟨G, 0, none⟩) 5 c2] 54) = w2 at *
  generalize hPP : w1.heap.size = P at *
  clear hPP HG0 RR T1 T2
  go_loopw [13] (fun i wr => ∃ (k : Nat) (L' : List Lv), i = .int .i64 (k : Nat) ∧ k ≤ 5 ∧ L'.length = k ∧ DR wr w.heap.size G 5 L' ∧ flL L' = flL (L.take k) ∧ wr.heap[P]? = some (.cells #[.slice (some ⟨G, 0, none⟩) 5 c2] 54 (0, 0)) ∧ wr.heap[w.heap.size]? = some (.cells #[.slice none 0 0] 54 (0, 0)) ∧ Turns (fun _ => False) w wr) (fun i _ => 5 - (intOf i).toNat)
  case atStart => exact ⟨0, [], rfl, Nat.zero_le _, rfl, HG2.out, by simp [flL], R2.out, RR2.out, TW.out⟩
  case round =>
    obtain ⟨k, L', rfl, hk, hl, hd, hf, hp, hr, hb⟩ := hrel
    have HB := hide hb
    have HD := hide hd
    have HLL := hide hl
    have HFL := hide hf
    have HPB := hide hp
    have HRB := hide hr
    clear hb hl hd hf hp hr
    by_cases hkn : k < 5
    · obtain ⟨x, hx⟩ : ∃ x, L[k]? = some x := ⟨_, List.getElem?_eq_getElem (by have := HL.out; omega)⟩
      obtain ⟨⟨b, off, ead, hcl⟩, hfb⟩ := (H.out.quiet HB.out) k x hx
      cases ead
      have i1 : (k : Int) < 5 := by omega
      have i0 : (0 : Int) ≤ (k : Int) := by omega
      have HX := hide hx
      have HFI := hide (H.out k x hx).2
      have HKX := hide (HK.out x (List.mem_of_getElem? hx))
      have hxl : x.l.length ≤ 1000000 := by have := cnt_take hx; have := cnt_take_le L (k + 1); have := HC.out; omega
      obtain ⟨xa, xc, xl⟩ := x
      simp only at *
      have CL := hide (fun (u : World) (t : Turns (fun _ => False) wr u) => cloneFs_any xa xl.length xc xl u (hfb.quiet t) rfl hxl)
      clear hfb hx
      generalize hXL : xl.length = XL at *
      have HXL := hide hXL
      have hxi : (XL : Int) ≤ 1000000 := by omega
      clear hXL
      go_upto_region 5 with (fail)
      have tV : Turns (fun _ => False) wr wr.drew := (Turns.refl _ _).drew
      have SK := hide (fun (u : World) (t : Turns (fun _ => False) wr u) => show u.cell? ⟨P, 0, none⟩ = some (.slice (some ⟨G, 0, none⟩) 5 c2) from t.cell (cell_of_row wr P 0 _ 54 (0, 0) HPB.out) (fun x => x))
      refine wp_region_z_drew 6 (S := fun u => u.cell? ⟨P, 0, none⟩ = some (.slice (some ⟨G, 0, none⟩) 5 c2)) (by kernel_rfl) (SK.out _ tV) (fun _ => ?_)
      change wpAnyZ _ _ _ _ _ _ 7 (Array.replicate 7 false) _ _
      refine wpAnyZ_take (i := 0) (oi := { dst := some 18, op := Op.fieldAddr 54 (Operand.tmp 3) 0, type := 0, pos := "lists.go:26", after := #[], guard := none }) (v := .pointer (some ⟨P, 0, none⟩)) rfl (by kernel_rfl) (by kernel_rfl) (by kernel_rfl) (by kernel_rfl) (fun _ _ _ h => h) (Or.inl ⟨by rfl, ?_⟩) (SK.out _ tV) ?_
      · rintro w s0
        go_simp
      simp only [Act.put, List.setIfInBounds_toArray, List.set_cons_zero, List.set_cons_succ]
      refine wpAnyZ_take (i := 1) (oi := { dst := some 19, op := Op.load 22 (Operand.tmp 18), type := 22, pos := "lists.go:26", after := #[{ on := 0, ground := Ground.data }], guard := none }) (v := .slice (some ⟨G, 0, none⟩) 5 c2) rfl (by kernel_rfl) (by kernel_rfl) (by kernel_rfl) (by kernel_rfl) (fun _ _ _ h => h) (Or.inl ⟨by rfl, ?_⟩) (SK.out _ tV) ?_
      · rintro w s0
        go_simp
      simp only [Act.put, List.setIfInBounds_toArray, List.set_cons_zero, List.set_cons_succ]
      refine wpAnyZ_take (i := 2) (oi := { dst := some 20, op := Op.move (Operand.tmp 4), type := 3, pos := "lists.go:26", after := #[], guard := none }) (v := .int .i64 (k : Nat)) rfl (by kernel_rfl) (by kernel_rfl) (by kernel_rfl) (by kernel_rfl) (fun _ _ _ h => h) (Or.inl ⟨by rfl, ?_⟩) (SK.out _ tV) ?_
      · rintro w s0
        go_simp
      simp only [Act.put, List.setIfInBounds_toArray, List.set_cons_zero, List.set_cons_succ]
      refine wpAnyZ_take (i := 3) (oi := { dst := some 21, op := Op.move (Operand.tmp 5), type := 50, pos := "lists.go:26", after := #[], guard := none }) (v := .slice xa XL xc) rfl (by kernel_rfl) (by kernel_rfl) (by kernel_rfl) (by kernel_rfl) (fun _ _ _ h => h) (Or.inl ⟨by rfl, ?_⟩) (SK.out _ tV) ?_
      · rintro w s0
        go_simp
      simp only [Act.put, List.setIfInBounds_toArray, List.set_cons_zero, List.set_cons_succ]
      refine wpAnyZ_ready (rs := [4]) (by kernel_rfl) (by simp) ?_
      refine AllReadyZ.cons rfl (fun K hK => ?_) AllReadyZ.nil
      go_simp
      refine (CL.out _ tV).mono ?_
      rintro oo Vn ⟨ga, gc, rfl, hrow, tq⟩
      have tN := tq
      have tV := tV.trans tN
      have HROW := hide hrow
      have GLE := hide (show w.heap.size ≤ wr.heap.size from HB.out.size)
      clear hrow tq
      clear tN
      go_simp
      refine hK.out _ _ (SK.out _ tV) (fun _ => ?_)
      clear hK K
      refine wpAnyZ_take (i := 5) (oi := { dst := some 23, op := Op.indexAddr 22 (Operand.tmp 19) (Operand.tmp 20), type := 0, pos := "lists.go:26", after := #[{ on := 1, ground := Ground.data }, { on := 2, ground := Ground.data }, { on := 0, ground := Ground.phase }, { on := 1, ground := Ground.phase }, { on := 2, ground := Ground.phase }, { on := 3, ground := Ground.phase }, { on := 4, ground := Ground.phase }], guard := none }) (v := .pointer (some ⟨G, k, none⟩)) rfl (by kernel_rfl) (by kernel_rfl) (by kernel_rfl) (by kernel_rfl) (fun _ _ _ h => h) (Or.inl ⟨by rfl, ?_⟩) (SK.out _ tV) ?_
      · rintro w s0
        go_simp
      simp only [Act.put, List.setIfInBounds_toArray, List.set_cons_zero, List.set_cons_succ]
      obtain ⟨cs1, hg1, hcs1, _⟩ := (HD.out.quiet tV).head
      obtain ⟨dv, d0⟩ : ∃ dv, Vn.cell? ⟨G, k, none⟩ = some dv := ⟨_, by rw [cell_of_row _ G k _ 50 (0, 0) hg1]; exact Array.getElem?_eq_getElem (by omega)⟩
      have z0 := frozen_of_row Vn G k _ 50 hg1
      have TV := hide tV
      have TT := hide (Turns.of_tick ((Tick.refl hg1).set k (.slice ga XL gc)))
      have DP := hide ((HD.out.quiet tV).put (Nat.le_of_eq HLL.out) hkn (.slice ga XL gc))
      have HGC := hide (show ∃ cs, Vn.heap[G]? = some (.cells cs 50 (0, 0)) from ⟨_, hg1⟩)
      clear hg1 hcs1 tV
      refine wpAnyZ_ready (rs := [6]) (by kernel_rfl) (by simp) ?_
      refine AllReadyZ.free rfl (by kernel_rfl) (fun K hK => ?_) AllReadyZ.nil
      go_simp
      refine hK.out _ _ ?_
      clear hK K
      refine wpAnyZ_done (by kernel_rfl) ?_ _
      clear d0 z0
      have D1 := hide DP.out.1
      have D2 := hide DP.out.2
      have TT3 := hide (show Turns (fun j => j = G) wr (Vn.setCell ⟨G, k, none⟩ (.slice ga XL gc)) from (TV.out.mono fun _ _ x => x.elim).trans TT.out)
      have HROW2 := hide (show RowOk (Vn.setCell ⟨G, k, none⟩ (.slice ga XL gc)) wr.heap.size ga gc xl from HROW.out.keep TT.out fun g e e2 => by
        obtain ⟨cs, hcs⟩ := HGC.out
        subst e2
        rcases HROW.out with ⟨e3, _⟩ | ⟨g2, e3, _, _, cs2, h4, _⟩
        · rw [e3] at e; cases e
        · rw [e3] at e; cases e; rw [hcs] at h4; cases h4)
      clear DP TV HROW TT HGC
      generalize Vn.setCell ⟨G, k, none⟩ (.slice ga XL gc) = w3 at *
      have PW := hide (TT3.out.heap HPB.out (fun e => by obtain ⟨cs, h1, _⟩ := HD.out.head; have h2 := HPB.out; rw [e, h1] at h2; cases h2))
      have RW := hide (TT3.out.heap HRB.out (fun e => by obtain ⟨cs, h1, _⟩ := HD.out.head; have h2 := HRB.out; rw [e, h1] at h2; cases h2))
      have NG := hide (show ∀ g, ga = some ⟨g, 0, none⟩ → ¬ g = G from fun g e => by obtain ⟨cs, h1, _⟩ := D1.out.head; exact HROW2.out.ne h1 (by decide) g e)
      have NP := hide (HROW2.out.ne PW.out (by decide))
      have NR := hide (HROW2.out.ne RW.out (by decide))
      have HGW := hide (show w.heap.size ≤ G from HD.out.hG)
      have NA := hide (show ∀ g, ga = some ⟨g, 0, none⟩ → ∀ (k : Nat) (x : Lv), L'[k]? = some x → x.a ≠ some ⟨g, 0, none⟩ from fun g e k x hx e2 => by
        have h1 := HD.out.lt hx e2
        rcases HROW2.out with ⟨e3, _⟩ | ⟨g2, e3, h5, _⟩
        · rw [e3] at e; cases e
        · rw [e3] at e; cases e; omega)
      obtain ⟨wo, hwo⟩ : ∃ wo, wo = wr := ⟨_, rfl⟩
      subst hwo
      go_wp2_with fail
      go_loopw [26] (fun v26 ws => ∃ (q : Nat) (ys : List Tf), v26 = .int .i64 (q : Nat) ∧ q ≤ XL ∧ ys.length = q ∧ fls ys = fls (xl.take q) ∧ RowOk ws wo.heap.size ga gc (ys ++ xl.drop q) ∧ (∀ y ∈ ys, FT ws w.heap.size y) ∧ Turns (fun j => ga = some ⟨j, 0, none⟩) w3 ws) (fun v26 _ => XL - (intOf v26).toNat)
      case atStart => exact ⟨0, [], rfl, Nat.zero_le _, rfl, rfl, HROW2.out, fun y hy => (by cases hy), Turns.refl _ _⟩
      case round =>
        obtain ⟨q, ys, rfl, hq, hyl, hys, hro, hft, htn⟩ := hrel
        have HYL := hide hyl
        have HYS := hide hys
        have HRO := hide hro
        have HFTS := hide hft
        have HTN := hide htn
        have TNR := hide (show Turns (fun _ => False) w wr from HB.out.andThen ((TT3.out.mono (S' := fun j => w.heap.size ≤ j) fun j _ e => by have := HGW.out; omega).trans (htn.mono (S' := fun j => w.heap.size ≤ j) fun j _ e => by
          have := HB.out.size
          rcases HROW2.out with ⟨e3, _⟩ | ⟨g2, e3, h5, _⟩
          · rw [e3] at e; cases e
          · rw [e3] at e; cases e; omega)) fun j hj e => by omega)
        clear hyl hys hro hft htn
        by_cases hqn : q < XL
        · obtain ⟨y, hy⟩ : ∃ y, xl[q]? = some y := ⟨_, List.getElem?_eq_getElem (by have := HXL.out; omega)⟩
          have hdr : xl.drop q = y :: xl.drop (q + 1) := by
            rw [List.drop_eq_getElem_cons (by have := HXL.out; omega)]
            rw [List.getElem?_eq_getElem (by have := HXL.out; omega)] at hy
            cases hy; rfl
          obtain ⟨gb, egb, hgb, hlc, hrw⟩ : ∃ g, ga = some ⟨g, 0, none⟩ ∧ wo.heap.size ≤ g ∧ (ys ++ xl.drop q).length ≤ gc ∧ RowC wr g 37 (gc * 6) (flCells (ys ++ xl.drop q)) := by
            rcases HRO.out with ⟨_, e, _⟩ | h
            · rw [hdr] at e; simp at e
            · exact h
          obtain ⟨b', off', exa, h6, hfb⟩ := fc_of (HFI.out.quiet TNR.out) hy
          subst egb exa
          have j1 : (q : Int) < (XL : Int) := by omega
          have j0 : (0 : Int) ≤ (q : Int) := by omega
          have HY := hide hy
          have HDR := hide hdr
          have HGE := hide hgb
          have HRW := hide hrw
          have HXC := hide (show q * 6 + 6 ≤ gc * 6 by have h1 := hlc; rw [List.length_append, List.length_drop, HYL.out, HXL.out] at h1; omega)
          have hg1 : wr.cell? ⟨G, k, none⟩ = some (.slice (some ⟨gb, 0, none⟩) XL gc) := HTN.out.cell D2.out (fun e => NG.out gb rfl (by injection e with e; injection e))
          have hp1 : wr.cell? ⟨P, 0, none⟩ = some (.slice (some ⟨G, 0, none⟩) 5 c2) := cell_of_row wr P 0 _ 54 (0, 0) (HTN.out.heap PW.out (fun e => NP.out gb rfl (by injection e with e; injection e)))
          have hl1 := (HKX.out y (List.mem_of_getElem? hy)).1
          have hl2 := (HKX.out y (List.mem_of_getElem? hy)).2
          have CC0 := hide (fun (u : World) (t : Turns (fun _ => False) wr u) => cloneF_any y u (hfb.quiet t) hl1 hl2)
          clear hdr hy hlc hrw hgb hfb hl1 hl2
          obtain ⟨la, lc, ma, mc, ⟨no, sz, ls, ms, en, sq⟩⟩ := y
          obtain ⟨c0, c1, c2', c3, c4, c5⟩ := h6
          unfold Tf.agg at CC0
          simp only at *
          generalize hL1 : ls.length = L1 at *
          generalize hL2 : ms.length = L2 at *
          clear hL1 hL2
          have TF := hide ((Turns.refl (fun _ => False) wr).alloc (.cells #[.int .u64 (no : Nat), .int .i64 sz, .slice la L1 lc, .slice ma L2 mc, .int .i64 en, .int .u64 (sq : Nat)] 37))
          have RF := hide (heap_alloc_new wr (.cells #[.int .u64 (no : Nat), .int .i64 sz, .slice la L1 lc, .slice ma L2 mc, .int .i64 en, .int .u64 (sq : Nat)] 37))
          go_upto_region 9 with (fail)
          generalize wr.alloc (.cells #[.int .u64 (no : Nat), .int .i64 sz, .slice la L1 lc, .slice ma L2 mc, .int .i64 en, .int .u64 (sq : Nat)] 37) = W at *
          generalize hgx : wr.heap.size = gx at *
          have tV : Turns (fun _ => False) W W.drew := (Turns.refl _ W).drew
          have CC := hide (fun (u : World) (t : Turns (fun _ => False) W u) => CC0.out u (TF.out.trans t))
          have HGB := hide (show ∃ cs, W.heap[gb]? = some (.cells cs 37 (0, 0)) ∧ gc * 6 ≤ cs.size from by obtain ⟨cs, h1, h2, _⟩ := HRW.out; exact ⟨cs, TF.out.heap h1 (fun x => x), h2⟩)
          have SK := hide (fun (u : World) (tt : Turns (fun _ => False) W u) => show F26 u P G c2 k gb XL gc gx no sz la L1 lc ma L2 mc en sq from ⟨(TF.out.trans tt).cell hp1 (fun x => x), (TF.out.trans tt).cell hg1 (fun x => x), tt.cell (cell_of_row W gx 0 _ 37 (0, 0) RF.out) (fun x => x), tt.cell (cell_of_row W gx 1 _ 37 (0, 0) RF.out) (fun x => x), tt.cell (cell_of_row W gx 2 _ 37 (0, 0) RF.out) (fun x => x), tt.cell (cell_of_row W gx 3 _ 37 (0, 0) RF.out) (fun x => x), tt.cell (cell_of_row W gx 4 _ 37 (0, 0) RF.out) (fun x => x), tt.cell (cell_of_row W gx 5 _ 37 (0, 0) RF.out) (fun x => x)⟩)
          clear c0 c1 c2' c3 c4 c5 hg1 hp1
          refine wp_region_z_drew 9 (S := fun u => F26 u P G c2 k gb XL gc gx no sz la L1 lc ma L2 mc en sq) (by kernel_rfl) (SK.out _ tV) (fun _ => ?_)
          change wpAnyZ _ _ _ _ _ _ 10 (Array.replicate 10 false) _ _
          refine wpAnyZ_take (i := 0) (oi := { dst := some 31, op := Op.fieldAddr 54 (Operand.tmp 3) 0, type := 0, pos := "lists.go:28", after := #[], guard := none }) (v := .pointer (some ⟨P, 0, none⟩)) rfl (by kernel_rfl) (by kernel_rfl) (by kernel_rfl) (by kernel_rfl) (fun _ _ _ h => h) (Or.inl ⟨by rfl, ?_⟩) (SK.out _ tV) ?_
          · rintro w ⟨s0, s1, d0, d1, d2, d3, d4, d5⟩
            go_simp
          simp only [Act.put, List.setIfInBounds_toArray, List.set_cons_zero, List.set_cons_succ]
          refine wpAnyZ_take (i := 1) (oi := { dst := some 32, op := Op.load 22 (Operand.tmp 31), type := 22, pos := "lists.go:28", after := #[{ on := 0, ground := Ground.data }], guard := none }) (v := .slice (some ⟨G, 0, none⟩) 5 c2) rfl (by kernel_rfl) (by kernel_rfl) (by kernel_rfl) (by kernel_rfl) (fun _ _ _ h => h) (Or.inl ⟨by rfl, ?_⟩) (SK.out _ tV) ?_
          · rintro w ⟨s0, s1, d0, d1, d2, d3, d4, d5⟩
            go_simp
          simp only [Act.put, List.setIfInBounds_toArray, List.set_cons_zero, List.set_cons_succ]
          refine wpAnyZ_take (i := 2) (oi := { dst := some 33, op := Op.move (Operand.tmp 4), type := 3, pos := "lists.go:28", after := #[], guard := none }) (v := .int .i64 (k : Nat)) rfl (by kernel_rfl) (by kernel_rfl) (by kernel_rfl) (by kernel_rfl) (fun _ _ _ h => h) (Or.inl ⟨by rfl, ?_⟩) (SK.out _ tV) ?_
          · rintro w ⟨s0, s1, d0, d1, d2, d3, d4, d5⟩
            go_simp
          simp only [Act.put, List.setIfInBounds_toArray, List.set_cons_zero, List.set_cons_succ]
          refine wpAnyZ_take (i := 3) (oi := { dst := some 34, op := Op.indexAddr 22 (Operand.tmp 32) (Operand.tmp 33), type := 0, pos := "lists.go:28", after := #[{ on := 1, ground := Ground.data }, { on := 2, ground := Ground.data }], guard := none }) (v := .pointer (some ⟨G, k, none⟩)) rfl (by kernel_rfl) (by kernel_rfl) (by kernel_rfl) (by kernel_rfl) (fun _ _ _ h => h) (Or.inl ⟨by rfl, ?_⟩) (SK.out _ tV) ?_
          · rintro w ⟨s0, s1, d0, d1, d2, d3, d4, d5⟩
            go_simp
          simp only [Act.put, List.setIfInBounds_toArray, List.set_cons_zero, List.set_cons_succ]
          refine wpAnyZ_take (i := 4) (oi := { dst := some 35, op := Op.load 50 (Operand.tmp 34), type := 50, pos := "lists.go:28", after := #[{ on := 3, ground := Ground.data }], guard := none }) (v := .slice (some ⟨gb, 0, none⟩) XL gc) rfl (by kernel_rfl) (by kernel_rfl) (by kernel_rfl) (by kernel_rfl) (fun _ _ _ h => h) (Or.inl ⟨by rfl, ?_⟩) (SK.out _ tV) ?_
          · rintro w ⟨s0, s1, d0, d1, d2, d3, d4, d5⟩
            go_simp
          simp only [Act.put, List.setIfInBounds_toArray, List.set_cons_zero, List.set_cons_succ]
          refine wpAnyZ_take (i := 5) (oi := { dst := some 36, op := Op.move (Operand.tmp 6), type := 3, pos := "lists.go:28", after := #[], guard := none }) (v := .int .i64 (q : Nat)) rfl (by kernel_rfl) (by kernel_rfl) (by kernel_rfl) (by kernel_rfl) (fun _ _ _ h => h) (Or.inl ⟨by rfl, ?_⟩) (SK.out _ tV) ?_
          · rintro w ⟨s0, s1, d0, d1, d2, d3, d4, d5⟩
            go_simp
          simp only [Act.put, List.setIfInBounds_toArray, List.set_cons_zero, List.set_cons_succ]
          refine wpAnyZ_take (i := 6) (oi := { dst := some 37, op := Op.load 37 (Operand.tmp 7), type := 37, pos := "lists.go:28", after := #[], guard := none }) (v := .agg #[.int .u64 (no : Nat), .int .i64 sz, .slice la L1 lc, .slice ma L2 mc, .int .i64 en, .int .u64 (sq : Nat)]) rfl (by kernel_rfl) (by kernel_rfl) (by kernel_rfl) (by kernel_rfl) (fun _ _ _ h => h) (Or.inl ⟨by rfl, ?_⟩) (SK.out _ tV) ?_
          · rintro w ⟨s0, s1, d0, d1, d2, d3, d4, d5⟩
            go_simp
          simp only [Act.put, List.setIfInBounds_toArray, List.set_cons_zero, List.set_cons_succ]
          refine wpAnyZ_ready (rs := [7]) (by kernel_rfl) (by simp) ?_
          refine AllReadyZ.cons rfl (fun K hK => ?_) AllReadyZ.nil
          go_simp
          refine (CC.out _ tV).mono ?_
          rintro oo Vn ⟨y2, rfl, hyf, hft, tq⟩
          have tN := tq
          have tV := tV.trans tN
          have HYF := hide hyf
          have HFT := hide hft
          clear hyf hft tq
          clear tN
          go_simp
          refine hK.out _ _ (SK.out _ tV) (fun _ => ?_)
          clear hK K
          refine wpAnyZ_take (i := 8) (oi := { dst := some 39, op := Op.indexAddr 50 (Operand.tmp 35) (Operand.tmp 36), type := 0, pos := "lists.go:28", after := #[{ on := 4, ground := Ground.data }, { on := 5, ground := Ground.data }, { on := 0, ground := Ground.phase }, { on := 1, ground := Ground.phase }, { on := 2, ground := Ground.phase }, { on := 3, ground := Ground.phase }, { on := 4, ground := Ground.phase }, { on := 5, ground := Ground.phase }, { on := 6, ground := Ground.phase }, { on := 7, ground := Ground.phase }], guard := none }) (v := .pointer (some ⟨gb, q * 6, none⟩)) rfl (by kernel_rfl) (by kernel_rfl) (by kernel_rfl) (by kernel_rfl) (fun _ _ _ h => h) (Or.inl ⟨by rfl, ?_⟩) (SK.out _ tV) ?_
          · rintro w ⟨s0, s1, d0, d1, d2, d3, d4, d5⟩
            go_simp
          simp only [Act.put, List.setIfInBounds_toArray, List.set_cons_zero, List.set_cons_succ]
          obtain ⟨y2la, y2lc, y2ma, y2mc, ⟨no2, sz2, ls2, ms2, en2, sq2⟩⟩ := y2
          have hg6 := tV.heap HGB.out.choose_spec.1 (fun x => x)
          have hszB := HGB.out.choose_spec.2
          have e0 := frozen_of_row Vn gb (q * 6 + 0) _ 37 hg6
          have e1 := frozen_of_row Vn gb (q * 6 + 1) _ 37 hg6
          have e2 := frozen_of_row Vn gb (q * 6 + 2) _ 37 hg6
          have e3 := frozen_of_row Vn gb (q * 6 + 3) _ 37 hg6
          have e4 := frozen_of_row Vn gb (q * 6 + 4) _ 37 hg6
          have e5 := frozen_of_row Vn gb (q * 6 + 5) _ 37 hg6
          have hcg : ∀ m, m < 6 → ∃ d, Vn.cell? ⟨gb, q * 6 + m, none⟩ = some d := fun m hm => ⟨_, by rw [cell_of_row Vn gb (q * 6 + m) _ 37 (0, 0) hg6]; exact Array.getElem?_eq_getElem (by have := HXC.out; omega)⟩
          obtain ⟨q0, f0⟩ := hcg 0 (by omega)
          obtain ⟨q1, f1⟩ := hcg 1 (by omega)
          obtain ⟨q2, f2⟩ := hcg 2 (by omega)
          obtain ⟨q3, f3⟩ := hcg 3 (by omega)
          obtain ⟨q4, f4⟩ := hcg 4 (by omega)
          obtain ⟨q5, f5⟩ := hcg 5 (by omega)
          rw [Nat.add_zero] at e0 f0
          clear hcg hg6 hszB
          have TV := hide tV
          clear tV
          refine wpAnyZ_ready (rs := [9]) (by kernel_rfl) (by simp) ?_
          refine AllReadyZ.free rfl (by kernel_rfl) (fun K hK => ?_) AllReadyZ.nil
          go_simp
          refine hK.out _ _ ?_
          clear hK K
          refine wpAnyZ_done (by kernel_rfl) ?_ _
          have tS := turns_setCells gb (q * 6) (Tf.cells ⟨y2la, y2lc, y2ma, y2mc, ⟨no2, sz2, ls2, ms2, en2, sq2⟩⟩) Vn
          have REL := hide (show ∃ ys', ys'.length = q + 1 ∧ fls ys' = fls (xl.take (q + 1)) ∧ RowOk (Vn.setCells gb (q * 6) (Tf.cells ⟨y2la, y2lc, y2ma, y2mc, ⟨no2, sz2, ls2, ms2, en2, sq2⟩⟩)) wo.heap.size (some ⟨gb, 0, none⟩) gc (ys' ++ xl.drop (q + 1)) ∧ (∀ y ∈ ys', FT (Vn.setCells gb (q * 6) (Tf.cells ⟨y2la, y2lc, y2ma, y2mc, ⟨no2, sz2, ls2, ms2, en2, sq2⟩⟩)) w.heap.size y) ∧ Turns (fun j => some (⟨gb, 0, none⟩ : Addr) = some ⟨j, 0, none⟩) w3 (Vn.setCells gb (q * 6) (Tf.cells ⟨y2la, y2lc, y2ma, y2mc, ⟨no2, sz2, ls2, ms2, en2, sq2⟩⟩)) from by
            have tq := TF.out.trans TV.out
            have hk37 : ∀ j, j = gb → w.heap.size ≤ j → ∀ cs z, ¬ Vn.heap[j]? = some (.cells cs 5 z) := fun j e _ cs z e2 => by
              obtain ⟨cs', h1, _⟩ := HGB.out
              have h2 := TV.out.heap h1 (fun x => x)
              rw [e] at e2
              exact absurd (h2.symm.trans e2) (by intro h; cases h)
            refine ⟨ys ++ [⟨y2la, y2lc, y2ma, y2mc, ⟨no2, sz2, ls2, ms2, en2, sq2⟩⟩], by simp [HYL.out], ?_, .inr ⟨gb, rfl, HGE.out, ?_, ?_⟩, fun z hz => ?_, ?_⟩
            · have := HYF.out
              simp only at this
              rw [List.take_add_one, HY.out]
              simp only [fls, List.map_append, Option.toList_some, List.map_cons, List.map_nil] at *
              rw [this, ← HYS.out]
            · have h1 := HXC.out
              have h2 := HXL.out
              have h3 := HYL.out
              have h4 := HRO.out
              rcases h4 with ⟨e, _⟩ | ⟨_, _, _, h5, _⟩
              · cases e
              · rw [HDR.out] at h5; simp at h5 ⊢; omega
            · have h1 := HRW.out.turns tq (fun x => x)
              rw [HDR.out] at h1
              have h2 := row_put (y := ⟨y2la, y2lc, y2ma, y2mc, ⟨no2, sz2, ls2, ms2, en2, sq2⟩⟩) h1 HYL.out
              rw [List.append_assoc]
              exact h2
            · rcases List.mem_append.1 hz with hz | hz
              · exact ((HFTS.out z hz).quiet tq).keep tS hk37
              · obtain rfl := List.mem_singleton.1 hz
                exact (HFT.out.mono (by have h1 := TNR.out.size; have h2 := TF.out.size; show w.heap.size ≤ W.drew.heap.size; show w.heap.size ≤ W.heap.size; omega)).keep tS hk37
            · exact (HTN.out.trans (tq.mono fun _ _ x => x.elim)).trans (tS.mono fun j _ e => by subst e; rfl))
          simp only [cells6] at REL
          clear tS
          clear e0 e1 e2 e3 e4 e5 f0 f1 f2 f3 f4 f5
          go_wp2_with fail
          obtain ⟨ys', r1, r2, r3, r4, r5⟩ := REL.out
          go_roundw
          case rel => exact ⟨q + 1, ys', by go_num, by omega, r1, r2, r3, r4, r5⟩
          case measure => simp [intOf]; omega
        · obtain rfl : q = XL := by omega
          have hdr : xl.drop q = [] := List.drop_eq_nil_of_le (by have := HXL.out; omega)
          have htk : xl.take q = xl := List.take_of_length_le (by have := HXL.out; omega)
          have REL := hide (show ∃ L2 : List Lv, L2.length = k + 1 ∧ DR wr w.heap.size G 5 L2 ∧ flL L2 = flL (L.take (k + 1)) ∧ wr.heap[P]? = some (.cells #[.slice (some ⟨G, 0, none⟩) 5 c2] 54 (0, 0)) ∧ wr.heap[w.heap.size]? = some (.cells #[.slice none 0 0] 54 (0, 0)) from by
            have hro := HRO.out
            rw [hdr, List.append_nil] at hro
            refine ⟨L' ++ [⟨ga, gc, ys⟩], by simp [HLL.out], (D1.out.turned HTN.out HROW2.out NA.out).snoc HLL.out ⟨ga, gc, ys⟩ ?_ (hro.mono HB.out.size) NA.out HFTS.out, ?_, HTN.out.heap PW.out (fun e => NP.out _ e rfl), HTN.out.heap RW.out (fun e => NR.out _ e rfl)⟩
            · show wr.cell? _ = some (.slice ga ys.length gc)
              rw [HYL.out]
              exact HTN.out.cell D2.out (fun e => NG.out _ e rfl)
            · have h1 := HFL.out
              have h2 := HYS.out
              rw [htk] at h2
              unfold flL at *
              rw [List.map_append, h1, List.take_add_one, HX.out, List.map_append]
              simp [h2])
          clear hdr htk
          go_wp2_with fail
          obtain ⟨L2, r1, r2, r3, r4, r5⟩ := REL.out
          go_roundw
          case rel => exact ⟨k + 1, L2, by go_num, by omega, r1, r2, r3, r4, r5, TNR.out⟩
          case measure => simp [intOf]; omega
    · obtain rfl : k = 5 := by omega
      have ht : L.take 5 = L := List.take_of_length_le (by have := HL.out; omega)
      have hp := cell_of_row wr P 0 _ 54 (0, 0) HPB.out
      have hr := cell_of_row wr w.heap.size 0 _ 54 (0, 0) HRB.out
      have hz := frozen_of_row wr w.heap.size 0 _ 54 HRB.out
      rw [ht] at HFL
      go_wp2_with fail
      have tk := (Tick.refl HRB.out).set 0 (.slice (some ⟨G, 0, none⟩) 5 c2)
      refine bodyPost_ret (v := .agg #[.slice (some ⟨G, 0, none⟩) 5 c2]) ?_ rfl ?_
      · exact results_cell_row Try.results26 _ _ _ _ _ _ _ rfl tk.1 Try.underlying54 rfl sz54
      · have u := Turns.of_tick tk
        exact ⟨G, c2, L', rfl, hc2, HLL.out, HD.out.alien u HRB.out (by decide) (by decide) (by decide), HFL.out, HB.out.andThen u fun j hj e => by omega⟩
end Go.Proofs.Ytmmcikbedegigaa
