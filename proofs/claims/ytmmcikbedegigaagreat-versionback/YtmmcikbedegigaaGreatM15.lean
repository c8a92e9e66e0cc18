import Derived.Test.YtmmcikbedegigaaGreatM14
import Derived.Test.YtmmcikbedegigaaGreatM13
/-
  adding's option.
-/
namespace Go.Proofs.YtmmcikbedegigaaGreat
open Go.RowKit
set_option maxRecDepth 100000
set_option maxHeartbeats 4000000
def F66 (u : World) (E P2 X : Nat) (lev : Int) (sa : Option Addr) (sn sc no : Nat) (sz : Int) (la : Option Addr) (L1 lc : Nat) (ma : Option Addr) (L2 mc : Nat) (en : Int) (sq : Nat) : Prop :=
  u.cell? ⟨E, 1, none⟩ = some (.slice sa sn sc) ∧ u.cell? ⟨P2, 0, none⟩ = some (.int .i64 lev) ∧ u.cell? ⟨X, 0, none⟩ = some (.int .u64 (no : Nat)) ∧ u.cell? ⟨X, 1, none⟩ = some (.int .i64 sz) ∧ u.cell? ⟨X, 2, none⟩ = some (.slice la L1 lc) ∧ u.cell? ⟨X, 3, none⟩ = some (.slice ma L2 mc) ∧ u.cell? ⟨X, 4, none⟩ = some (.int .i64 en) ∧ u.cell? ⟨X, 5, none⟩ = some (.int .u64 (sq : Nat))
/-- How far the option has come. -/
structure Opt (w wr : World) (E B : Nat) (v0 v2 v3 v4 : Value) (ra : Option Addr) (A : List (Int × Tf)) (sa : Option Addr) (sn sc : Nat) : Prop where
  hE : wr.heap[E]? = some (.cells #[v0, .slice sa sn sc, v2, v3, v4] 33 (0, 0))
  len : sn = A.length
  row : ARow wr B sa sc A
  turn : Turns (fun j => j = E ∨ ra = some ⟨j, 0, none⟩) w wr
  new : ∀ q, sa = some ⟨q, 0, none⟩ → ra = some ⟨q, 0, none⟩ ∨ w.heap.size ≤ q
theorem ad1_any (E P1 P2 B : Nat) (lev : Int) (xa : Option Addr) (xn xc : Nat) (xl : List Tf) (ra : Option Addr) (rn rc : Nat) (A : List (Int × Tf)) (v0 v2 v3 v4 : Value) (w : World) (hE : w.heap[E]? = some (.cells #[v0, .slice ra rn rc, v2, v3, v4] 33 (0, 0))) (h1 : w.heap[P1]? = some (.cells #[.slice xa xn xc] 53 (0, 0))) (h2 : w.heap[P2]? = some (.cells #[.int .i64 lev] 3 (0, 0))) (hx : RowOk w B xa xc xl) (hxn : xn = xl.length) (hA : ARow w B ra rc A) (hrn : rn = A.length) (hB : B ≤ w.heap.size) (hmx : A.length + xn ≤ 1000000) :
    Calls Tryz.prog 68 #[.pointer (some ⟨E, 0, none⟩), .pointer (some ⟨P1, 0, none⟩), .pointer (some ⟨P2, 0, none⟩)] w fun e w' => e = .returned (.tuple #[]) ∧ ∃ sa sn sc, Opt w w' E B v0 v2 v3 v4 ra (A ++ xl.map fun y => (lev, y)) sa sn sc := by
  have hxi : (xn : Int) ≤ 1000000 := by omega
  have p1 := cell_of_row w P1 0 _ 53 (0, 0) h1
  have O0 := hide (show Opt w w E B v0 v2 v3 v4 ra A ra rn rc from ⟨hE, hrn, hA, Turns.refl _ _, fun q e => .inl e⟩)
  have H2 := hide h2
  have HX := hide hx
  have HXN := hide hxn
  have HBW0 := hide hB
  have HMX := hide hmx
  have HNE := hide (show ¬ P2 = E from fun e => by rw [e, hE] at h2; cases h2)
  have HEW0 := hide hE
  have HA0 := hide hA
  clear hE h1 h2 hx hxn hA hrn hB hmx
  go_enter Tryz.func68, Tryz.ntmps68
  go_wp2_with fail
  clear p1
  go_loopw [8] (fun i wr => ∃ (k : Nat) (sa : Option Addr) (sn sc : Nat), i = .int .i64 (k : Nat) ∧ k ≤ xn ∧ Opt w wr E B v0 v2 v3 v4 ra (A ++ (xl.take k).map fun y => (lev, y)) sa sn sc) (fun i _ => xn - (intOf i).toNat)
  case atStart => exact ⟨0, ra, rn, rc, rfl, Nat.zero_le _, by simpa using O0.out⟩
  case round =>
    obtain ⟨k, sa, sn, sc, rfl, hk, ho⟩ := hrel
    have HO := hide ho
    clear ho
    by_cases hkn : k < xn
    · obtain ⟨y, hy⟩ : ∃ y, xl[k]? = some y := ⟨_, List.getElem?_eq_getElem (by have := HXN.out; omega)⟩
      obtain ⟨gx0, rfl, hgB, _, hxrow⟩ : ∃ g, xa = some ⟨g, 0, none⟩ ∧ B ≤ g ∧ xl.length ≤ xc ∧ RowC w g 49 (xc * 6) (flCells xl) := by
        rcases HX.out with ⟨_, e, _⟩ | h
        · rw [e] at hy; simp at hy
        · exact h
      have hng : ¬ (gx0 = E ∨ ra = some ⟨gx0, 0, none⟩) := by
        obtain ⟨cs, hc, _⟩ := hxrow
        rintro (e | e)
        · have h3 := HEW0.out; rw [← e, hc] at h3; cases h3
        · exact HA0.out.ne hc (by decide) gx0 e rfl
      have h6 := row_f6 (hxrow.turns HO.out.turn hng) hy
      have i1 : (k : Int) < xn := by omega
      have i0 : (0 : Int) ≤ k := by omega
      have HNX := hide (show (xl.take (k + 1)).map (fun y => (lev, y)) = (xl.take k).map (fun y => (lev, y)) ++ [(lev, y)] by rw [List.take_add_one, hy, List.map_append]; rfl)
      have hE1 := HO.out.hE
      have n2 : ¬ (P2 = E ∨ ra = some ⟨P2, 0, none⟩) := by
        rintro (e | e)
        · exact HNE.out e
        · exact HA0.out.ne H2.out (by decide) P2 e rfl
      have h2' := HO.out.turn.heap H2.out n2
      obtain ⟨yy, hyy⟩ : ∃ yy, yy = y := ⟨_, rfl⟩
      have HYC0 := hide (show (adCell (lev, yy)).toArray = #[.int .i64 lev, .int .u64 (y.f.no : Nat), .int .i64 y.f.size, .slice y.la y.f.least.length y.lc, .slice y.ma y.f.most.length y.mc, .int .i64 y.f.ents, .int .u64 (y.f.seq : Nat)] by rw [hyy]; rfl)
      rw [← hyy] at HNX
      clear hyy
      obtain ⟨la, lc, ma, mc, ⟨no, sz, ls, ms, en, sq⟩⟩ := y
      obtain ⟨y0, y1, y2, y3, y4, y5⟩ := h6
      rw [Nat.zero_add] at y0 y1 y2 y3 y4 y5
      simp only at *
      generalize ls.length = L1 at *
      generalize ms.length = L2 at *
      generalize hAA : (A ++ (xl.take k).map fun y => (lev, y)) = AA at *
      have HAL := hide (show AA.length ≤ 1000000 by rw [← hAA, List.length_append, List.length_map, List.length_take]; have := HMX.out; omega)
      have HSN := hide HO.out.len.symm
      have HNX2 := hide (show A ++ (xl.take (k + 1)).map (fun y => (lev, y)) = AA ++ [(lev, yy)] by rw [HNX.out, ← hAA, List.append_assoc])
      clear hAA hy hxrow
      have TX := hide ((Turns.refl (fun _ => False) wr).alloc (.cells #[.int .u64 (no : Nat), .int .i64 sz, .slice la L1 lc, .slice ma L2 mc, .int .i64 en, .int .u64 (sq : Nat)] 49))
      have RX := hide (heap_alloc_new wr (.cells #[.int .u64 (no : Nat), .int .i64 sz, .slice la L1 lc, .slice ma L2 mc, .int .i64 en, .int .u64 (sq : Nat)] 49))
      go_upto_region 3 with (fail)
      have HAR := hide (HO.out.row.keep TX.out fun _ _ x => x)
      have HEW := hide (TX.out.heap hE1 (fun x => x))
      have H2W := hide (TX.out.heap h2' (fun x => x))
      have HBW := hide (show B ≤ (wr.alloc (.cells #[.int .u64 (no : Nat), .int .i64 sz, .slice la L1 lc, .slice ma L2 mc, .int .i64 en, .int .u64 (sq : Nat)] 49)).heap.size from Nat.le_trans HBW0.out (Nat.le_trans HO.out.turn.size TX.out.size))
      have HYC := hide (show some (Obj.cells #[.int .i64 lev, .int .u64 (no : Nat), .int .i64 sz, .slice la L1 lc, .slice ma L2 mc, .int .i64 en, .int .u64 (sq : Nat)] 56 (0, 0)) = some (.cells (adCell (lev, yy)).toArray 56 (0, 0)) by rw [HYC0.out])
      clear hE1 h2' y0 y1 y2 y3 y4 y5
      generalize wr.alloc (.cells #[.int .u64 (no : Nat), .int .i64 sz, .slice la L1 lc, .slice ma L2 mc, .int .i64 en, .int .u64 (sq : Nat)] 49) = W at *
      generalize wr.heap.size = X at *
      have NEr := hide (show ∀ g, sa = some ⟨g, 0, none⟩ → ¬ g = E from fun g e => HAR.out.ne HEW.out (by decide) g e)
      have N2r := hide (show ∀ g, sa = some ⟨g, 0, none⟩ → ¬ g = P2 from fun g e => HAR.out.ne H2W.out (by decide) g e)
      have NXr := hide (show ∀ g, sa = some ⟨g, 0, none⟩ → ¬ g = X from fun g e => HAR.out.ne RX.out (by decide) g e)
      have tV : Turns (fun j => sa = some ⟨j, 0, none⟩) W W.drew := (Turns.refl _ _).drew
      have tF : Turns (fun _ => False) W W.drew := (Turns.refl _ _).drew
      have SK := hide (fun (u : World) (t : Turns (fun j => sa = some ⟨j, 0, none⟩) W u) => show F66 u E P2 X lev sa sn sc no sz la L1 lc ma L2 mc en sq from ⟨t.cell (cell_of_row W E 1 _ 33 (0, 0) HEW.out) (fun e => NEr.out _ e rfl), t.cell (cell_of_row W P2 0 _ 3 (0, 0) H2W.out) (fun e => N2r.out _ e rfl), t.cell (cell_of_row W X 0 _ 49 (0, 0) RX.out) (fun e => NXr.out _ e rfl), t.cell (cell_of_row W X 1 _ 49 (0, 0) RX.out) (fun e => NXr.out _ e rfl), t.cell (cell_of_row W X 2 _ 49 (0, 0) RX.out) (fun e => NXr.out _ e rfl), t.cell (cell_of_row W X 3 _ 49 (0, 0) RX.out) (fun e => NXr.out _ e rfl), t.cell (cell_of_row W X 4 _ 49 (0, 0) RX.out) (fun e => NXr.out _ e rfl), t.cell (cell_of_row W X 5 _ 49 (0, 0) RX.out) (fun e => NXr.out _ e rfl)⟩)
      refine wp_region_z_drew 12 (S := fun u => F66 u E P2 X lev sa sn sc no sz la L1 lc ma L2 mc en sq) (by kernel_rfl) (SK.out _ tV) (fun _ => ?_)
      change wpAnyZ _ _ _ _ _ _ 13 (Array.replicate 13 false) _ _
      refine wpAnyZ_take (i := 0) (oi := { dst := some 12, op := Op.move (Operand.tmp 0), type := 115, pos := "edit.go:34", after := #[], guard := none }) (v := .pointer (some ⟨E, 0, none⟩)) rfl (by kernel_rfl) (by kernel_rfl) (by kernel_rfl) (by kernel_rfl) (fun _ _ _ h => h) (Or.inl ⟨by rfl, ?_⟩) (SK.out _ tV) ?_
      · rintro w ⟨s0, s1, d0, d1, d2, d3, d4, d5⟩
        go_simp
      simp only [Act.put, List.setIfInBounds_toArray, List.set_cons_zero, List.set_cons_succ]
      refine wpAnyZ_take (i := 1) (oi := { dst := some 13, op := Op.move (Operand.tmp 0), type := 115, pos := "edit.go:34", after := #[], guard := none }) (v := .pointer (some ⟨E, 0, none⟩)) rfl (by kernel_rfl) (by kernel_rfl) (by kernel_rfl) (by kernel_rfl) (fun _ _ _ h => h) (Or.inl ⟨by rfl, ?_⟩) (SK.out _ tV) ?_
      · rintro w ⟨s0, s1, d0, d1, d2, d3, d4, d5⟩
        go_simp
      simp only [Act.put, List.setIfInBounds_toArray, List.set_cons_zero, List.set_cons_succ]
      refine wpAnyZ_take (i := 2) (oi := { dst := some 14, op := Op.nilCheck (Operand.tmp 13), type := 0, pos := "edit.go:34", after := #[{ on := 1, ground := Ground.data }], guard := none }) (v := .pointer (some ⟨E, 0, none⟩)) rfl (by kernel_rfl) (by kernel_rfl) (by kernel_rfl) (by kernel_rfl) (fun _ _ _ h => h) (Or.inl ⟨by rfl, ?_⟩) (SK.out _ tV) ?_
      · rintro w ⟨s0, s1, d0, d1, d2, d3, d4, d5⟩
        go_simp
      simp only [Act.put, List.setIfInBounds_toArray, List.set_cons_zero, List.set_cons_succ]
      refine wpAnyZ_take (i := 3) (oi := { dst := some 15, op := Op.fieldAddr 33 (Operand.tmp 14) 1, type := 0, pos := "edit.go:34", after := #[{ on := 2, ground := Ground.data }], guard := none }) (v := .pointer (some ⟨E, 1, none⟩)) rfl (by kernel_rfl) (by kernel_rfl) (by kernel_rfl) (by kernel_rfl) (fun _ _ _ h => h) (Or.inl ⟨by rfl, ?_⟩) (SK.out _ tV) ?_
      · rintro w ⟨s0, s1, d0, d1, d2, d3, d4, d5⟩
        go_simp
      simp only [Act.put, List.setIfInBounds_toArray, List.set_cons_zero, List.set_cons_succ]
      refine wpAnyZ_take (i := 4) (oi := { dst := some 16, op := Op.load 31 (Operand.tmp 15), type := 31, pos := "edit.go:34", after := #[{ on := 3, ground := Ground.data }], guard := none }) (v := .slice sa sn sc) rfl (by kernel_rfl) (by kernel_rfl) (by kernel_rfl) (by kernel_rfl) (fun _ _ _ h => h) (Or.inl ⟨by rfl, ?_⟩) (SK.out _ tV) ?_
      · rintro w ⟨s0, s1, d0, d1, d2, d3, d4, d5⟩
        go_simp
      simp only [Act.put, List.setIfInBounds_toArray, List.set_cons_zero, List.set_cons_succ]
      refine wpAnyZ_take (i := 5) (oi := { dst := some 17, op := Op.load 3 (Operand.tmp 2), type := 3, pos := "edit.go:34", after := #[], guard := none }) (v := .int .i64 lev) rfl (by kernel_rfl) (by kernel_rfl) (by kernel_rfl) (by kernel_rfl) (fun _ _ _ h => h) (Or.inl ⟨by rfl, ?_⟩) (SK.out _ tV) ?_
      · rintro w ⟨s0, s1, d0, d1, d2, d3, d4, d5⟩
        go_simp
      simp only [Act.put, List.setIfInBounds_toArray, List.set_cons_zero, List.set_cons_succ]
      refine wpAnyZ_take (i := 6) (oi := { dst := some 18, op := Op.load 49 (Operand.tmp 5), type := 49, pos := "edit.go:34", after := #[], guard := none }) (v := .agg #[.int .u64 (no : Nat), .int .i64 sz, .slice la L1 lc, .slice ma L2 mc, .int .i64 en, .int .u64 (sq : Nat)]) rfl (by kernel_rfl) (by kernel_rfl) (by kernel_rfl) (by kernel_rfl) (fun _ _ _ h => h) (Or.inl ⟨by rfl, ?_⟩) (SK.out _ tV) ?_
      · rintro w ⟨s0, s1, d0, d1, d2, d3, d4, d5⟩
        go_simp
      simp only [Act.put, List.setIfInBounds_toArray, List.set_cons_zero, List.set_cons_succ]
      refine wpAnyZ_take (i := 7) (oi := { dst := some 19, op := Op.build 56 #[(0, Operand.tmp 17), (1, Operand.tmp 18)], type := 56, pos := "edit.go:34", after := #[{ on := 5, ground := Ground.data }, { on := 6, ground := Ground.data }], guard := none }) (v := .agg #[.int .i64 lev, .int .u64 (no : Nat), .int .i64 sz, .slice la L1 lc, .slice ma L2 mc, .int .i64 en, .int .u64 (sq : Nat)]) rfl (by kernel_rfl) (by kernel_rfl) (by kernel_rfl) (by kernel_rfl) (fun _ _ _ h => h) (Or.inl ⟨by rfl, ?_⟩) (SK.out _ tV) ?_
      · rintro w ⟨s0, s1, d0, d1, d2, d3, d4, d5⟩
        go_simp
      simp only [Act.put, List.setIfInBounds_toArray, List.set_cons_zero, List.set_cons_succ]
      generalize W.drew = Wd at *
      obtain ⟨uA, huA⟩ : ∃ uA, uA = Wd.alloc (.cells #[.int .i64 lev, .int .u64 (no : Nat), .int .i64 sz, .slice la L1 lc, .slice ma L2 mc, .int .i64 en, .int .u64 (sq : Nat)] 56) := ⟨_, rfl⟩
      have hnA : uA.heap[Wd.heap.size]? = some (.cells #[.int .i64 lev, .int .u64 (no : Nat), .int .i64 sz, .slice la L1 lc, .slice ma L2 mc, .int .i64 en, .int .u64 (sq : Nat)] 56) := by rw [huA]; exact heap_alloc_new _ _
      have tA : Turns (fun _ => False) Wd uA := by rw [huA]; exact (Turns.refl _ _).alloc _
      refine wpAnyZ_ready (rs := [8]) (by kernel_rfl) (by simp) ?_
      refine AllReadyZ.cons rfl (fun K hK => ?_) AllReadyZ.nil
      go_simp
      rw [← huA]
      have tF := tF.trans tA
      have tV := tV.trans (tA.mono (S' := fun j => sa = some ⟨j, 0, none⟩) fun _ _ x => x.elim)
      refine hK.out _ _ (SK.out _ tV) (fun _ => ?_)
      clear hK K huA tA
      obtain ⟨a5, n5, c5, w5, hr5, hn5, hro5, ht5, hq5⟩ := append_ad uA B sa sc AA (HAR.out.keep tF fun _ _ x => x) (Nat.le_trans HBW.out tF.size) HAL.out (lev, yy) Wd.heap.size 1 (by rw [hnA]; exact HYC.out)
      rw [HSN.out] at hr5
      have tV5 := tV.trans ht5
      refine wpAnyZ_ready (rs := [9]) (by kernel_rfl) (by simp) ?_
      refine AllReadyZ.cons rfl (fun K hK => ?_) AllReadyZ.nil
      refine step_append_run rfl _ _ 31 rfl (.slice sa sn sc) (.slice (some ⟨Wd.heap.size, 0, none⟩) 1 1) rfl rfl _ _ (hr5 _) 21 rfl ?_
      refine hK.out _ _ (SK.out _ tV5) (fun _ => ?_)
      clear hK K
      simp only [Act.put, List.setIfInBounds_toArray, List.set_cons_zero, List.set_cons_succ]
      have tV := tV5
      refine wpAnyZ_late (i := 10) (oi := { dst := some 22, op := Op.nilCheck (Operand.tmp 12), type := 0, pos := "edit.go:34", after := #[{ on := 0, ground := Ground.data }, { on := 0, ground := Ground.phase }, { on := 1, ground := Ground.phase }, { on := 2, ground := Ground.phase }, { on := 3, ground := Ground.phase }, { on := 4, ground := Ground.phase }, { on := 5, ground := Ground.phase }, { on := 6, ground := Ground.phase }, { on := 7, ground := Ground.phase }, { on := 8, ground := Ground.phase }, { on := 9, ground := Ground.phase }], guard := none }) (v := .pointer (some ⟨E, 0, none⟩)) rfl (by kernel_rfl) (by kernel_rfl) (by kernel_rfl) (by kernel_rfl) (fun _ _ _ h => h) (Or.inl ⟨by rfl, ?_⟩) (.inr (SK.out _ tV)) ?_
      · rintro w -
        go_simp
      simp only [Act.put, List.setIfInBounds_toArray, List.set_cons_zero, List.set_cons_succ]
      refine wpAnyZ_take (i := 11) (oi := { dst := some 23, op := Op.fieldAddr 33 (Operand.tmp 22) 1, type := 0, pos := "edit.go:34", after := #[{ on := 10, ground := Ground.data }, { on := 0, ground := Ground.phase }, { on := 1, ground := Ground.phase }, { on := 2, ground := Ground.phase }, { on := 3, ground := Ground.phase }, { on := 4, ground := Ground.phase }, { on := 5, ground := Ground.phase }, { on := 6, ground := Ground.phase }, { on := 7, ground := Ground.phase }, { on := 8, ground := Ground.phase }, { on := 9, ground := Ground.phase }], guard := none }) (v := .pointer (some ⟨E, 1, none⟩)) rfl (by kernel_rfl) (by kernel_rfl) (by kernel_rfl) (by kernel_rfl) (fun _ _ _ h => h) (Or.inl ⟨by rfl, ?_⟩) (SK.out _ tV) ?_
      · rintro w ⟨s0, s1, d0, d1, d2, d3, d4, d5⟩
        go_simp
      simp only [Act.put, List.setIfInBounds_toArray, List.set_cons_zero, List.set_cons_succ]
      have hE5 := tV5.heap HEW.out (fun e => HAR.out.ne HEW.out (by decide) E e rfl)
      have e1 := cell_of_row w5 E 1 _ 33 (0, 0) hE5
      have z1 := frozen_of_row w5 E 1 _ 33 hE5
      have TK := hide ((Tick.refl hE5).set 1 (.slice a5 n5 c5))
      have TV := hide tV5
      have RO5 := hide hro5
      have HN5 := hide hn5
      have HQ5 := hide hq5
      have TF := hide tF
      clear hE5 tV tV5 tF hro5 hn5 hq5 hr5 ht5 hnA
      refine wpAnyZ_ready (rs := [12]) (by kernel_rfl) (by simp) ?_
      refine AllReadyZ.free rfl (by kernel_rfl) (fun K hK => ?_) AllReadyZ.nil
      go_simp
      refine hK.out _ _ ?_
      clear hK K
      refine wpAnyZ_done (by kernel_rfl) ?_ _
      have REL := hide (show Opt w (w5.setCell ⟨E, 1, none⟩ (.slice a5 n5 c5)) E B v0 v2 v3 v4 ra (A ++ (xl.take (k + 1)).map fun y => (lev, y)) a5 n5 c5 from by
        rw [HNX2.out]
        have u := Turns.of_tick TK.out
        refine ⟨TK.out.1, HN5.out, RO5.out.keep u fun g e e2 => ?_, ?_, fun q e => ?_⟩
        · have hE5 : w5.heap[E]? = some (.cells #[v0, .slice sa sn sc, v2, v3, v4] 33 (0, 0)) := TV.out.heap HEW.out (fun e => NEr.out _ e rfl)
          exact RO5.out.ne hE5 (by decide) g e e2
        · refine ((HO.out.turn.trans (TX.out.mono fun _ _ x => x.elim)).andThen TV.out fun j hj e => ?_).trans (u.mono fun j _ e => .inl e)
          rcases HO.out.new j e with h3 | h3
          · exact .inr h3
          · omega
        · rcases HQ5.out q e with h3 | h3
          · exact HO.out.new q h3
          · refine .inr ?_
            have h4 := TF.out.size
            have h5 := TX.out.size
            have h6 := HO.out.turn.size
            omega)
      clear TV RO5 HN5 HQ5 TF TK e1 z1
      go_wp2_with fail
      go_roundw
      case rel => exact ⟨k + 1, a5, n5, c5, by go_num, by omega, REL.out⟩
      case measure => simp [intOf]; omega
    · obtain rfl : k = xn := by omega
      have htk : xl.take k = xl := List.take_of_length_le (by have := HXN.out; omega)
      rw [htk] at HO
      clear htk
      go_wp2_with fail
      go_end0
      exact ⟨rfl, sa, sn, sc, HO.out⟩
end Go.Proofs.YtmmcikbedegigaaGreat

/-
  editOf, of the options that Whole makes.
-/
namespace Go.Proofs.YtmmcikbedegigaaGreat
open Go.RowKit
set_option maxRecDepth 100000
set_option maxHeartbeats 4000000
def adsOf (L : List Lv) : List (Int × Tf) := L.zipIdx.flatMap fun p => p.1.l.map fun y => ((p.2 : Int), y)
theorem adsOf_take {L : List Lv} {i : Nat} {x : Lv} (h : L[i]? = some x) : adsOf (L.take (i + 1)) = adsOf (L.take i) ++ x.l.map fun y => ((i : Int), y) := by
  have hi := (List.getElem?_eq_some_iff.1 h).1
  have e : L.take (i + 1) = L.take i ++ [x] := by rw [List.take_add_one, h]; rfl
  have hl : (L.take i).length = i := by rw [List.length_take]; omega
  unfold adsOf
  rw [e, List.zipIdx_append, List.flatMap_append, hl, Nat.zero_add]
  simp
theorem adsOf_length (L : List Lv) : (adsOf L).length = cnt L := by
  unfold adsOf cnt
  rw [List.length_flatMap]
  simp only [List.length_map]
  congr 1
  have : ∀ q, (L.zipIdx q).map (fun a => a.1.l.length) = L.map fun x => x.l.length := by
    induction L with
    | nil => intro q; rfl
    | cons x r ih => intro q; rw [List.zipIdx_cons, List.map_cons, List.map_cons, ih]
  exact this 0
def numOpt (N1 N2 N3 : Nat) : Value := .func (.func 63) #[] #[.pointer (some ⟨N1, 0, none⟩), .pointer (some ⟨N2, 0, none⟩), .pointer (some ⟨N3, 0, none⟩)]
def addOpt (p : Nat × Nat) : Value := .func (.func 68) #[] #[.pointer (some ⟨p.1, 0, none⟩), .pointer (some ⟨p.2, 0, none⟩)]
/-- The options that Whole makes, in memory. -/
structure Opts (u : World) (B og N1 N2 N3 next seq log : Nat) (ps : List (Nat × Nat)) (L : List Lv) : Prop where
  row : ∃ cs : Array Value, u.heap[og]? = some (.cells cs 81 (0, 0)) ∧ cs[0]? = some (numOpt N1 N2 N3) ∧ ∀ (k : Nat) (p : Nat × Nat), ps[k]? = some p → cs[k + 1]? = some (addOpt p)
  n1 : u.heap[N1]? = some (.cells #[.int .u64 (next : Nat)] 25 (0, 0))
  n2 : u.heap[N2]? = some (.cells #[.int .u64 (seq : Nat)] 25 (0, 0))
  n3 : u.heap[N3]? = some (.cells #[.int .u64 (log : Nat)] 25 (0, 0))
  caps : ∀ (k : Nat) (p : Nat × Nat) (x : Lv), ps[k]? = some p → L[k]? = some x → u.heap[p.1]? = some (.cells #[.slice x.a x.l.length x.c] 53 (0, 0)) ∧ u.heap[p.2]? = some (.cells #[.int .i64 (k : Nat)] 3 (0, 0))
  rows : ∀ (k : Nat) (x : Lv), L[k]? = some x → RowOk u B x.a x.c x.l
/-- They stay while an edit and its adds turn. -/
theorem Opts.keep {u u' : World} {B og N1 N2 N3 next seq log E c : Nat} {ps : List (Nat × Nat)} {L : List Lv} (h : Opts u B og N1 N2 N3 next seq log ps L) {a : Option Addr} {A : List (Int × Tf)} {cs : Array Value} {z : Nat × Nat} (t : Turns (fun j => j = E ∨ a = some ⟨j, 0, none⟩) u u') (hE : u.heap[E]? = some (.cells cs 33 z)) (hA : ARow u B a c A) : Opts u' B og N1 N2 N3 next seq log ps L := by
  have hn : ∀ {p : Nat} {cs' : Array Value} {ty : TypeId} {z' : Nat × Nat}, u.heap[p]? = some (.cells cs' ty z') → ty ≠ 33 → ty ≠ 56 → ¬ (p = E ∨ a = some ⟨p, 0, none⟩) := fun hp h1 h2 => by
    rintro (rfl | e)
    · rw [hE] at hp; cases hp; exact h1 rfl
    · exact hA.ne hp h2 _ e rfl
  have hk : ∀ {p : Nat} {cs' : Array Value} {ty : TypeId} {z' : Nat × Nat}, u.heap[p]? = some (.cells cs' ty z') → ty ≠ 33 → ty ≠ 56 → u'.heap[p]? = some (.cells cs' ty z') := fun hp h1 h2 => t.heap hp (hn hp h1 h2)
  refine ⟨?_, hk h.n1 (by decide) (by decide), hk h.n2 (by decide) (by decide), hk h.n3 (by decide) (by decide), fun k p x hp hx => ?_, fun k x hx => ?_⟩
  · obtain ⟨cs', h1, h2⟩ := h.row
    exact ⟨cs', hk h1 (by decide) (by decide), h2⟩
  · obtain ⟨h1, h2⟩ := h.caps k p x hp hx
    exact ⟨hk h1 (by decide) (by decide), hk h2 (by decide) (by decide)⟩
  · refine (h.rows k x hx).keep t fun g e => ?_
    rcases h.rows k x hx with ⟨e3, _⟩ | ⟨g2, e3, _, _, cs2, h4, _⟩
    · rw [e3] at e; cases e
    · rw [e3] at e; cases e; exact hn h4 (by decide) (by decide)
theorem Opts.quiet {u u' : World} {B og N1 N2 N3 next seq log : Nat} {ps : List (Nat × Nat)} {L : List Lv} (h : Opts u B og N1 N2 N3 next seq log ps L) (t : Turns (fun _ => False) u u') : Opts u' B og N1 N2 N3 next seq log ps L :=
  ⟨by obtain ⟨cs', h1, h2⟩ := h.row; exact ⟨cs', t.heap h1 (fun x => x), h2⟩, t.heap h.n1 (fun x => x), t.heap h.n2 (fun x => x), t.heap h.n3 (fun x => x), fun k p x hp hx => ⟨t.heap (h.caps k p x hp hx).1 (fun x => x), t.heap (h.caps k p x hp hx).2 (fun x => x)⟩, fun k x hx => (h.rows k x hx).keep t fun _ _ x => x⟩
theorem sz33w : (Tryz.prog.info? 33).map (·.size) = some 5 := by kernel_rfl
/-- How far the edit has come. -/
structure Eo (w wr : World) (E B next seq log k : Nat) (L : List Lv) (sa : Option Addr) (sn sc x y z : Nat) : Prop where
  hE : wr.heap[E]? = some (.cells #[.slice none 0 0, .slice sa sn sc, .int .u64 (x : Nat), .int .u64 (y : Nat), .int .u64 (z : Nat)] 33 (0, 0))
  len : sn = (adsOf (L.take (k - 1))).length
  row : ARow wr B sa sc (adsOf (L.take (k - 1)))
  num : 1 ≤ k → x = next ∧ y = seq ∧ z = log
  new : ∀ q, sa = some ⟨q, 0, none⟩ → w.heap.size ≤ q
  turn : Turns (fun j => w.heap.size ≤ j) w wr
theorem editOf_whole (og oc N1 N2 N3 next seq log B : Nat) (ps : List (Nat × Nat)) (L : List Lv) (w : World) (h : Opts w B og N1 N2 N3 next seq log ps L) (hl : L.length = 5) (hp : ps.length = 5) (hB : B ≤ w.heap.size) (hc : cnt L ≤ 1000000) :
    Calls Tryz.prog 40 #[.slice (some ⟨og, 0, none⟩) 6 oc] w fun e w' => ∃ sa sn sc, e = .returned (edAgg none 0 0 sa sn sc next seq log) ∧ sn = (adsOf L).length ∧ ARow w' B sa sc (adsOf L) ∧ Turns (fun _ => False) w w' := by
  have T0 := hide (((Turns.refl (fun _ => False) w).alloc (.cells #[.slice none 0 0, .slice none 0 0, .int .u64 0, .int .u64 0, .int .u64 0] 33)).alloc (.cells #[.slice none 0 0, .slice none 0 0, .int .u64 0, .int .u64 0, .int .u64 0] 33))
  have R0 := hide (((Turns.refl (fun _ => False) (w.alloc (.cells #[.slice none 0 0, .slice none 0 0, .int .u64 0, .int .u64 0, .int .u64 0] 33))).alloc (.cells #[.slice none 0 0, .slice none 0 0, .int .u64 0, .int .u64 0, .int .u64 0] 33)).heap (heap_alloc_new w _) (fun x => x))
  have R1 := hide (heap_alloc_new (w.alloc (.cells #[.slice none 0 0, .slice none 0 0, .int .u64 0, .int .u64 0, .int .u64 0] 33)) (.cells #[.slice none 0 0, .slice none 0 0, .int .u64 0, .int .u64 0, .int .u64 0] 33))
  simp only [World.size_alloc] at R1
  have HO := hide (h.quiet T0.out)
  have HL := hide hl
  have HP := hide hp
  have HB := hide hB
  have HC := hide hc
  clear h hl hp hB hc
  go_enter Tryz.func40, Tryz.ntmps40
  go_wp2_with fail
  have HS := hide (show ((w.alloc (.cells #[.slice none 0 0, .slice none 0 0, .int .u64 0, .int .u64 0, .int .u64 0] 33)).alloc (.cells #[.slice none 0 0, .slice none 0 0, .int .u64 0, .int .u64 0, .int .u64 0] 33)).heap.size = w.heap.size + 2 by simp)
  generalize (w.alloc (.cells #[.slice none 0 0, .slice none 0 0, .int .u64 0, .int .u64 0, .int .u64 0] 33)).alloc (.cells #[.slice none 0 0, .slice none 0 0, .int .u64 0, .int .u64 0, .int .u64 0] 33) = w0 at *
  generalize hg : w.heap.size = g at *
  have HG := hide hg
  clear hg
  go_loopw [8] (fun i wr => ∃ (k : Nat) (sa : Option Addr) (sn sc x y z : Nat), i = .int .i64 (k : Nat) ∧ k ≤ 6 ∧ Eo w wr (g + 1) B next seq log k L sa sn sc x y z ∧ Opts wr B og N1 N2 N3 next seq log ps L ∧ wr.heap[g]? = some (.cells #[.slice none 0 0, .slice none 0 0, .int .u64 0, .int .u64 0, .int .u64 0] 33 (0, 0))) (fun i _ => 6 - (intOf i).toNat)
  case atStart => exact ⟨0, none, 0, 0, 0, 0, 0, rfl, Nat.zero_le _, ⟨R1.out, by simp [adsOf], .inl ⟨rfl, by simp [adsOf], rfl⟩, fun h => (by omega), fun q e => (by cases e), T0.out.mono fun _ _ x => x.elim⟩, HO.out, R0.out⟩
  case round =>
    obtain ⟨k, sa, sn, sc, x, y, z, rfl, hk, he, ho, hr⟩ := hrel
    have HE := hide he
    have HOW := hide ho
    have HR := hide hr
    clear he ho hr
    by_cases hk6 : k < 6
    · obtain ⟨cs, hrow, hc0, hck⟩ := HOW.out.row
      have i1 : (k : Int) < 6 := by omega
      have i0 : (0 : Int) ≤ k := by omega
      by_cases hk0 : k = 0
      · subst hk0
        have hcell : wr.cell? ⟨og, 0, none⟩ = some (.func (.func 63) #[] #[.pointer (some ⟨N1, 0, none⟩), .pointer (some ⟨N2, 0, none⟩), .pointer (some ⟨N3, 0, none⟩)]) := by rw [cell_of_row wr og 0 _ 81 (0, 0) hrow, hc0]; rfl
        have CN := hide (num1_any (g + 1) N1 N2 N3 next seq log _ _ _ _ _ wr HE.out.hE HOW.out.n1 HOW.out.n2 HOW.out.n3)
        clear hrow hc0 hck
        go_wp2_with fail
        refine CN.out.mono ?_
        rintro e w1 ⟨rfl, hE1, t1⟩
        have REL := hide (show Eo w w1 (g + 1) B next seq log 1 L sa sn sc next seq log ∧ Opts w1 B og N1 N2 N3 next seq log ps L ∧ w1.heap[g]? = some (.cells #[.slice none 0 0, .slice none 0 0, .int .u64 0, .int .u64 0, .int .u64 0] 33 (0, 0)) from by
          refine ⟨⟨hE1, HE.out.len, HE.out.row.keep t1 fun q e e2 => ?_, fun _ => ⟨rfl, rfl, rfl⟩, HE.out.new, HE.out.turn.trans (t1.mono fun j _ e => by have := HG.out; omega)⟩, HOW.out.keep (t1.mono fun j _ e => .inl e) HE.out.hE HE.out.row, t1.heap HR.out (by omega)⟩
          exact HE.out.row.ne HE.out.hE (by decide) q e e2)
        clear hE1 t1 CN hcell
        go_wp2_with fail
        go_roundw
        case rel => exact ⟨1, sa, sn, sc, next, seq, log, by go_num, by omega, REL.out.1, REL.out.2.1, REL.out.2.2⟩
        case measure => simp [intOf]
      · obtain ⟨i, rfl⟩ : ∃ i, k = i + 1 := ⟨k - 1, by omega⟩
        obtain ⟨xx, hx⟩ : ∃ xx, L[i]? = some xx := ⟨_, List.getElem?_eq_getElem (by have := HL.out; omega)⟩
        obtain ⟨p, hp⟩ : ∃ p, ps[i]? = some p := ⟨_, List.getElem?_eq_getElem (by have := HP.out; omega)⟩
        have hcell : wr.cell? ⟨og, i + 1, none⟩ = some (.func (.func 68) #[] #[.pointer (some ⟨p.1, 0, none⟩), .pointer (some ⟨p.2, 0, none⟩)]) := by rw [cell_of_row wr og (i + 1) _ 81 (0, 0) hrow, hck i p hp]; rfl
        obtain ⟨hp1, hp2⟩ := HOW.out.caps i p xx hp hx
        have hsz := HE.out.turn.size
        have hbnd : (adsOf (L.take i)).length + xx.l.length ≤ 1000000 := by rw [adsOf_length]; have := cnt_take hx; have := cnt_take_le L (i + 1); have := HC.out; omega
        have CA := hide (ad1_any (g + 1) p.1 p.2 B (i : Nat) xx.a xx.l.length xx.c xx.l sa sn sc (adsOf (L.take i)) _ _ _ _ wr HE.out.hE hp1 hp2 (HOW.out.rows i xx hx) rfl HE.out.row HE.out.len (by have := HB.out; have := HG.out; omega) hbnd)
        have HAT := hide (adsOf_take hx)
        obtain ⟨q1, q2⟩ := p
        simp only at *
        clear hrow hc0 hck hp hx hp1 hp2 hbnd
        go_wp2_with fail
        refine CA.out.mono ?_
        rintro e w1 ⟨rfl, sa', sn', sc', ho⟩
        have REL := hide (show Eo w w1 (g + 1) B next seq log (i + 2) L sa' sn' sc' x y z ∧ Opts w1 B og N1 N2 N3 next seq log ps L ∧ w1.heap[g]? = some (.cells #[.slice none 0 0, .slice none 0 0, .int .u64 0, .int .u64 0, .int .u64 0] 33 (0, 0)) from by
          have e1 : adsOf (L.take (i + 2 - 1)) = adsOf (L.take i) ++ xx.l.map fun y => ((i : Int), y) := HAT.out
          have hgr : ¬ sa = some ⟨g, 0, none⟩ := fun e => HE.out.row.ne HR.out (by decide) g e rfl
          refine ⟨⟨ho.hE, by rw [e1]; exact ho.len, by rw [e1]; exact ho.row, fun _ => HE.out.num (by omega), fun q e => ?_, HE.out.turn.trans (ho.turn.mono fun j _ e => ?_)⟩, HOW.out.keep ho.turn HE.out.hE HE.out.row, ho.turn.heap HR.out (fun e => e.elim (fun e => by omega) (fun e => hgr e))⟩
          · rcases ho.new q e with h1 | h1
            · exact HE.out.new q h1
            · have := HG.out; omega
          · rcases e with e | e
            · have := HG.out; omega
            · exact HE.out.new j e)
        clear ho CA hcell hsz
        go_wp2_with fail
        go_roundw
        case rel => exact ⟨i + 2, sa', sn', sc', x, y, z, by go_num, by omega, REL.out.1, REL.out.2.1, REL.out.2.2⟩
        case measure => simp [intOf]; omega
    · obtain rfl : k = 6 := by omega
      have ht : L.take (6 - 1) = L := List.take_of_length_le (by have := HL.out; omega)
      obtain ⟨rfl, rfl, rfl⟩ := HE.out.num (by omega)
      have LEN := hide (show sn = (adsOf L).length by have h1 := HE.out.len; rw [ht] at h1; exact h1)
      have ROW := hide (show ARow wr B sa sc (adsOf L) by have h1 := HE.out.row; rw [ht] at h1; exact h1)
      have c0 := cell_of_row wr (g + 1) 0 _ 33 (0, 0) HE.out.hE
      have c1 := cell_of_row wr (g + 1) 1 _ 33 (0, 0) HE.out.hE
      have c2 := cell_of_row wr (g + 1) 2 _ 33 (0, 0) HE.out.hE
      have c3 := cell_of_row wr (g + 1) 3 _ 33 (0, 0) HE.out.hE
      have c4 := cell_of_row wr (g + 1) 4 _ 33 (0, 0) HE.out.hE
      have d0 := cell_of_row wr g 0 _ 33 (0, 0) HR.out
      have d1 := cell_of_row wr g 1 _ 33 (0, 0) HR.out
      have d2 := cell_of_row wr g 2 _ 33 (0, 0) HR.out
      have d3 := cell_of_row wr g 3 _ 33 (0, 0) HR.out
      have d4 := cell_of_row wr g 4 _ 33 (0, 0) HR.out
      have z0 := frozen_of_row wr g 0 _ 33 HR.out
      have z1 := frozen_of_row wr g 1 _ 33 HR.out
      have z2 := frozen_of_row wr g 2 _ 33 HR.out
      have z3 := frozen_of_row wr g 3 _ 33 HR.out
      have z4 := frozen_of_row wr g 4 _ 33 HR.out
      have TK := hide (((((Tick.refl HR.out).set 0 (.slice none 0 0)).set 1 (.slice sa sn sc)).set 2 (.int .u64 (x : Nat))).set 3 (.int .u64 (y : Nat)) |>.set 4 (.int .u64 (z : Nat)))
      clear ht
      go_wp2_with fail
      refine bodyPost_ret (v := .agg #[.slice none 0 0, .slice sa sn sc, .int .u64 (x : Nat), .int .u64 (y : Nat), .int .u64 (z : Nat)]) ?_ rfl ?_
      · exact results_cell_row Tryz.results40 _ _ _ _ _ _ _ rfl TK.out.1 Tryz.underlying33 rfl sz33w
      · have u := Turns.of_tick TK.out
        refine ⟨sa, sn, sc, rfl, LEN.out, ROW.out.keep u fun q e e2 => ?_, ?_⟩
        · exact HE.out.row.ne HR.out (by decide) q e e2
        · have h1 : Turns (fun _ => False) w wr := HE.out.turn.mono fun j hj e => by omega
          exact h1.andThen u fun j hj e => by have := HG.out; omega
end Go.Proofs.YtmmcikbedegigaaGreat

/-
  The options' row grows.
-/
namespace Go.Proofs.YtmmcikbedegigaaGreat
open Go.RowKit
set_option maxRecDepth 100000
set_option maxHeartbeats 4000000
theorem t75_size : Tryz.t81.size = 1 := by kernel_rfl
theorem t75_bytes : Tryz.t81.bytes = 8 := by kernel_rfl
theorem t75_zero : Tryz.t81.zero = some .nilFunc := by kernel_rfl
theorem info75 : Tryz.prog.info? 81 = some Tryz.t81 := by kernel_rfl
/-- Options in memory, with the room of their row. -/
structure Opt2 (u : World) (B og oc N1 N2 N3 next seq log : Nat) (ps : List (Nat × Nat)) (L : List Lv) : Prop where
  opts : Opts u B og N1 N2 N3 next seq log ps L
  cell : RowC u og 81 oc (numOpt N1 N2 N3 :: ps.map addOpt)
  le : ps.length + 1 ≤ oc
theorem Opt2.quiet {u u' : World} {B og oc N1 N2 N3 next seq log : Nat} {ps : List (Nat × Nat)} {L : List Lv} (h : Opt2 u B og oc N1 N2 N3 next seq log ps L) (t : Turns (fun _ => False) u u') : Opt2 u' B og oc N1 N2 N3 next seq log ps L := ⟨h.opts.quiet t, h.cell.turns t (fun x => x), h.le⟩
theorem opt_append {w : World} {B og oc N1 N2 N3 next seq log : Nat} {ps : List (Nat × Nat)} {L : List Lv} (h : Opt2 w B og oc N1 N2 N3 next seq log ps L) (C : Nat) (hog : C ≤ og) (hC : C ≤ w.heap.size) (hps : ps.length ≤ 1000) (p : Nat × Nat) (gb cy : Nat) (hgb : w.heap[gb]? = some (.cells #[addOpt p] 81 (0, 0)))
    (hp : ∀ x, L[ps.length]? = some x → w.heap[p.1]? = some (.cells #[.slice x.a x.l.length x.c] 53 (0, 0)) ∧ w.heap[p.2]? = some (.cells #[.int .i64 (ps.length : Nat)] 3 (0, 0))) :
    ∃ (og' n' oc' : Nat) (w' : World), (∀ ty, (Builtin.append_ #[84, 84] ty #[.slice (some ⟨og, 0, none⟩) (ps.length + 1) oc, .slice (some ⟨gb, 0, none⟩) 1 cy]).run Tryz.prog w = .ok (.slice (some ⟨og', 0, none⟩) n' oc') w') ∧ n' = ps.length + 2 ∧ C ≤ og' ∧ Opt2 w' B og' oc' N1 N2 N3 next seq log (ps ++ [p]) L ∧ Turns (fun j => j = og) w w' := by
  have hsrc : Src Tryz.prog Tryz.t81.size 84 (.slice (some ⟨gb, 0, none⟩) 1 cy) 1 [addOpt p] w := Src.ofSlice w Tryz.underlying84 ⟨gb, 0, none⟩ 1 cy _ (by rw [t75_size]; rfl) (fun j u hu => by
    rw [Go.WideShapes.add_plain, Nat.zero_add, cell_of_row w gb j _ 81 (0, 0) hgb]
    simpa using hu) (fun u hu => by obtain rfl := List.mem_singleton.1 hu; rfl)
  obtain ⟨g', cp, w', hr, hg', hrow, hb, hcp, hin, hnew, hkeep⟩ := append_gen2 (P := Tryz.prog) w C 84 81 Tryz.t81 _ Tryz.underlying84 info75 t75_zero rfl (some ⟨og, 0, none⟩) (ps.length + 1) oc (numOpt N1 N2 N3 :: ps.map addOpt) (by rw [t75_size]; simp) _ 1 _ hsrc hC (.inr ⟨og, rfl, hog, h.le, by rw [t75_size, Nat.mul_one]; exact h.cell⟩) (by rw [t75_bytes]; omega) (by omega)
  have t : Turns (fun j => j = og) w w' := ⟨hb.os, hb.tape, hb.output, hb.size, fun k hk hn => hkeep k hk fun e => hn (by cases e; rfl)⟩
  rw [t75_size, Nat.mul_one] at hrow
  obtain ⟨cs0, hcs0, _⟩ := h.cell
  have hk : ∀ {q : Nat} {cs' : Array Value} {ty : TypeId} {z' : Nat × Nat}, w.heap[q]? = some (.cells cs' ty z') → ty ≠ 81 → w'.heap[q]? = some (.cells cs' ty z') := fun hq h1 => t.heap hq fun e => by subst e; rw [hcs0] at hq; cases hq; exact h1 rfl
  have hrow' : RowC w' g' 81 cp (numOpt N1 N2 N3 :: (ps ++ [p]).map addOpt) := by rw [List.map_append]; exact hrow
  refine ⟨g', _, cp, w', hr, by omega, hg', ⟨⟨?_, hk h.opts.n1 (by decide), hk h.opts.n2 (by decide), hk h.opts.n3 (by decide), fun k q x hq hx => ?_, fun k x hx => ?_⟩, hrow', by simp; omega⟩, t⟩
  · obtain ⟨cs, e1, e2, e3⟩ := hrow'
    refine ⟨cs, e1, by rw [e3 0 (by simp)]; rfl, fun k q hq => ?_⟩
    have hkl := (List.getElem?_eq_some_iff.1 hq).1
    rw [e3 (k + 1) (by simpa using hkl), List.getElem?_cons_succ, List.getElem?_map, hq]
    rfl
  · rcases Nat.lt_or_ge k ps.length with hkl | hkl
    · rw [List.getElem?_append_left hkl] at hq
      obtain ⟨e1, e2⟩ := h.opts.caps k q x hq hx
      exact ⟨hk e1 (by decide), hk e2 (by decide)⟩
    · have hkl2 := (List.getElem?_eq_some_iff.1 hq).1
      simp only [List.length_append, List.length_cons, List.length_nil] at hkl2
      obtain rfl : k = ps.length := by omega
      rw [List.getElem?_append_right (Nat.le_refl _), Nat.sub_self] at hq
      obtain rfl : p = q := by simpa using hq
      obtain ⟨e1, e2⟩ := hp x hx
      exact ⟨hk e1 (by decide), hk e2 (by decide)⟩
  · refine (h.opts.rows k x hx).keep t fun q e e2 => ?_
    exact (h.opts.rows k x hx).ne hcs0 (by decide) q e e2
end Go.Proofs.YtmmcikbedegigaaGreat

/-
  The options that Parse makes, and what editOf makes of them.
-/
namespace Go.Proofs.YtmmcikbedegigaaGreat
open Go.RowKit
set_option maxRecDepth 100000
set_option maxHeartbeats 4000000
theorem dropping_any (lev : Int) (no : Nat) (w : World) : Calls Tryz.prog 35 #[.int .i64 lev, .int .u64 (no : Nat)] w fun e w' => e = .returned (.func (.func 67) #[] #[.pointer (some ⟨w.heap.size, 0, none⟩), .pointer (some ⟨w.heap.size + 1, 0, none⟩)]) ∧ w'.heap[w.heap.size]? = some (.cells #[.int .i64 lev] 3 (0, 0)) ∧ w'.heap[w.heap.size + 1]? = some (.cells #[.int .u64 (no : Nat)] 25 (0, 0)) ∧ Turns (fun _ => False) w w' := by
  have T := hide (((Turns.refl (fun _ => False) w).alloc (.cells #[.int .i64 lev] 3)).alloc (.cells #[.int .u64 (no : Nat)] 25))
  have a0 := ((Turns.refl (fun _ => False) (w.alloc (.cells #[.int .i64 lev] 3))).alloc (.cells #[.int .u64 (no : Nat)] 25)).heap (heap_alloc_new w (.cells #[.int .i64 lev] 3)) (fun x => x)
  have a1 := heap_alloc_new (w.alloc (.cells #[.int .i64 lev] 3)) (.cells #[.int .u64 (no : Nat)] 25)
  rw [World.size_alloc] at a1
  have A0 := hide a0
  have A1 := hide a1
  clear a0 a1
  go_enter Tryz.func35, Tryz.ntmps35
  go_wp2_with fail
  go_ret
  exact ⟨rfl, A0.out, A1.out, T.out⟩
def dropOpt (p : Nat × Nat) : Value := .func (.func 67) #[] #[.pointer (some ⟨p.1, 0, none⟩), .pointer (some ⟨p.2, 0, none⟩)]
/-- What the options have caught, in memory. -/
structure PC (u : World) (B N1 N2 N3 next seq log : Nat) (ds : List (Nat × Nat)) (D : List (Int × Nat)) (es : List (Nat × Nat)) (A : List (Int × Tf)) : Prop where
  ld : ds.length = D.length
  la : es.length = A.length
  n1 : u.heap[N1]? = some (.cells #[.int .u64 (next : Nat)] 25 (0, 0))
  n2 : u.heap[N2]? = some (.cells #[.int .u64 (seq : Nat)] 25 (0, 0))
  n3 : u.heap[N3]? = some (.cells #[.int .u64 (log : Nat)] 25 (0, 0))
  dc : ∀ (k : Nat) (p : Nat × Nat) (d : Int × Nat), ds[k]? = some p → D[k]? = some d → u.heap[p.1]? = some (.cells #[.int .i64 d.1] 3 (0, 0)) ∧ u.heap[p.2]? = some (.cells #[.int .u64 (d.2 : Nat)] 25 (0, 0))
  ac : ∀ (k : Nat) (p : Nat × Nat) (d : Int × Tf), es[k]? = some p → A[k]? = some d → ∃ x c, u.heap[p.1]? = some (.cells #[.slice x 1 c] 53 (0, 0)) ∧ u.heap[p.2]? = some (.cells #[.int .i64 d.1] 3 (0, 0)) ∧ RowOk u B x c [d.2]
  ft : ∀ d ∈ A, FT u B d.2
theorem rowOk_ty {w : World} {B : Nat} {a : Option Addr} {c : Nat} {R : List Tf} (h : RowOk w B a c R) {g : Nat} (e : a = some ⟨g, 0, none⟩) : ∃ cs, w.heap[g]? = some (.cells cs 49 (0, 0)) := by
  rcases h with ⟨e3, _⟩ | ⟨g2, e3, _, _, cs2, h4, _⟩
  · rw [e3] at e; cases e
  · rw [e3] at e; cases e; exact ⟨cs2, h4⟩
theorem GRow.ty {w : World} {B : Nat} {a : Option Addr} {c : Nat} {R : List (Int × Nat)} (h : GRow w B a c R) {g : Nat} (e : a = some ⟨g, 0, none⟩) : ∃ cs, w.heap[g]? = some (.cells cs 52 (0, 0)) := by
  rcases h with ⟨e3, _⟩ | ⟨g2, e3, _, _, cs2, h4, _⟩
  · rw [e3] at e; cases e
  · rw [e3] at e; cases e; exact ⟨cs2, h4⟩
theorem ARow.ty {w : World} {B : Nat} {a : Option Addr} {c : Nat} {R : List (Int × Tf)} (h : ARow w B a c R) {g : Nat} (e : a = some ⟨g, 0, none⟩) : ∃ cs, w.heap[g]? = some (.cells cs 56 (0, 0)) := by
  rcases h with ⟨e3, _⟩ | ⟨g2, e3, _, _, cs2, h4, _⟩
  · rw [e3] at e; cases e
  · rw [e3] at e; cases e; exact ⟨cs2, h4⟩
/-- A block that is none of theirs. -/
def Alien (u : World) (p : Nat) : Prop := ∀ cs ty z, u.heap[p]? = some (.cells cs ty z) → ty ≠ 25 ∧ ty ≠ 3 ∧ ty ≠ 53 ∧ ty ≠ 49 ∧ ty ≠ 5
theorem alien_of {u : World} {p : Nat} {cs : Array Value} {ty : TypeId} {z : Nat × Nat} (h : u.heap[p]? = some (.cells cs ty z)) (h2 : ty ≠ 25 ∧ ty ≠ 3 ∧ ty ≠ 53 ∧ ty ≠ 49 ∧ ty ≠ 5) : Alien u p := fun cs' ty' z' h' => by rw [h] at h'; cases h'; exact h2
theorem PC.keep {S : Nat → Prop} {u u' : World} {B N1 N2 N3 next seq log : Nat} {ds : List (Nat × Nat)} {D : List (Int × Nat)} {es : List (Nat × Nat)} {A : List (Int × Tf)} (h : PC u B N1 N2 N3 next seq log ds D es A) (t : Turns S u u') (hS : ∀ p, S p → Alien u p) : PC u' B N1 N2 N3 next seq log ds D es A := by
  have hk : ∀ {p : Nat} {cs : Array Value} {ty : TypeId}, u.heap[p]? = some (.cells cs ty (0, 0)) → (ty = 25 ∨ ty = 3 ∨ ty = 53 ∨ ty = 49 ∨ ty = 5) → u'.heap[p]? = some (.cells cs ty (0, 0)) := fun hp h1 => t.heap hp fun x => by
    obtain ⟨a1, a2, a3, a4, a5⟩ := hS _ x _ _ _ hp
    exact h1.elim a1 fun h1 => h1.elim a2 fun h1 => h1.elim a3 fun h1 => h1.elim a4 a5
  refine ⟨h.ld, h.la, hk h.n1 (by decide), hk h.n2 (by decide), hk h.n3 (by decide), fun k p d hp hd => ?_, fun k p d hp hd => ?_, fun d hd => ?_⟩
  · obtain ⟨h1, h2⟩ := h.dc k p d hp hd
    exact ⟨hk h1 (by decide), hk h2 (by decide)⟩
  · obtain ⟨x, c, h1, h2, h3⟩ := h.ac k p d hp hd
    exact ⟨x, c, hk h1 (by decide), hk h2 (by decide), h3.keep t fun g e x => by obtain ⟨cs, h4⟩ := rowOk_ty h3 e; exact (hS _ x _ _ _ h4).2.2.2.1 rfl⟩
  · exact (h.ft d hd).keep t fun k x _ cs z hz => (hS _ x _ _ _ hz).2.2.2.2 rfl
/-- The options that Parse makes, in memory. -/
structure PO (u : World) (B og oc N1 N2 N3 next seq log : Nat) (ds : List (Nat × Nat)) (D : List (Int × Nat)) (es : List (Nat × Nat)) (A : List (Int × Tf)) : Prop where
  pc : PC u B N1 N2 N3 next seq log ds D es A
  row : RowC u og 81 oc (numOpt N1 N2 N3 :: (ds.map dropOpt ++ es.map addOpt))
  le : 1 + ds.length + es.length ≤ oc
  hog : B ≤ og
theorem PO.keep {S : Nat → Prop} {u u' : World} {B og oc N1 N2 N3 next seq log : Nat} {ds : List (Nat × Nat)} {D : List (Int × Nat)} {es : List (Nat × Nat)} {A : List (Int × Tf)} (h : PO u B og oc N1 N2 N3 next seq log ds D es A) (t : Turns S u u') (hS : ∀ p, S p → Alien u p ∧ p ≠ og) : PO u' B og oc N1 N2 N3 next seq log ds D es A :=
  ⟨h.pc.keep t fun p x => (hS p x).1, h.row.turns t fun x => (hS _ x).2 rfl, h.le, h.hog⟩
theorem PO.heap {u : World} {B og oc N1 N2 N3 next seq log : Nat} {ds : List (Nat × Nat)} {D : List (Int × Nat)} {es : List (Nat × Nat)} {A : List (Int × Tf)} (h : PO u B og oc N1 N2 N3 next seq log ds D es A) : ∃ cs, u.heap[og]? = some (.cells cs 81 (0, 0)) := by
  obtain ⟨cs, h1, _⟩ := h.row
  exact ⟨cs, h1⟩
theorem PO.ne {u : World} {B og oc N1 N2 N3 next seq log : Nat} {ds : List (Nat × Nat)} {D : List (Int × Nat)} {es : List (Nat × Nat)} {A : List (Int × Tf)} (h : PO u B og oc N1 N2 N3 next seq log ds D es A) {p : Nat} {cs : Array Value} {ty : TypeId} {z : Nat × Nat} (hp : u.heap[p]? = some (.cells cs ty z)) (h2 : ty ≠ 81) : p ≠ og := by
  rintro rfl
  obtain ⟨cs', h3⟩ := h.heap
  rw [hp] at h3
  cases h3
  exact h2 rfl
theorem app_opt (w : World) (B og oc : Nat) (vs : List Value) (v : Value) (hv : v.oneCell' = true) (hrow : RowC w og 81 oc vs) (hB : B ≤ w.heap.size) (hog : B ≤ og) (hle : vs.length ≤ oc) (hlen : vs.length ≤ 1000000) (gb cy : Nat) (hgb : w.heap[gb]? = some (.cells #[v] 81 (0, 0))) :
    ∃ (og' n' oc' : Nat) (w' : World), (∀ ty, (Builtin.append_ #[84, 84] ty #[.slice (some ⟨og, 0, none⟩) vs.length oc, .slice (some ⟨gb, 0, none⟩) 1 cy]).run Tryz.prog w = .ok (.slice (some ⟨og', 0, none⟩) n' oc') w') ∧ n' = vs.length + 1 ∧ B ≤ og' ∧ vs.length + 1 ≤ oc' ∧ RowC w' og' 81 oc' (vs ++ [v]) ∧ Turns (fun j => j = og) w w' := by
  have hsrc : Src Tryz.prog Tryz.t81.size 84 (.slice (some ⟨gb, 0, none⟩) 1 cy) 1 [v] w := Src.ofSlice w Tryz.underlying84 ⟨gb, 0, none⟩ 1 cy _ (by rw [t75_size]; rfl) (fun j u hu => by
    rw [Go.WideShapes.add_plain, Nat.zero_add, cell_of_row w gb j _ 81 (0, 0) hgb]
    simpa using hu) (fun u hu => by obtain rfl := List.mem_singleton.1 hu; exact hv)
  obtain ⟨g', cp, w', hr, hg', hrow', hb, hcp, hin, hnew, hkeep⟩ := append_gen2 (P := Tryz.prog) w B 84 81 Tryz.t81 _ Tryz.underlying84 info75 t75_zero rfl (some ⟨og, 0, none⟩) vs.length oc vs (by rw [t75_size]; simp) _ 1 _ hsrc hB (.inr ⟨og, rfl, hog, hle, by rw [t75_size, Nat.mul_one]; exact hrow⟩) (by rw [t75_bytes]; omega) (by omega)
  rw [t75_size, Nat.mul_one] at hrow'
  exact ⟨g', _, cp, w', hr, rfl, hg', hcp, hrow', ⟨hb.os, hb.tape, hb.output, hb.size, fun k hk hn => hkeep k hk fun e => hn (by cases e; rfl)⟩⟩
theorem at_snoc {α : Type} {l : List α} {x y : α} {k : Nat} (h : (l ++ [x])[k]? = some y) : l[k]? = some y ∨ k = l.length ∧ y = x := by
  rcases Nat.lt_or_ge k l.length with h1 | h1
  · rw [List.getElem?_append_left h1] at h; exact .inl h
  · rw [List.getElem?_append_right h1] at h
    have h2 := (List.getElem?_eq_some_iff.1 h).1
    simp only [List.length_cons, List.length_nil] at h2
    have h3 : k - l.length = 0 := by omega
    rw [h3] at h
    exact .inr ⟨by omega, (by simpa using h.symm)⟩
theorem po_drop {w : World} {B og oc N1 N2 N3 next seq log : Nat} {ds : List (Nat × Nat)} {D : List (Int × Nat)} (h : PO w B og oc N1 N2 N3 next seq log ds D [] []) (hB : B ≤ w.heap.size) (hlen : ds.length ≤ 100000) (p : Nat × Nat) (d : Int × Nat) (gb cy : Nat) (hgb : w.heap[gb]? = some (.cells #[dropOpt p] 81 (0, 0))) (hp : w.heap[p.1]? = some (.cells #[.int .i64 d.1] 3 (0, 0)) ∧ w.heap[p.2]? = some (.cells #[.int .u64 (d.2 : Nat)] 25 (0, 0))) :
    ∃ (og' n' oc' : Nat) (w' : World), (∀ ty, (Builtin.append_ #[84, 84] ty #[.slice (some ⟨og, 0, none⟩) (1 + ds.length) oc, .slice (some ⟨gb, 0, none⟩) 1 cy]).run Tryz.prog w = .ok (.slice (some ⟨og', 0, none⟩) n' oc') w') ∧ n' = 1 + (ds ++ [p]).length ∧ PO w' B og' oc' N1 N2 N3 next seq log (ds ++ [p]) (D ++ [d]) [] [] ∧ Turns (fun j => j = og) w w' := by
  have hrow := h.row
  have hle := h.le
  simp only [List.map_nil, List.append_nil, List.length_nil, Nat.add_zero] at hrow hle
  obtain ⟨og', n', oc', w', hr, hn, hg, hoc, hrow', t⟩ := app_opt w B og oc (numOpt N1 N2 N3 :: ds.map dropOpt) (dropOpt p) rfl hrow hB h.hog (by simp; omega) (by simp; omega) gb cy hgb
  have e1 : (numOpt N1 N2 N3 :: ds.map dropOpt).length = 1 + ds.length := by simp; omega
  rw [e1] at hr hn hoc
  have hal : ∀ q, q = og → Alien w q := fun q e => by subst e; obtain ⟨cs, h3⟩ := h.heap; exact alien_of h3 (by decide)
  have pc := h.pc.keep t hal
  refine ⟨og', n', oc', w', hr, by rw [hn, List.length_append]; rfl, ⟨⟨by rw [List.length_append, List.length_append, pc.ld]; rfl, rfl, pc.n1, pc.n2, pc.n3, fun k q e hq he => ?_, fun k q e hq he => (by simp at hq), fun e he => (by simp at he)⟩, ?_, by simp; omega, hg⟩, t⟩
  · rcases at_snoc hq with h1 | ⟨h1, rfl⟩
    · rcases at_snoc he with h2 | ⟨h2, rfl⟩
      · exact pc.dc k q e h1 h2
      · have := (List.getElem?_eq_some_iff.1 h1).1; have := pc.ld; omega
    · rcases at_snoc he with h2 | ⟨h2, rfl⟩
      · have := (List.getElem?_eq_some_iff.1 h2).1; have := pc.ld; omega
      · exact ⟨t.heap hp.1 fun e => (hal _ e _ _ _ hp.1).2.1 rfl, t.heap hp.2 fun e => (hal _ e _ _ _ hp.2).1 rfl⟩
  · simp only [List.map_append, List.map_cons, List.map_nil, List.append_nil]
    exact hrow'
theorem po_add {w : World} {B og oc N1 N2 N3 next seq log : Nat} {ds : List (Nat × Nat)} {D : List (Int × Nat)} {es : List (Nat × Nat)} {A : List (Int × Tf)} (h : PO w B og oc N1 N2 N3 next seq log ds D es A) (hB : B ≤ w.heap.size) (hlen : ds.length + es.length ≤ 100000) (p : Nat × Nat) (d : Int × Tf) (gb cy : Nat) (hgb : w.heap[gb]? = some (.cells #[addOpt p] 81 (0, 0))) (x : Option Addr) (c : Nat) (hp : w.heap[p.1]? = some (.cells #[.slice x 1 c] 53 (0, 0)) ∧ w.heap[p.2]? = some (.cells #[.int .i64 d.1] 3 (0, 0))) (hx : RowOk w B x c [d.2]) (hf : FT w B d.2) :
    ∃ (og' n' oc' : Nat) (w' : World), (∀ ty, (Builtin.append_ #[84, 84] ty #[.slice (some ⟨og, 0, none⟩) (1 + ds.length + es.length) oc, .slice (some ⟨gb, 0, none⟩) 1 cy]).run Tryz.prog w = .ok (.slice (some ⟨og', 0, none⟩) n' oc') w') ∧ n' = 1 + ds.length + (es ++ [p]).length ∧ PO w' B og' oc' N1 N2 N3 next seq log ds D (es ++ [p]) (A ++ [d]) ∧ Turns (fun j => j = og) w w' := by
  have hle := h.le
  obtain ⟨og', n', oc', w', hr, hn, hg, hoc, hrow', t⟩ := app_opt w B og oc (numOpt N1 N2 N3 :: (ds.map dropOpt ++ es.map addOpt)) (addOpt p) rfl h.row hB h.hog (by simp; omega) (by simp; omega) gb cy hgb
  have e1 : (numOpt N1 N2 N3 :: (ds.map dropOpt ++ es.map addOpt)).length = 1 + ds.length + es.length := by simp; omega
  rw [e1] at hr hn hoc
  have hal : ∀ q, q = og → Alien w q := fun q e => by subst e; obtain ⟨cs, h3⟩ := h.heap; exact alien_of h3 (by decide)
  have pc := h.pc.keep t hal
  refine ⟨og', n', oc', w', hr, by rw [hn, List.length_append]; rfl, ⟨⟨pc.ld, by rw [List.length_append, List.length_append, pc.la]; rfl, pc.n1, pc.n2, pc.n3, pc.dc, fun k q e hq he => ?_, fun e he => ?_⟩, ?_, by simp; omega, hg⟩, t⟩
  · rcases at_snoc hq with h1 | ⟨h1, rfl⟩
    · rcases at_snoc he with h2 | ⟨h2, rfl⟩
      · exact pc.ac k q e h1 h2
      · have := (List.getElem?_eq_some_iff.1 h1).1; have := pc.la; omega
    · rcases at_snoc he with h2 | ⟨h2, rfl⟩
      · have := (List.getElem?_eq_some_iff.1 h2).1; have := pc.la; omega
      · exact ⟨x, c, t.heap hp.1 fun e => (hal _ e _ _ _ hp.1).2.2.1 rfl, t.heap hp.2 fun e => (hal _ e _ _ _ hp.2).2.1 rfl, hx.keep t fun g e s => by obtain ⟨cs, h4⟩ := rowOk_ty hx e; exact (hal _ s _ _ _ h4).2.2.2.1 rfl⟩
  · rcases List.mem_append.1 he with h1 | h1
    · exact pc.ft e h1
    · obtain rfl := List.mem_singleton.1 h1
      exact hf.keep t fun k s _ cs z hz => (hal _ s _ _ _ hz).2.2.2.2 rfl
  · rw [List.map_append, List.map_cons, List.map_nil, ← List.append_assoc, ← List.cons_append]
    exact hrow'
end Go.Proofs.YtmmcikbedegigaaGreat

/-
  The kit's comparisons, of what is the same.
-/
namespace Go.Proofs.YtmmcikbedegigaaGreat
open Go.RowKit
set_option maxRecDepth 100000
set_option maxHeartbeats 4000000
theorem kfile_same (x y : Tf) (w : World) (h : FB w x) (h' : FB w y) (e : x.f = y.f) (l1 : x.f.least.length ≤ 1000000000) (l2 : x.f.most.length ≤ 1000000000) : Calls Tryz.prog 41 #[x.agg, y.agg] w fun e w' => e = .returned (.bool true) ∧ Turns (fun _ => False) w w' := by
  obtain ⟨la, lc, ma, mc, ⟨no, sz, ls, ms, en, sq⟩⟩ := x
  obtain ⟨la', lc', ma', mc', f'⟩ := y
  simp only at e
  subst e
  have TA := hide (((Turns.refl (fun _ => False) w).alloc (.cells #[.int .u64 (no : Nat), .int .i64 sz, .slice la ls.length lc, .slice ma ms.length mc, .int .i64 en, .int .u64 (sq : Nat)] 49)).alloc (.cells #[.int .u64 (no : Nat), .int .i64 sz, .slice la' ls.length lc', .slice ma' ms.length mc', .int .i64 en, .int .u64 (sq : Nat)] 49))
  have B1 := hide (fun (u : World) (t : Turns (fun _ => False) w u) => bytes_any la la' ls.length ls.length lc lc' ls ls u (h.quiet t).1 (h'.quiet t).1 l1)
  have B2 := hide (fun (u : World) (t : Turns (fun _ => False) w u) => bytes_any ma ma' ms.length ms.length mc mc' ms ms u (h.quiet t).2 (h'.quiet t).2 l2)
  simp only [decide_true] at B1 B2
  unfold Tf.agg
  simp only
  clear h h'
  go_enter Tryz.func41, Tryz.ntmps41
  go_wp2_with fail
  refine (B1.out _ TA.out).mono ?_
  rintro e w1 ⟨rfl, m1, rfl⟩
  go_wp2_with fail
  refine (B2.out _ (TA.out.drewN m1)).mono ?_
  rintro e w2 ⟨rfl, m2, rfl⟩
  go_wp2_with fail
  go_ret
  exact ⟨rfl, TA.out.drewN _⟩
def KeyOk (l : List Fl) : Prop := ∀ f ∈ l, f.least.length ≤ 1000000000 ∧ f.most.length ≤ 1000000000
theorem kfiles_same (a : Option Addr) (n c : Nat) (l : List Tf) (a' : Option Addr) (n' c' : Nat) (l' : List Tf) (w : World) (h : Fils w a l) (h' : Fils w a' l') (hn : n = l.length) (hn' : n' = l'.length) (e : fls l = fls l') (hmx : n ≤ 1000000) (hk : KeyOk (fls l)) :
    Calls Tryz.prog 42 #[.slice a n c, .slice a' n' c'] w fun e w' => e = .returned (.bool true) ∧ Turns (fun _ => False) w w' := by
  have hnn : n' = n := by have h1 := congrArg List.length e; simp only [fls, List.length_map] at h1; omega
  subst hnn
  have H := hide h
  have H' := hide h'
  have HL := hide hn
  have HL' := hide hn'
  have HE := hide e
  have HK := hide hk
  have hni : (n' : Int) ≤ 1000000 := by omega
  clear h h' hn hn' e hk
  go_enter Tryz.func42, Tryz.ntmps42
  go_wp2_with fail
  go_loopw [5] (fun i wr => ∃ k : Nat, i = .int .i64 (k : Nat) ∧ k ≤ n' ∧ Turns (fun _ => False) w wr) (fun i _ => n' - (intOf i).toNat)
  case atStart => exact ⟨0, rfl, Nat.zero_le _, Turns.refl _ _⟩
  case round =>
    obtain ⟨k, rfl, hk, hb⟩ := hrel
    have HB := hide hb
    clear hb
    by_cases hkn : k < n'
    · obtain ⟨x, hx⟩ : ∃ x, l[k]? = some x := ⟨_, List.getElem?_eq_getElem (by have := HL.out; omega)⟩
      obtain ⟨y, hy⟩ : ∃ y, l'[k]? = some y := ⟨_, List.getElem?_eq_getElem (by have := HL'.out; omega)⟩
      have hxy : x.f = y.f := by
        have h1 := congrArg (fun q => q[k]?) HE.out
        simp only [fls_at hx, fls_at hy] at h1
        exact Option.some.inj h1
      obtain ⟨b, off, rfl, h6, hfb⟩ := fc_of (H.out.quiet HB.out) hx
      obtain ⟨b', off', rfl, h6', hfb'⟩ := fc_of (H'.out.quiet HB.out) hy
      have i1 : (k : Int) < n' := by omega
      have i0 : (0 : Int) ≤ k := by omega
      have hkk := HK.out x.f (List.mem_map.2 ⟨x, List.mem_of_getElem? hx, rfl⟩)
      have t0 : Turns (fun _ => False) wr wr.drew := (Turns.refl _ _).drew
      have HQ := hide (kfile_same x y wr.drew (hfb.quiet t0) (hfb'.quiet t0) hxy hkk.1 hkk.2)
      clear hfb hfb' hx hy t0 hxy hkk
      obtain ⟨la, lc, ma, mc, ⟨no, sz, ls, ms, en, sq⟩⟩ := x
      obtain ⟨la', lc', ma', mc', ⟨no', sz', ls', ms', en', sq'⟩⟩ := y
      obtain ⟨c0, c1, c2, c3, c4, c5⟩ := h6
      obtain ⟨d0, d1, d2, d3, d4, d5⟩ := h6'
      unfold Tf.agg at HQ
      simp only at *
      generalize ls.length = L1 at *
      generalize ms.length = L2 at *
      generalize ls'.length = L3 at *
      generalize ms'.length = L4 at *
      go_wp2_with fail
      go_region_held (fun w' => (w'.cell? ⟨b, off + k * 6, none⟩ = some (.int .u64 (no : Nat)) ∧ w'.cell? ⟨b, off + k * 6 + 1, none⟩ = some (.int .i64 sz) ∧ w'.cell? ⟨b, off + k * 6 + 2, none⟩ = some (.slice la L1 lc) ∧ w'.cell? ⟨b, off + k * 6 + 3, none⟩ = some (.slice ma L2 mc) ∧ w'.cell? ⟨b, off + k * 6 + 4, none⟩ = some (.int .i64 en) ∧ w'.cell? ⟨b, off + k * 6 + 5, none⟩ = some (.int .u64 (sq : Nat))) ∧ w'.cell? ⟨b', off' + k * 6, none⟩ = some (.int .u64 (no' : Nat)) ∧ w'.cell? ⟨b', off' + k * 6 + 1, none⟩ = some (.int .i64 sz') ∧ w'.cell? ⟨b', off' + k * 6 + 2, none⟩ = some (.slice la' L3 lc') ∧ w'.cell? ⟨b', off' + k * 6 + 3, none⟩ = some (.slice ma' L4 mc') ∧ w'.cell? ⟨b', off' + k * 6 + 4, none⟩ = some (.int .i64 en') ∧ w'.cell? ⟨b', off' + k * 6 + 5, none⟩ = some (.int .u64 (sq' : Nat))) (first | (with_reducible exact ⟨⟨f0, f1, f2, f3, f4, f5⟩, g0, g1, g2, g3, g4, g5⟩) | (simp only [World.cell?_drew]; with_reducible exact ⟨⟨c0, c1, c2, c3, c4, c5⟩, d0, d1, d2, d3, d4, d5⟩)) (first
        | (go_at_call 41; refine HQ.out.mono ?_; rintro x w2 ⟨rfl, b2⟩; have t2 := (Turns.refl (fun _ => False) wr).drew.trans b2; have f0 := t2.cell c0 (fun x => x); have f1 := t2.cell c1 (fun x => x); have f2 := t2.cell c2 (fun x => x); have f3 := t2.cell c3 (fun x => x); have f4 := t2.cell c4 (fun x => x); have f5 := t2.cell c5 (fun x => x); have g0 := t2.cell d0 (fun x => x); have g1 := t2.cell d1 (fun x => x); have g2 := t2.cell d2 (fun x => x); have g3 := t2.cell d3 (fun x => x); have g4 := t2.cell d4 (fun x => x); have g5 := t2.cell d5 (fun x => x); have T2 := hide t2; clear t2 b2))
      clear f0 f1 f2 f3 f4 f5 g0 g1 g2 g3 g4 g5
      go_wp2_with fail
      go_roundw
      case rel => exact ⟨k + 1, by go_num, by omega, HB.out.trans T2.out⟩
      case measure => simp [intOf]; omega
    · have i1 : ¬ (k : Int) < n' := by omega
      go_wp2_with fail
      go_ret
      exact ⟨rfl, HB.out⟩
end Go.Proofs.YtmmcikbedegigaaGreat
