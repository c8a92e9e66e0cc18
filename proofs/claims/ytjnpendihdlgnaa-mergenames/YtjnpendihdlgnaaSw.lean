/-
  Two heads change their places.
-/
import Derived.Test.YtjnpendihdlgnaaHd
import Derived.Test.YtjnpendihdlgnaaTz
namespace Go.Proofs.Ytjnpendihdlgnaa
open Go.RowKit
set_option maxRecDepth 100000
set_option maxHeartbeats 4000000
def Two (u : World) (g i j xb xo xl xc xn yb yo yl yc yn : Nat) : Prop := (u.cell? ⟨g, i * 2, none⟩ = some (.slice (some ⟨xb, xo, none⟩) xl xc) ∧ u.cell? ⟨g, i * 2 + 1, none⟩ = some (.int .i64 (xn : Nat))) ∧ u.cell? ⟨g, j * 2, none⟩ = some (.slice (some ⟨yb, yo, none⟩) yl yc) ∧ u.cell? ⟨g, j * 2 + 1, none⟩ = some (.int .i64 (yn : Nat))
theorem RowC.set {w : World} {g e room : Nat} {cells : List Value} (h : RowC w g e room cells) (k : Nat) (v : Value) : RowC (w.setCell ⟨g, k, none⟩ v) g e room (cells.set k v) := by
  obtain ⟨cs, h1, h2, h3⟩ := h
  refine ⟨_, heap_setCell_same w g k cs e v h1, by simpa using h2, fun m hm => ?_⟩
  rw [List.length_set] at hm
  rw [Array.getElem?_setIfInBounds, List.getElem?_set]
  have h4 := h3 m hm
  have hms : m < cs.size := by
    rcases Nat.lt_or_ge m cs.size with l | l
    · exact l
    · rw [Array.getElem?_eq_none l, List.getElem?_eq_getElem hm] at h4; cases h4
  by_cases e : k = m
  · subst e; simp [hms, hm]
  · simp [e, h4]
theorem hdCells_set : ∀ (L : List Hd) (i : Nat) (y : Hd), i < L.length → hdCells (L.set i y) = ((hdCells L).set (i * 2) y.sv).set (i * 2 + 1) (.int .i64 (y.no : Nat))
  | x :: r, 0, y, _ => rfl
  | x :: r, i + 1, y, h => by
    have := hdCells_set r i y (by simpa using h)
    show [x.sv, .int .i64 (x.no : Nat)] ++ hdCells (r.set i y) = (([x.sv, .int .i64 (x.no : Nat)] ++ hdCells r).set ((i + 1) * 2) y.sv).set ((i + 1) * 2 + 1) _
    rw [this, List.set_append_right _ _ (by simp; omega), List.set_append_right _ _ (by simp; omega)]
    rw [show (i + 1) * 2 - [x.sv, Value.int .i64 (x.no : Nat)].length = i * 2 by simp; omega, show (i + 1) * 2 + 1 - [x.sv, Value.int .i64 (x.no : Nat)].length = i * 2 + 1 by simp; omega]
theorem HRow.set {w : World} {g c : Nat} {L : List Hd} (h : HRow w g c L) (i : Nat) (y : Hd) (hi : i < L.length) : HRow ((w.setCell ⟨g, i * 2, none⟩ y.sv).setCell ⟨g, i * 2 + 1, none⟩ (.int .i64 (y.no : Nat))) g c (L.set i y) :=
  ⟨by rw [List.length_set]; exact h.1, by rw [hdCells_set L i y hi]; exact (h.2.set _ _).set _ _⟩
theorem swap_any (g c n i j : Nat) (L : List Hd) (x y : Hd) (w : World) (hrow : HRow w g c L) (hn : n = L.length) (hi : L[i]? = some x) (hj : L[j]? = some y) :
    Calls Try.prog 87 #[.slice (some ⟨g, 0, none⟩) n c, .int .i64 (i : Nat), .int .i64 (j : Nat)] w fun e w' => (∃ v, e = .returned v) ∧ HRow w' g c (Hp.swapL L i j x y) ∧ Turns (fun k => k = g) w w' := by
  obtain ⟨x0, x1⟩ := (show HRow w.drew g c L from hrow).at hi
  obtain ⟨y0, y1⟩ := (show HRow w.drew g c L from hrow).at hj
  have hiL := (List.getElem?_eq_some_iff.1 hi).1
  have hjL := (List.getElem?_eq_some_iff.1 hj).1
  have i1 : (i : Int) < n := by omega
  have i2 : (j : Int) < n := by omega
  have i3 : (0 : Int) ≤ i := by omega
  have i4 : (0 : Int) ≤ j := by omega
  have z0 := (show HRow w.drew g c L from hrow).frozen (i * 2)
  have z1 := (show HRow w.drew g c L from hrow).frozen (i * 2 + 1)
  obtain ⟨xb, xo, xc, xR, xn⟩ := x
  obtain ⟨yb, yo, yc, yR, yn⟩ := y
  have SW := hide (show Hp.swapL L i j ⟨xb, xo, xc, xR, xn⟩ ⟨yb, yo, yc, yR, yn⟩ = (L.set i ⟨yb, yo, yc, yR, yn⟩).set j ⟨xb, xo, xc, xR, xn⟩ from rfl)
  rw [SW.out]
  simp only at x0 x1 y0 y1
  generalize hxl : xR.length = xl at *
  generalize hyl : yR.length = yl at *
  have HXL := hide hxl
  have HYL := hide hyl
  have SK := hide (show Two w.drew g i j xb xo xl xc xn yb yo yl yc yn from ⟨⟨x0, x1⟩, y0, y1⟩)
  clear hi hj hxl hyl
  go_enter Try.func87, Try.ntmps87
  go_upto_region 0 with (fail)
  refine wp_region_z_drew 13 (S := fun u => Two u g i j xb xo xl xc xn yb yo yl yc yn) (by kernel_rfl) SK.out (fun _ => ?_)
  change wpAnyZ _ _ _ _ _ _ 16 (Array.replicate 16 false) _ _
  generalize hV : w.drew = V at *
  have hR1 : HRow V g c L := by rw [← hV]; exact hrow
  have hT1 : Turns (fun k => k = g) w V := by rw [← hV]; exact (Turns.refl _ w).drew
  have R1 := hide hR1
  have T1 := hide hT1
  clear hR1 hT1 hV hrow
  refine wpAnyZ_late (i := 0) (oi := { dst := some 6, op := Op.move (Operand.tmp 0), type := 50, pos := "heads.go:81", after := #[], guard := none }) (v := .slice (some ⟨g, 0, none⟩) n c) rfl (by kernel_rfl) (by kernel_rfl) (by kernel_rfl) (by kernel_rfl) (fun _ _ _ h => h) (Or.inl ⟨by rfl, ?_⟩) (.inr SK.out) ?_
  · rintro w -
    go_simp
  simp only [Act.put, List.setIfInBounds_toArray, List.set_cons_zero, List.set_cons_succ]
  refine wpAnyZ_late (i := 1) (oi := { dst := some 7, op := Op.move (Operand.tmp 1), type := 3, pos := "heads.go:81", after := #[], guard := none }) (v := .int .i64 (i : Nat)) rfl (by kernel_rfl) (by kernel_rfl) (by kernel_rfl) (by kernel_rfl) (fun _ _ _ h => h) (Or.inl ⟨by rfl, ?_⟩) (.inr SK.out) ?_
  · rintro w -
    go_simp
  simp only [Act.put, List.setIfInBounds_toArray, List.set_cons_zero, List.set_cons_succ]
  refine wpAnyZ_late (i := 2) (oi := { dst := some 8, op := Op.move (Operand.tmp 0), type := 50, pos := "heads.go:81", after := #[{ on := 13, ground := Ground.gcOnly Departure.lateStores }], guard := none }) (v := .slice (some ⟨g, 0, none⟩) n c) rfl (by kernel_rfl) (by kernel_rfl) (by kernel_rfl) (by kernel_rfl) (fun _ _ _ h => h) (Or.inl ⟨by rfl, ?_⟩) (.inr SK.out) ?_
  · rintro w -
    go_simp
  simp only [Act.put, List.setIfInBounds_toArray, List.set_cons_zero, List.set_cons_succ]
  refine wpAnyZ_late (i := 3) (oi := { dst := some 9, op := Op.move (Operand.tmp 2), type := 3, pos := "heads.go:81", after := #[{ on := 13, ground := Ground.gcOnly Departure.lateStores }], guard := none }) (v := .int .i64 (j : Nat)) rfl (by kernel_rfl) (by kernel_rfl) (by kernel_rfl) (by kernel_rfl) (fun _ _ _ h => h) (Or.inl ⟨by rfl, ?_⟩) (.inr SK.out) ?_
  · rintro w -
    go_simp
  simp only [Act.put, List.setIfInBounds_toArray, List.set_cons_zero, List.set_cons_succ]
  refine wpAnyZ_late (i := 4) (oi := { dst := some 10, op := Op.move (Operand.tmp 0), type := 50, pos := "heads.go:81", after := #[], guard := none }) (v := .slice (some ⟨g, 0, none⟩) n c) rfl (by kernel_rfl) (by kernel_rfl) (by kernel_rfl) (by kernel_rfl) (fun _ _ _ h => h) (Or.inl ⟨by rfl, ?_⟩) (.inr SK.out) ?_
  · rintro w -
    go_simp
  simp only [Act.put, List.setIfInBounds_toArray, List.set_cons_zero, List.set_cons_succ]
  refine wpAnyZ_late (i := 5) (oi := { dst := some 11, op := Op.move (Operand.tmp 2), type := 3, pos := "heads.go:81", after := #[], guard := none }) (v := .int .i64 (j : Nat)) rfl (by kernel_rfl) (by kernel_rfl) (by kernel_rfl) (by kernel_rfl) (fun _ _ _ h => h) (Or.inl ⟨by rfl, ?_⟩) (.inr SK.out) ?_
  · rintro w -
    go_simp
  simp only [Act.put, List.setIfInBounds_toArray, List.set_cons_zero, List.set_cons_succ]
  refine wpAnyZ_late (i := 6) (oi := { dst := some 12, op := Op.indexAddr 50 (Operand.tmp 10) (Operand.tmp 11), type := 0, pos := "heads.go:81", after := #[{ on := 4, ground := Ground.data }, { on := 5, ground := Ground.data }], guard := none }) (v := .pointer (some ⟨g, j * 2, none⟩)) rfl (by kernel_rfl) (by kernel_rfl) (by kernel_rfl) (by kernel_rfl) (fun _ _ _ h => h) (Or.inl ⟨by rfl, ?_⟩) (.inr SK.out) ?_
  · rintro w -
    go_simp
  simp only [Act.put, List.setIfInBounds_toArray, List.set_cons_zero, List.set_cons_succ]
  refine wpAnyZ_take (i := 7) (oi := { dst := some 13, op := Op.load 84 (Operand.tmp 12), type := 84, pos := "heads.go:81", after := #[{ on := 6, ground := Ground.data }], guard := none }) (v := .agg #[.slice (some ⟨yb, yo, none⟩) yl yc, .int .i64 (yn : Nat)]) rfl (by kernel_rfl) (by kernel_rfl) (by kernel_rfl) (by kernel_rfl) (fun _ _ _ h => h) (Or.inl ⟨by rfl, ?_⟩) SK.out ?_
  · rintro w ⟨⟨x0, x1⟩, y0, y1⟩
    go_simp
  simp only [Act.put, List.setIfInBounds_toArray, List.set_cons_zero, List.set_cons_succ]
  refine wpAnyZ_late (i := 8) (oi := { dst := some 14, op := Op.move (Operand.tmp 0), type := 50, pos := "heads.go:81", after := #[], guard := none }) (v := .slice (some ⟨g, 0, none⟩) n c) rfl (by kernel_rfl) (by kernel_rfl) (by kernel_rfl) (by kernel_rfl) (fun _ _ _ h => h) (Or.inl ⟨by rfl, ?_⟩) (.inr SK.out) ?_
  · rintro w -
    go_simp
  simp only [Act.put, List.setIfInBounds_toArray, List.set_cons_zero, List.set_cons_succ]
  refine wpAnyZ_late (i := 9) (oi := { dst := some 15, op := Op.move (Operand.tmp 1), type := 3, pos := "heads.go:81", after := #[], guard := none }) (v := .int .i64 (i : Nat)) rfl (by kernel_rfl) (by kernel_rfl) (by kernel_rfl) (by kernel_rfl) (fun _ _ _ h => h) (Or.inl ⟨by rfl, ?_⟩) (.inr SK.out) ?_
  · rintro w -
    go_simp
  simp only [Act.put, List.setIfInBounds_toArray, List.set_cons_zero, List.set_cons_succ]
  refine wpAnyZ_late (i := 10) (oi := { dst := some 16, op := Op.indexAddr 50 (Operand.tmp 14) (Operand.tmp 15), type := 0, pos := "heads.go:81", after := #[{ on := 8, ground := Ground.data }, { on := 9, ground := Ground.data }], guard := none }) (v := .pointer (some ⟨g, i * 2, none⟩)) rfl (by kernel_rfl) (by kernel_rfl) (by kernel_rfl) (by kernel_rfl) (fun _ _ _ h => h) (Or.inl ⟨by rfl, ?_⟩) (.inr SK.out) ?_
  · rintro w -
    go_simp
  simp only [Act.put, List.setIfInBounds_toArray, List.set_cons_zero, List.set_cons_succ]
  refine wpAnyZ_take (i := 11) (oi := { dst := some 17, op := Op.load 84 (Operand.tmp 16), type := 84, pos := "heads.go:81", after := #[{ on := 10, ground := Ground.data }], guard := none }) (v := .agg #[.slice (some ⟨xb, xo, none⟩) xl xc, .int .i64 (xn : Nat)]) rfl (by kernel_rfl) (by kernel_rfl) (by kernel_rfl) (by kernel_rfl) (fun _ _ _ h => h) (Or.inl ⟨by rfl, ?_⟩) SK.out ?_
  · rintro w ⟨⟨x0, x1⟩, y0, y1⟩
    go_simp
  simp only [Act.put, List.setIfInBounds_toArray, List.set_cons_zero, List.set_cons_succ]
  refine wpAnyZ_late (i := 12) (oi := { dst := some 18, op := Op.indexAddr 50 (Operand.tmp 6) (Operand.tmp 7), type := 0, pos := "heads.go:81", after := #[{ on := 0, ground := Ground.data }, { on := 1, ground := Ground.data }, { on := 0, ground := Ground.phase }, { on := 1, ground := Ground.phase }, { on := 2, ground := Ground.textOnly Departure.lateStores }, { on := 3, ground := Ground.textOnly Departure.lateStores }, { on := 4, ground := Ground.phase }, { on := 5, ground := Ground.phase }, { on := 6, ground := Ground.phase }, { on := 7, ground := Ground.phase }, { on := 8, ground := Ground.textOnly Departure.lateStores }, { on := 9, ground := Ground.textOnly Departure.lateStores }, { on := 10, ground := Ground.textOnly Departure.lateStoresUnsure }, { on := 11, ground := Ground.phase }], guard := none }) (v := .pointer (some ⟨g, i * 2, none⟩)) rfl (by kernel_rfl) (by kernel_rfl) (by kernel_rfl) (by kernel_rfl) (fun _ _ _ h => h) (Or.inl ⟨by rfl, ?_⟩) (.inr SK.out) ?_
  · rintro w -
    go_simp
  simp only [Act.put, List.setIfInBounds_toArray, List.set_cons_zero, List.set_cons_succ]
  refine wpAnyZ_ready (rs := [13]) (by kernel_rfl) (by simp) ?_
  refine AllReadyZ.free rfl (by kernel_rfl) (fun K hK => ?_) AllReadyZ.nil
  go_simp
  refine hK.out _ _ ?_
  clear hK K
  have hR2 := R1.out.set i ⟨yb, yo, yc, yR, yn⟩ hiL
  have hT2 := T1.out.trans (turns_cell (turns_cell (Turns.refl (fun k => k = g) V) (i * 2) (.slice (some ⟨yb, yo, none⟩) yl yc)) (i * 2 + 1) (.int .i64 (yn : Nat)))
  simp only [Hd.sv, HYL.out] at hR2
  obtain ⟨q, hq⟩ : ∃ q, (L.set i ⟨yb, yo, yc, yR, yn⟩)[j]? = some q := ⟨_, List.getElem?_eq_getElem (by rw [List.length_set]; exact hjL)⟩
  obtain ⟨v0, v1⟩ := hR2.at hq
  have z2 := hR2.frozen (j * 2)
  have z3 := hR2.frozen (j * 2 + 1)
  have R2 := hide hR2
  have T2 := hide hT2
  clear hR2 hT2 hq x0 x1 y0 y1 z0 z1
  generalize (V.setCell ⟨g, i * 2, none⟩ (.slice (some ⟨yb, yo, none⟩) yl yc)).setCell ⟨g, i * 2 + 1, none⟩ (.int .i64 (yn : Nat)) = V2 at *
  refine wpAnyZ_late (i := 14) (oi := { dst := some 19, op := Op.indexAddr 50 (Operand.tmp 8) (Operand.tmp 9), type := 0, pos := "heads.go:81", after := #[{ on := 2, ground := Ground.data }, { on := 3, ground := Ground.data }, { on := 0, ground := Ground.phase }, { on := 1, ground := Ground.phase }, { on := 2, ground := Ground.phase }, { on := 3, ground := Ground.phase }, { on := 4, ground := Ground.phase }, { on := 5, ground := Ground.phase }, { on := 6, ground := Ground.phase }, { on := 7, ground := Ground.phase }, { on := 8, ground := Ground.phase }, { on := 9, ground := Ground.phase }, { on := 10, ground := Ground.phase }, { on := 11, ground := Ground.phase }, { on := 12, ground := Ground.phase }, { on := 13, ground := Ground.phase }], guard := none }) (v := .pointer (some ⟨g, j * 2, none⟩)) rfl (by kernel_rfl) (by kernel_rfl) (by kernel_rfl) (by kernel_rfl) (fun _ _ _ h => h) (Or.inl ⟨by rfl, ?_⟩) (.inl (by kernel_rfl)) ?_
  · rintro w -
    go_simp
  simp only [Act.put, List.setIfInBounds_toArray, List.set_cons_zero, List.set_cons_succ]
  refine wpAnyZ_ready (rs := [15]) (by kernel_rfl) (by simp) ?_
  refine AllReadyZ.free rfl (by kernel_rfl) (fun K hK => ?_) AllReadyZ.nil
  go_simp
  refine hK.out _ _ ?_
  clear hK K
  refine wpAnyZ_done (by kernel_rfl) ?_ _
  go_wp2_with fail
  go_end0
  have hR3 := R2.out.set j ⟨xb, xo, xc, xR, xn⟩ (by rw [List.length_set]; exact hjL)
  simp only [Hd.sv, HXL.out] at hR3
  refine ⟨⟨_, rfl⟩, hR3, T2.out.trans (turns_cell (turns_cell (Turns.refl (fun k => k = g) V2) _ _) _ _)⟩
end Go.Proofs.Ytjnpendihdlgnaa
