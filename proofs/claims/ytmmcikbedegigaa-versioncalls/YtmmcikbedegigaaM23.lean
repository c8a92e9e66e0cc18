import Derived.Test.YtmmcikbedegigaaM22
import Derived.Test.YtmmcikbedegigaaM21
import Derived.Test.YtmmcikbedegigaaM02
/-
  The document's copies of files, and where a number stands.
-/
namespace Go.Proofs.Ytmmcikbedegigaa
open Go.RowKit
set_option maxRecDepth 100000
set_option maxHeartbeats 4000000
/-- An append behind an empty row of one's own. -/
theorem append_emp (u : World) (B g0 n : Nat) (x : Value) (bs : List (BitVec 8)) (hn : n = bs.length) (h : Bytes u x bs) (hB : B ≤ u.heap.size) (hg : B ≤ g0) (hr : RowB u g0 0 []) (hl : n ≤ 1000000) :
    ∃ g c w', (∀ ty, (Builtin.append_ #[35, 35] ty #[.slice (some ⟨g0, 0, none⟩) 0 0, x]).run Try.prog u = .ok (.slice (some ⟨g, 0, none⟩) n c) w') ∧ B ≤ g ∧ RowB w' g c bs ∧ Turns (fun j => j = g0) u w' ∧ (g = g0 ∨ u.heap.size ≤ g) := by
  obtain ⟨g, c, w', h1, h2, h3, h4, h5, h6, h7, h8⟩ := append_bytes2 u B (some ⟨g0, 0, none⟩) 0 0 [] rfl x bs n hn h hB (.inr ⟨g0, rfl, hg, Nat.le_refl _, hr⟩) (by omega)
  rw [Nat.zero_add] at h1 h6 h7
  refine ⟨g, c, w', h1, h2, h3, ⟨h4.os, h4.tape, h4.output, h4.size, fun k hk hk' => h8 k hk (fun e => by cases e; exact hk' rfl)⟩, ?_⟩
  rcases Nat.eq_zero_or_pos n with h0 | h0
  · have := (h6 (by omega)).1
    cases this
    exact .inl rfl
  · exact .inr (by rw [h7 (by omega)]; exact Nat.le_refl _)
theorem rowb_lt {w : World} {g c : Nat} {bs : List (BitVec 8)} (h : RowB w g c bs) : g < w.heap.size := by
  obtain ⟨cs, h1, _⟩ := h
  exact (Array.getElem?_eq_some_iff.1 h1).1
theorem rowb_emp (w : World) : RowB (w.alloc (.cells #[] 5)) w.heap.size 0 [] := ⟨#[], heap_alloc_new _ _, by simp, fun k hk => by simp [cellsOf] at hk⟩
theorem FT.of_rows {w : World} {B : Nat} {g1 c1 g2 c2 : Nat} {f : Fl} (h1 : RowB w g1 c1 f.least) (h2 : RowB w g2 c2 f.most) (b1 : B ≤ g1) (b2 : B ≤ g2) : FT w B ⟨some ⟨g1, 0, none⟩, c1, some ⟨g2, 0, none⟩, c2, f⟩ := by
  refine ⟨⟨h1.bytes rfl, h2.bytes rfl⟩, fun ad e => ?_, fun ad e => ?_⟩
  · cases e; obtain ⟨cs, q, _⟩ := h1; exact ⟨b1, cs, _, q⟩
  · cases e; obtain ⟨cs, q, _⟩ := h2; exact ⟨b2, cs, _, q⟩
theorem rown_any (x : Tf) (w : World) (h : FB w x) (l1 : x.f.least.length ≤ 1000000) (l2 : x.f.most.length ≤ 1000000) : Calls Try.prog 39 #[x.agg] w fun e w' => ∃ y : Tf, e = .returned y.agg ∧ y.f = x.f ∧ FT w' w.heap.size y ∧ Turns (fun _ => False) w w' := by
  obtain ⟨la, lc, ma, mc, ⟨no, sz, ls, ms, en, sq⟩⟩ := x
  obtain ⟨h1, h2⟩ := h
  unfold Tf.agg
  simp only at *
  have ha : Turns (fun _ => False) w ((w.alloc (.cells #[.int .u64 (no : Nat), .int .i64 sz, .slice la ls.length lc, .slice ma ms.length mc, .int .i64 en, .int .u64 (sq : Nat)] 37)).alloc (.cells #[.int .u64 0, .int .i64 0, .slice none 0 0, .slice none 0 0, .int .i64 0, .int .u64 0] 37)) := ((Turns.refl _ w).alloc _).alloc _
  have r0 : ((w.alloc (.cells #[.int .u64 (no : Nat), .int .i64 sz, .slice la ls.length lc, .slice ma ms.length mc, .int .i64 en, .int .u64 (sq : Nat)] 37)).alloc (.cells #[.int .u64 0, .int .i64 0, .slice none 0 0, .slice none 0 0, .int .i64 0, .int .u64 0] 37)).heap[w.heap.size]? = some (.cells #[.int .u64 (no : Nat), .int .i64 sz, .slice la ls.length lc, .slice ma ms.length mc, .int .i64 en, .int .u64 (sq : Nat)] 37) := ((Turns.refl (fun _ => False) (w.alloc (.cells #[.int .u64 (no : Nat), .int .i64 sz, .slice la ls.length lc, .slice ma ms.length mc, .int .i64 en, .int .u64 (sq : Nat)] 37))).alloc (.cells #[.int .u64 0, .int .i64 0, .slice none 0 0, .slice none 0 0, .int .i64 0, .int .u64 0] 37)).heap (heap_alloc_new w (.cells #[.int .u64 (no : Nat), .int .i64 sz, .slice la ls.length lc, .slice ma ms.length mc, .int .i64 en, .int .u64 (sq : Nat)] 37)) (fun x => x)
  have r1 := heap_alloc_new (w.alloc (.cells #[.int .u64 (no : Nat), .int .i64 sz, .slice la ls.length lc, .slice ma ms.length mc, .int .i64 en, .int .u64 (sq : Nat)] 37)) (.cells #[.int .u64 0, .int .i64 0, .slice none 0 0, .slice none 0 0, .int .i64 0, .int .u64 0] 37)
  rw [show (w.alloc (.cells #[.int .u64 (no : Nat), .int .i64 sz, .slice la ls.length lc, .slice ma ms.length mc, .int .i64 en, .int .u64 (sq : Nat)] 37)).heap.size = w.heap.size + 1 by simp] at r1
  have hsz : ((w.alloc (.cells #[.int .u64 (no : Nat), .int .i64 sz, .slice la ls.length lc, .slice ma ms.length mc, .int .i64 en, .int .u64 (sq : Nat)] 37)).alloc (.cells #[.int .u64 0, .int .i64 0, .slice none 0 0, .slice none 0 0, .int .i64 0, .int .u64 0] 37)).heap.size = w.heap.size + 2 := by simp
  have HSZ := hide hsz
  have HA := hide ha
  have R0 := hide r0
  have R1 := hide r1
  have H1 := hide (h1.quiet ha)
  have H2 := hide (h2.quiet ha)
  clear ha r0 r1 h1 h2 hsz
  go_enter Try.func39, Try.ntmps39
  go_wp2_with fail
  generalize (w.alloc (.cells #[.int .u64 (no : Nat), .int .i64 sz, .slice la ls.length lc, .slice ma ms.length mc, .int .i64 en, .int .u64 (sq : Nat)] 37)).alloc (.cells #[.int .u64 0, .int .i64 0, .slice none 0 0, .slice none 0 0, .int .i64 0, .int .u64 0] 37) = w0 at *
  generalize hg : w.heap.size = g at *
  have HG := hide hg
  generalize hL1 : ls.length = L1 at *
  generalize hL2 : ms.length = L2 at *
  have HL1 := hide hL1
  have HL2 := hide hL2
  clear hL1 hL2 hg
  have tV : Turns (fun j => w0.heap.size ≤ j) w0 w0.drew := (Turns.refl _ _).drew
  have SK := hide (fun (u : World) (t : Turns (fun j => w0.heap.size ≤ j) w0 u) => show u.cell? ⟨g, 2, none⟩ = some (.slice la L1 lc) ∧ u.cell? ⟨g, 3, none⟩ = some (.slice ma L2 mc) from ⟨cell_of_row u g 2 _ 37 (0, 0) (t.heap R0.out (by have := HSZ.out; omega)), cell_of_row u g 3 _ 37 (0, 0) (t.heap R0.out (by have := HSZ.out; omega))⟩)
  have HBL := hide (fun (u : World) (t : Turns (fun j => w0.heap.size ≤ j) w0 u) => show Bytes u (.slice la L1 lc) ls from H1.out.quiet (turns_new t))
  have HBM := hide (fun (u : World) (t : Turns (fun j => w0.heap.size ≤ j) w0 u) => show Bytes u (.slice ma L2 mc) ms from H2.out.quiet (turns_new t))
  refine wp_region_x_drew [8, 9, 10, 11] (S := fun u => u.cell? ⟨g, 2, none⟩ = some (.slice la L1 lc) ∧ u.cell? ⟨g, 3, none⟩ = some (.slice ma L2 mc)) (by kernel_rfl) (SK.out _ tV) (fun _ => ?_)
  change wpAnyX _ _ _ _ _ _ 12 (Array.replicate 12 false) _ _
  refine wpAnyX_take (i := 1) (oi := { dst := some 4, op := Op.fieldAddr 37 (Operand.tmp 1) 2, type := 0, pos := "ref.go:87", after := #[], guard := none }) (v := .pointer (some ⟨g, 2, none⟩)) rfl (by kernel_rfl) (by kernel_rfl) (by kernel_rfl) (by kernel_rfl) (by kernel_rfl) (fun _ _ _ h => h) (Or.inl ⟨by rfl, ?_⟩) (SK.out _ tV) ?_
  · rintro w ⟨d2, d3⟩
    go_simp
  simp only [Act.put, List.setIfInBounds_toArray, List.set_cons_zero, List.set_cons_succ]
  refine wpAnyX_take (i := 2) (oi := { dst := some 5, op := Op.load 35 (Operand.tmp 4), type := 35, pos := "ref.go:87", after := #[{ on := 1, ground := Ground.data }], guard := none }) (v := .slice la L1 lc) rfl (by kernel_rfl) (by kernel_rfl) (by kernel_rfl) (by kernel_rfl) (by kernel_rfl) (fun _ _ _ h => h) (Or.inl ⟨by rfl, ?_⟩) (SK.out _ tV) ?_
  · rintro w ⟨d2, d3⟩
    go_simp
  simp only [Act.put, List.setIfInBounds_toArray, List.set_cons_zero, List.set_cons_succ]
  refine wpAnyX_take (i := 5) (oi := { dst := some 8, op := Op.fieldAddr 37 (Operand.tmp 1) 3, type := 0, pos := "ref.go:87", after := #[], guard := none }) (v := .pointer (some ⟨g, 3, none⟩)) rfl (by kernel_rfl) (by kernel_rfl) (by kernel_rfl) (by kernel_rfl) (by kernel_rfl) (fun _ _ _ h => h) (Or.inl ⟨by rfl, ?_⟩) (SK.out _ tV) ?_
  · rintro w ⟨d2, d3⟩
    go_simp
  simp only [Act.put, List.setIfInBounds_toArray, List.set_cons_zero, List.set_cons_succ]
  refine wpAnyX_take (i := 6) (oi := { dst := some 9, op := Op.load 35 (Operand.tmp 8), type := 35, pos := "ref.go:87", after := #[{ on := 5, ground := Ground.data }], guard := none }) (v := .slice ma L2 mc) rfl (by kernel_rfl) (by kernel_rfl) (by kernel_rfl) (by kernel_rfl) (by kernel_rfl) (fun _ _ _ h => h) (Or.inl ⟨by rfl, ?_⟩) (SK.out _ tV) ?_
  · rintro w ⟨d2, d3⟩
    go_simp
  simp only [Act.put, List.setIfInBounds_toArray, List.set_cons_zero, List.set_cons_succ]
  generalize w0.drew = U0 at *
  refine wpAnyX_ready (rs := [0, 4]) (by kernel_rfl) (by simp) ?_
  refine AllReadyX.cons rfl (fun K hK => ?_) (AllReadyX.cons rfl (fun K hK => ?_) AllReadyX.nil)
  · obtain ⟨uA, huA⟩ : ∃ uu, uu = U0.alloc (.cells #[] 5) := ⟨_, rfl⟩
    have ruA : RowB uA U0.heap.size 0 [] := by rw [huA]; exact rowb_emp _
    have tuA : Turns (fun _ => False) U0 uA := by rw [huA]; exact (Turns.refl _ _).alloc _
    have buA : w0.heap.size ≤ U0.heap.size := tV.size
    have luA : U0.heap.size < uA.heap.size := rowb_lt ruA
    have tV := tV.trans (tuA.mono (S' := fun j => w0.heap.size ≤ j) fun _ _ (x : False) => x.elim)
    go_simp
    rw [← huA]
    refine hK.out _ _ (SK.out _ tV) (fun _ => ?_)
    clear hK K huA
    refine wpAnyX_ready (rs := [3, 4]) (by kernel_rfl) (by simp) ?_
    refine AllReadyX.cons rfl (fun K hK => ?_) (AllReadyX.cons rfl (fun K hK => ?_) AllReadyX.nil)
    · obtain ⟨g1, c1, w1, hr1, hg1, hw1, ht1, hq1⟩ := append_emp uA w0.heap.size U0.heap.size L1 (.slice la L1 lc) ls HL1.out.symm (HBL.out _ tV) tV.size (by omega) ruA l1
      have tV := tV.trans (ht1.mono (S' := fun j => w0.heap.size ≤ j) fun k _ e => by omega)
      refine step_append_run rfl _ _ 35 rfl (.slice (some ⟨U0.heap.size, 0, none⟩) 0 0) (.slice la L1 lc) rfl rfl _ _ (hr1 _) 6 rfl ?_
      refine hK.out _ _ (SK.out _ tV) (fun _ => ?_)
      clear hK K
      simp only [Act.put, List.setIfInBounds_toArray, List.set_cons_zero, List.set_cons_succ]
      have lg1 := rowb_lt hw1
      refine wpAnyX_late (i := 8) (oi := { dst := some 11, op := Op.fieldAddr 37 (Operand.tmp 1) 2, type := 0, pos := "ref.go:87", after := #[{ on := 0, ground := Ground.phase }, { on := 1, ground := Ground.phase }, { on := 2, ground := Ground.phase }, { on := 3, ground := Ground.phase }, { on := 4, ground := Ground.textOnly Departure.lateStores }, { on := 5, ground := Ground.phase }, { on := 6, ground := Ground.phase }, { on := 7, ground := Ground.textOnly Departure.lateStoresUnsure }], guard := none }) (v := .pointer (some ⟨g, 2, none⟩)) rfl (by kernel_rfl) (by kernel_rfl) (by kernel_rfl) (by kernel_rfl) (fun _ _ _ h => h) (Or.inl ⟨by rfl, ?_⟩) ?_
      · rintro w -
        go_simp
      simp only [Act.put, List.setIfInBounds_toArray, List.set_cons_zero, List.set_cons_succ]
      refine wpAnyX_ready (rs := [4]) (by kernel_rfl) (by simp) ?_
      refine AllReadyX.cons rfl (fun K hK => ?_) AllReadyX.nil
      obtain ⟨uB, huB⟩ : ∃ uu, uu = w1.alloc (.cells #[] 5) := ⟨_, rfl⟩
      have ruB : RowB uB w1.heap.size 0 [] := by rw [huB]; exact rowb_emp _
      have tuB : Turns (fun _ => False) w1 uB := by rw [huB]; exact (Turns.refl _ _).alloc _
      have buB : w0.heap.size ≤ w1.heap.size := tV.size
      have luB : w1.heap.size < uB.heap.size := rowb_lt ruB
      have tV := tV.trans (tuB.mono (S' := fun j => w0.heap.size ≤ j) fun _ _ (x : False) => x.elim)
      go_simp
      rw [← huB]
      refine hK.out _ _ (SK.out _ tV) (fun _ => ?_)
      clear hK K huB
      have hw1 := hw1.turns tuB (fun x => x)
      have hne : g1 ≠ w1.heap.size := by omega
      refine wpAnyX_ready (rs := [7]) (by kernel_rfl) (by simp) ?_
      refine AllReadyX.cons rfl (fun K hK => ?_) AllReadyX.nil
      obtain ⟨g2, c2, w2, hr2, hg2, hw2, ht2, hq2⟩ := append_emp uB w0.heap.size w1.heap.size L2 (.slice ma L2 mc) ms HL2.out.symm (HBM.out _ tV) tV.size (by omega) ruB l2
      have tV := tV.trans (ht2.mono (S' := fun j => w0.heap.size ≤ j) fun k _ e => by omega)
      refine step_append_run rfl _ _ 35 rfl (.slice (some ⟨w1.heap.size, 0, none⟩) 0 0) (.slice ma L2 mc) rfl rfl _ _ (hr2 _) 10 rfl ?_
      refine hK.out _ _ (SK.out _ tV) (fun _ => ?_)
      clear hK K
      simp only [Act.put, List.setIfInBounds_toArray, List.set_cons_zero, List.set_cons_succ]
      have lg2 := rowb_lt hw2
      have hw1 := hw1.turns ht2 (by omega)
      have TV := hide tV
      have W1 := hide hw1
      have W2 := hide hw2
      have HQ := hide (show w0.heap.size ≤ g1 ∧ w0.heap.size ≤ g2 from ⟨hg1, hg2⟩)
      have hbx := tV.heap R0.out (by have := HSZ.out; omega)
      have hby := tV.heap R1.out (by have := HSZ.out; omega)
      have HBY := hide hby
      have K1 := hide ((Tick.refl hbx).set 2 (.slice (some ⟨g1, 0, none⟩) L1 c1))
      have q2 := cell_of_row _ g 2 _ 37 (0, 0) hbx
      have z2 := frozen_of_row _ g 2 _ 37 hbx
      clear hr1 hr2 ht1 ht2 hq1 hq2 hw1 hw2 hg1 hg2 tV hbx hby
      refine wpAnyX_ready (rs := [9]) (by kernel_rfl) (by simp) ?_
      refine AllReadyX.free rfl (by kernel_rfl) (fun K hK => ?_) AllReadyX.nil
      go_simp
      refine hK.out _ _ ?_
      clear hK K q2 z2
      have K2 := hide (K1.out.set 3 (.slice (some ⟨g2, 0, none⟩) L2 c2))
      have q3 := K1.out.cell 3
      have z3 := K1.out.frozen 3
      simp at q3
      generalize w2.setCell ⟨g, 2, none⟩ (.slice (some ⟨g1, 0, none⟩) L1 c1) = w3 at *
      refine wpAnyX_late (i := 10) (oi := { dst := some 12, op := Op.fieldAddr 37 (Operand.tmp 1) 3, type := 0, pos := "ref.go:87", after := #[{ on := 0, ground := Ground.phase }, { on := 1, ground := Ground.phase }, { on := 2, ground := Ground.phase }, { on := 3, ground := Ground.phase }, { on := 4, ground := Ground.phase }, { on := 5, ground := Ground.phase }, { on := 6, ground := Ground.phase }, { on := 7, ground := Ground.phase }, { on := 8, ground := Ground.phase }, { on := 9, ground := Ground.phase }], guard := none }) (v := .pointer (some ⟨g, 3, none⟩)) rfl (by kernel_rfl) (by kernel_rfl) (by kernel_rfl) (by kernel_rfl) (fun _ _ _ h => h) (Or.inl ⟨by rfl, ?_⟩) ?_
      · rintro w -
        go_simp
      simp only [Act.put, List.setIfInBounds_toArray, List.set_cons_zero, List.set_cons_succ]
      refine wpAnyX_ready (rs := [11]) (by kernel_rfl) (by simp) ?_
      refine AllReadyX.free rfl (by kernel_rfl) (fun K hK => ?_) AllReadyX.nil
      go_simp
      refine hK.out _ _ ?_
      clear hK K q3 z3 K1
      generalize w3.setCell ⟨g, 3, none⟩ (.slice (some ⟨g2, 0, none⟩) L2 c2) = w4 at *
      refine wpAnyX_done (by kernel_rfl) ?_ _
      have rG := K2.out.1
      have rH := (K2.out.2.2.1 (g + 1) (by omega)).trans HBY.out
      have c0' : w4.cell? ⟨g, 0, none⟩ = some (.int .u64 (no : Nat)) := cell_of_row w4 g 0 _ 37 (0, 0) rG
      have c1' : w4.cell? ⟨g, 1, none⟩ = some (.int .i64 sz) := cell_of_row w4 g 1 _ 37 (0, 0) rG
      have c2' : w4.cell? ⟨g, 2, none⟩ = some (.slice (some ⟨g1, 0, none⟩) L1 c1) := cell_of_row w4 g 2 _ 37 (0, 0) rG
      have c3' : w4.cell? ⟨g, 3, none⟩ = some (.slice (some ⟨g2, 0, none⟩) L2 c2) := cell_of_row w4 g 3 _ 37 (0, 0) rG
      have c4' : w4.cell? ⟨g, 4, none⟩ = some (.int .i64 en) := cell_of_row w4 g 4 _ 37 (0, 0) rG
      have c5' : w4.cell? ⟨g, 5, none⟩ = some (.int .u64 (sq : Nat)) := cell_of_row w4 g 5 _ 37 (0, 0) rG
      have x0 := cell_of_row w4 (g + 1) 0 _ 37 (0, 0) rH
      have y0 := frozen_of_row w4 (g + 1) 0 _ 37 rH
      have x1 := cell_of_row w4 (g + 1) 1 _ 37 (0, 0) rH
      have y1 := frozen_of_row w4 (g + 1) 1 _ 37 rH
      have x2 := cell_of_row w4 (g + 1) 2 _ 37 (0, 0) rH
      have y2 := frozen_of_row w4 (g + 1) 2 _ 37 rH
      have x3 := cell_of_row w4 (g + 1) 3 _ 37 (0, 0) rH
      have y3 := frozen_of_row w4 (g + 1) 3 _ 37 rH
      have x4 := cell_of_row w4 (g + 1) 4 _ 37 (0, 0) rH
      have y4 := frozen_of_row w4 (g + 1) 4 _ 37 rH
      have x5 := cell_of_row w4 (g + 1) 5 _ 37 (0, 0) rH
      have y5 := frozen_of_row w4 (g + 1) 5 _ 37 rH
      clear rG rH
      go_wp2_with fail
      have r3 := (K2.out.2.2.1 (g + 1) (by omega)).trans HBY.out
      have k3 := (((((((Tick.refl r3).set 0 (.int .u64 (no : Nat))).set 1 (.int .i64 sz)).set 2 (.slice (some ⟨g1, 0, none⟩) L1 c1)).set 3 (.slice (some ⟨g2, 0, none⟩) L2 c2)).set 4 (.int .i64 en)).set 5 (.int .u64 (sq : Nat)))
      have u2 := Turns.of_tick K2.out
      have u3 := Turns.of_tick k3
      have hw0 := HSZ.out
      have hq0 := HQ.out
      have hgg := HG.out
      have hlast : Turns (fun _ => False) w _ := ((HA.out.trans (turns_new TV.out)).andThen u2 (fun j hj e => by omega)).andThen u3 (fun j hj e => by omega)
      refine bodyPost_ret (v := .agg #[.int .u64 (no : Nat), .int .i64 sz, .slice (some ⟨g1, 0, none⟩) L1 c1, .slice (some ⟨g2, 0, none⟩) L2 c2, .int .i64 en, .int .u64 (sq : Nat)]) ?_ rfl ?_
      · exact results_cell_row Try.results39 _ _ _ _ _ _ _ rfl k3.1 Try.underlying37 rfl sz37
      · exact ⟨⟨some ⟨g1, 0, none⟩, c1, some ⟨g2, 0, none⟩, c2, ⟨no, sz, ls, ms, en, sq⟩⟩, by simp only [HL1.out, HL2.out], rfl, FT.of_rows ((W1.out.turns u2 (by omega)).turns u3 (by omega)) ((W2.out.turns u2 (by omega)).turns u3 (by omega)) (by omega) (by omega), hlast⟩
    · obtain ⟨uB, huB⟩ : ∃ uu, uu = uA.alloc (.cells #[] 5) := ⟨_, rfl⟩
      have ruB : RowB uB uA.heap.size 0 [] := by rw [huB]; exact rowb_emp _
      have tuB : Turns (fun _ => False) uA uB := by rw [huB]; exact (Turns.refl _ _).alloc _
      have buB : w0.heap.size ≤ uA.heap.size := tV.size
      have luB : uA.heap.size < uB.heap.size := rowb_lt ruB
      have tV := tV.trans (tuB.mono (S' := fun j => w0.heap.size ≤ j) fun _ _ (x : False) => x.elim)
      go_simp
      rw [← huB]
      refine hK.out _ _ (SK.out _ tV) (fun _ => ?_)
      clear hK K huB
      have ruA := ruA.turns tuB (fun x => x)
      refine wpAnyX_ready (rs := [3]) (by kernel_rfl) (by simp) ?_
      refine AllReadyX.cons rfl (fun K hK => ?_) AllReadyX.nil
      obtain ⟨g1, c1, w1, hr1, hg1, hw1, ht1, hq1⟩ := append_emp uB w0.heap.size U0.heap.size L1 (.slice la L1 lc) ls HL1.out.symm (HBL.out _ tV) tV.size (by omega) ruA l1
      have tV := tV.trans (ht1.mono (S' := fun j => w0.heap.size ≤ j) fun k _ e => by omega)
      refine step_append_run rfl _ _ 35 rfl (.slice (some ⟨U0.heap.size, 0, none⟩) 0 0) (.slice la L1 lc) rfl rfl _ _ (hr1 _) 6 rfl ?_
      refine hK.out _ _ (SK.out _ tV) (fun _ => ?_)
      clear hK K
      simp only [Act.put, List.setIfInBounds_toArray, List.set_cons_zero, List.set_cons_succ]
      have lg1 := rowb_lt hw1
      refine wpAnyX_late (i := 8) (oi := { dst := some 11, op := Op.fieldAddr 37 (Operand.tmp 1) 2, type := 0, pos := "ref.go:87", after := #[{ on := 0, ground := Ground.phase }, { on := 1, ground := Ground.phase }, { on := 2, ground := Ground.phase }, { on := 3, ground := Ground.phase }, { on := 4, ground := Ground.textOnly Departure.lateStores }, { on := 5, ground := Ground.phase }, { on := 6, ground := Ground.phase }, { on := 7, ground := Ground.textOnly Departure.lateStoresUnsure }], guard := none }) (v := .pointer (some ⟨g, 2, none⟩)) rfl (by kernel_rfl) (by kernel_rfl) (by kernel_rfl) (by kernel_rfl) (fun _ _ _ h => h) (Or.inl ⟨by rfl, ?_⟩) ?_
      · rintro w -
        go_simp
      simp only [Act.put, List.setIfInBounds_toArray, List.set_cons_zero, List.set_cons_succ]
      have ruB := ruB.turns ht1 (by omega)
      refine wpAnyX_ready (rs := [7]) (by kernel_rfl) (by simp) ?_
      refine AllReadyX.cons rfl (fun K hK => ?_) AllReadyX.nil
      obtain ⟨g2, c2, w2, hr2, hg2, hw2, ht2, hq2⟩ := append_emp w1 w0.heap.size uA.heap.size L2 (.slice ma L2 mc) ms HL2.out.symm (HBM.out _ tV) tV.size (by omega) ruB l2
      have tV := tV.trans (ht2.mono (S' := fun j => w0.heap.size ≤ j) fun k _ e => by omega)
      refine step_append_run rfl _ _ 35 rfl (.slice (some ⟨uA.heap.size, 0, none⟩) 0 0) (.slice ma L2 mc) rfl rfl _ _ (hr2 _) 10 rfl ?_
      refine hK.out _ _ (SK.out _ tV) (fun _ => ?_)
      clear hK K
      simp only [Act.put, List.setIfInBounds_toArray, List.set_cons_zero, List.set_cons_succ]
      have lg2 := rowb_lt hw2
      have hw1 := hw1.turns ht2 (by omega)
      have TV := hide tV
      have W1 := hide hw1
      have W2 := hide hw2
      have HQ := hide (show w0.heap.size ≤ g1 ∧ w0.heap.size ≤ g2 from ⟨hg1, hg2⟩)
      have hbx := tV.heap R0.out (by have := HSZ.out; omega)
      have hby := tV.heap R1.out (by have := HSZ.out; omega)
      have HBY := hide hby
      have K1 := hide ((Tick.refl hbx).set 2 (.slice (some ⟨g1, 0, none⟩) L1 c1))
      have q2 := cell_of_row _ g 2 _ 37 (0, 0) hbx
      have z2 := frozen_of_row _ g 2 _ 37 hbx
      clear hr1 hr2 ht1 ht2 hq1 hq2 hw1 hw2 hg1 hg2 tV hbx hby
      refine wpAnyX_ready (rs := [9]) (by kernel_rfl) (by simp) ?_
      refine AllReadyX.free rfl (by kernel_rfl) (fun K hK => ?_) AllReadyX.nil
      go_simp
      refine hK.out _ _ ?_
      clear hK K q2 z2
      have K2 := hide (K1.out.set 3 (.slice (some ⟨g2, 0, none⟩) L2 c2))
      have q3 := K1.out.cell 3
      have z3 := K1.out.frozen 3
      simp at q3
      generalize w2.setCell ⟨g, 2, none⟩ (.slice (some ⟨g1, 0, none⟩) L1 c1) = w3 at *
      refine wpAnyX_late (i := 10) (oi := { dst := some 12, op := Op.fieldAddr 37 (Operand.tmp 1) 3, type := 0, pos := "ref.go:87", after := #[{ on := 0, ground := Ground.phase }, { on := 1, ground := Ground.phase }, { on := 2, ground := Ground.phase }, { on := 3, ground := Ground.phase }, { on := 4, ground := Ground.phase }, { on := 5, ground := Ground.phase }, { on := 6, ground := Ground.phase }, { on := 7, ground := Ground.phase }, { on := 8, ground := Ground.phase }, { on := 9, ground := Ground.phase }], guard := none }) (v := .pointer (some ⟨g, 3, none⟩)) rfl (by kernel_rfl) (by kernel_rfl) (by kernel_rfl) (by kernel_rfl) (fun _ _ _ h => h) (Or.inl ⟨by rfl, ?_⟩) ?_
      · rintro w -
        go_simp
      simp only [Act.put, List.setIfInBounds_toArray, List.set_cons_zero, List.set_cons_succ]
      refine wpAnyX_ready (rs := [11]) (by kernel_rfl) (by simp) ?_
      refine AllReadyX.free rfl (by kernel_rfl) (fun K hK => ?_) AllReadyX.nil
      go_simp
      refine hK.out _ _ ?_
      clear hK K q3 z3 K1
      generalize w3.setCell ⟨g, 3, none⟩ (.slice (some ⟨g2, 0, none⟩) L2 c2) = w4 at *
      refine wpAnyX_done (by kernel_rfl) ?_ _
      have rG := K2.out.1
      have rH := (K2.out.2.2.1 (g + 1) (by omega)).trans HBY.out
      have c0' : w4.cell? ⟨g, 0, none⟩ = some (.int .u64 (no : Nat)) := cell_of_row w4 g 0 _ 37 (0, 0) rG
      have c1' : w4.cell? ⟨g, 1, none⟩ = some (.int .i64 sz) := cell_of_row w4 g 1 _ 37 (0, 0) rG
      have c2' : w4.cell? ⟨g, 2, none⟩ = some (.slice (some ⟨g1, 0, none⟩) L1 c1) := cell_of_row w4 g 2 _ 37 (0, 0) rG
      have c3' : w4.cell? ⟨g, 3, none⟩ = some (.slice (some ⟨g2, 0, none⟩) L2 c2) := cell_of_row w4 g 3 _ 37 (0, 0) rG
      have c4' : w4.cell? ⟨g, 4, none⟩ = some (.int .i64 en) := cell_of_row w4 g 4 _ 37 (0, 0) rG
      have c5' : w4.cell? ⟨g, 5, none⟩ = some (.int .u64 (sq : Nat)) := cell_of_row w4 g 5 _ 37 (0, 0) rG
      have x0 := cell_of_row w4 (g + 1) 0 _ 37 (0, 0) rH
      have y0 := frozen_of_row w4 (g + 1) 0 _ 37 rH
      have x1 := cell_of_row w4 (g + 1) 1 _ 37 (0, 0) rH
      have y1 := frozen_of_row w4 (g + 1) 1 _ 37 rH
      have x2 := cell_of_row w4 (g + 1) 2 _ 37 (0, 0) rH
      have y2 := frozen_of_row w4 (g + 1) 2 _ 37 rH
      have x3 := cell_of_row w4 (g + 1) 3 _ 37 (0, 0) rH
      have y3 := frozen_of_row w4 (g + 1) 3 _ 37 rH
      have x4 := cell_of_row w4 (g + 1) 4 _ 37 (0, 0) rH
      have y4 := frozen_of_row w4 (g + 1) 4 _ 37 rH
      have x5 := cell_of_row w4 (g + 1) 5 _ 37 (0, 0) rH
      have y5 := frozen_of_row w4 (g + 1) 5 _ 37 rH
      clear rG rH
      go_wp2_with fail
      have r3 := (K2.out.2.2.1 (g + 1) (by omega)).trans HBY.out
      have k3 := (((((((Tick.refl r3).set 0 (.int .u64 (no : Nat))).set 1 (.int .i64 sz)).set 2 (.slice (some ⟨g1, 0, none⟩) L1 c1)).set 3 (.slice (some ⟨g2, 0, none⟩) L2 c2)).set 4 (.int .i64 en)).set 5 (.int .u64 (sq : Nat)))
      have u2 := Turns.of_tick K2.out
      have u3 := Turns.of_tick k3
      have hw0 := HSZ.out
      have hq0 := HQ.out
      have hgg := HG.out
      have hlast : Turns (fun _ => False) w _ := ((HA.out.trans (turns_new TV.out)).andThen u2 (fun j hj e => by omega)).andThen u3 (fun j hj e => by omega)
      refine bodyPost_ret (v := .agg #[.int .u64 (no : Nat), .int .i64 sz, .slice (some ⟨g1, 0, none⟩) L1 c1, .slice (some ⟨g2, 0, none⟩) L2 c2, .int .i64 en, .int .u64 (sq : Nat)]) ?_ rfl ?_
      · exact results_cell_row Try.results39 _ _ _ _ _ _ _ rfl k3.1 Try.underlying37 rfl sz37
      · exact ⟨⟨some ⟨g1, 0, none⟩, c1, some ⟨g2, 0, none⟩, c2, ⟨no, sz, ls, ms, en, sq⟩⟩, by simp only [HL1.out, HL2.out], rfl, FT.of_rows ((W1.out.turns u2 (by omega)).turns u3 (by omega)) ((W2.out.turns u2 (by omega)).turns u3 (by omega)) (by omega) (by omega), hlast⟩
  · obtain ⟨uB, huB⟩ : ∃ uu, uu = U0.alloc (.cells #[] 5) := ⟨_, rfl⟩
    have ruB : RowB uB U0.heap.size 0 [] := by rw [huB]; exact rowb_emp _
    have tuB : Turns (fun _ => False) U0 uB := by rw [huB]; exact (Turns.refl _ _).alloc _
    have buB : w0.heap.size ≤ U0.heap.size := tV.size
    have luB : U0.heap.size < uB.heap.size := rowb_lt ruB
    have tV := tV.trans (tuB.mono (S' := fun j => w0.heap.size ≤ j) fun _ _ (x : False) => x.elim)
    go_simp
    rw [← huB]
    refine hK.out _ _ (SK.out _ tV) (fun _ => ?_)
    clear hK K huB
    refine wpAnyX_ready (rs := [0]) (by kernel_rfl) (by simp) ?_
    refine AllReadyX.cons rfl (fun K hK => ?_) AllReadyX.nil
    obtain ⟨uA, huA⟩ : ∃ uu, uu = uB.alloc (.cells #[] 5) := ⟨_, rfl⟩
    have ruA : RowB uA uB.heap.size 0 [] := by rw [huA]; exact rowb_emp _
    have tuA : Turns (fun _ => False) uB uA := by rw [huA]; exact (Turns.refl _ _).alloc _
    have buA : w0.heap.size ≤ uB.heap.size := tV.size
    have luA : uB.heap.size < uA.heap.size := rowb_lt ruA
    have tV := tV.trans (tuA.mono (S' := fun j => w0.heap.size ≤ j) fun _ _ (x : False) => x.elim)
    go_simp
    rw [← huA]
    refine hK.out _ _ (SK.out _ tV) (fun _ => ?_)
    clear hK K huA
    have ruB := ruB.turns tuA (fun x => x)
    refine wpAnyX_ready (rs := [3]) (by kernel_rfl) (by simp) ?_
    refine AllReadyX.cons rfl (fun K hK => ?_) AllReadyX.nil
    obtain ⟨g1, c1, w1, hr1, hg1, hw1, ht1, hq1⟩ := append_emp uA w0.heap.size uB.heap.size L1 (.slice la L1 lc) ls HL1.out.symm (HBL.out _ tV) tV.size (by omega) ruA l1
    have tV := tV.trans (ht1.mono (S' := fun j => w0.heap.size ≤ j) fun k _ e => by omega)
    refine step_append_run rfl _ _ 35 rfl (.slice (some ⟨uB.heap.size, 0, none⟩) 0 0) (.slice la L1 lc) rfl rfl _ _ (hr1 _) 6 rfl ?_
    refine hK.out _ _ (SK.out _ tV) (fun _ => ?_)
    clear hK K
    simp only [Act.put, List.setIfInBounds_toArray, List.set_cons_zero, List.set_cons_succ]
    have lg1 := rowb_lt hw1
    refine wpAnyX_late (i := 8) (oi := { dst := some 11, op := Op.fieldAddr 37 (Operand.tmp 1) 2, type := 0, pos := "ref.go:87", after := #[{ on := 0, ground := Ground.phase }, { on := 1, ground := Ground.phase }, { on := 2, ground := Ground.phase }, { on := 3, ground := Ground.phase }, { on := 4, ground := Ground.textOnly Departure.lateStores }, { on := 5, ground := Ground.phase }, { on := 6, ground := Ground.phase }, { on := 7, ground := Ground.textOnly Departure.lateStoresUnsure }], guard := none }) (v := .pointer (some ⟨g, 2, none⟩)) rfl (by kernel_rfl) (by kernel_rfl) (by kernel_rfl) (by kernel_rfl) (fun _ _ _ h => h) (Or.inl ⟨by rfl, ?_⟩) ?_
    · rintro w -
      go_simp
    simp only [Act.put, List.setIfInBounds_toArray, List.set_cons_zero, List.set_cons_succ]
    have ruB := ruB.turns ht1 (by omega)
    refine wpAnyX_ready (rs := [7]) (by kernel_rfl) (by simp) ?_
    refine AllReadyX.cons rfl (fun K hK => ?_) AllReadyX.nil
    obtain ⟨g2, c2, w2, hr2, hg2, hw2, ht2, hq2⟩ := append_emp w1 w0.heap.size U0.heap.size L2 (.slice ma L2 mc) ms HL2.out.symm (HBM.out _ tV) tV.size (by omega) ruB l2
    have tV := tV.trans (ht2.mono (S' := fun j => w0.heap.size ≤ j) fun k _ e => by omega)
    refine step_append_run rfl _ _ 35 rfl (.slice (some ⟨U0.heap.size, 0, none⟩) 0 0) (.slice ma L2 mc) rfl rfl _ _ (hr2 _) 10 rfl ?_
    refine hK.out _ _ (SK.out _ tV) (fun _ => ?_)
    clear hK K
    simp only [Act.put, List.setIfInBounds_toArray, List.set_cons_zero, List.set_cons_succ]
    have lg2 := rowb_lt hw2
    have hw1 := hw1.turns ht2 (by omega)
    have TV := hide tV
    have W1 := hide hw1
    have W2 := hide hw2
    have HQ := hide (show w0.heap.size ≤ g1 ∧ w0.heap.size ≤ g2 from ⟨hg1, hg2⟩)
    have hbx := tV.heap R0.out (by have := HSZ.out; omega)
    have hby := tV.heap R1.out (by have := HSZ.out; omega)
    have HBY := hide hby
    have K1 := hide ((Tick.refl hbx).set 2 (.slice (some ⟨g1, 0, none⟩) L1 c1))
    have q2 := cell_of_row _ g 2 _ 37 (0, 0) hbx
    have z2 := frozen_of_row _ g 2 _ 37 hbx
    clear hr1 hr2 ht1 ht2 hq1 hq2 hw1 hw2 hg1 hg2 tV hbx hby
    refine wpAnyX_ready (rs := [9]) (by kernel_rfl) (by simp) ?_
    refine AllReadyX.free rfl (by kernel_rfl) (fun K hK => ?_) AllReadyX.nil
    go_simp
    refine hK.out _ _ ?_
    clear hK K q2 z2
    have K2 := hide (K1.out.set 3 (.slice (some ⟨g2, 0, none⟩) L2 c2))
    have q3 := K1.out.cell 3
    have z3 := K1.out.frozen 3
    simp at q3
    generalize w2.setCell ⟨g, 2, none⟩ (.slice (some ⟨g1, 0, none⟩) L1 c1) = w3 at *
    refine wpAnyX_late (i := 10) (oi := { dst := some 12, op := Op.fieldAddr 37 (Operand.tmp 1) 3, type := 0, pos := "ref.go:87", after := #[{ on := 0, ground := Ground.phase }, { on := 1, ground := Ground.phase }, { on := 2, ground := Ground.phase }, { on := 3, ground := Ground.phase }, { on := 4, ground := Ground.phase }, { on := 5, ground := Ground.phase }, { on := 6, ground := Ground.phase }, { on := 7, ground := Ground.phase }, { on := 8, ground := Ground.phase }, { on := 9, ground := Ground.phase }], guard := none }) (v := .pointer (some ⟨g, 3, none⟩)) rfl (by kernel_rfl) (by kernel_rfl) (by kernel_rfl) (by kernel_rfl) (fun _ _ _ h => h) (Or.inl ⟨by rfl, ?_⟩) ?_
    · rintro w -
      go_simp
    simp only [Act.put, List.setIfInBounds_toArray, List.set_cons_zero, List.set_cons_succ]
    refine wpAnyX_ready (rs := [11]) (by kernel_rfl) (by simp) ?_
    refine AllReadyX.free rfl (by kernel_rfl) (fun K hK => ?_) AllReadyX.nil
    go_simp
    refine hK.out _ _ ?_
    clear hK K q3 z3 K1
    generalize w3.setCell ⟨g, 3, none⟩ (.slice (some ⟨g2, 0, none⟩) L2 c2) = w4 at *
    refine wpAnyX_done (by kernel_rfl) ?_ _
    have rG := K2.out.1
    have rH := (K2.out.2.2.1 (g + 1) (by omega)).trans HBY.out
    have c0' : w4.cell? ⟨g, 0, none⟩ = some (.int .u64 (no : Nat)) := cell_of_row w4 g 0 _ 37 (0, 0) rG
    have c1' : w4.cell? ⟨g, 1, none⟩ = some (.int .i64 sz) := cell_of_row w4 g 1 _ 37 (0, 0) rG
    have c2' : w4.cell? ⟨g, 2, none⟩ = some (.slice (some ⟨g1, 0, none⟩) L1 c1) := cell_of_row w4 g 2 _ 37 (0, 0) rG
    have c3' : w4.cell? ⟨g, 3, none⟩ = some (.slice (some ⟨g2, 0, none⟩) L2 c2) := cell_of_row w4 g 3 _ 37 (0, 0) rG
    have c4' : w4.cell? ⟨g, 4, none⟩ = some (.int .i64 en) := cell_of_row w4 g 4 _ 37 (0, 0) rG
    have c5' : w4.cell? ⟨g, 5, none⟩ = some (.int .u64 (sq : Nat)) := cell_of_row w4 g 5 _ 37 (0, 0) rG
    have x0 := cell_of_row w4 (g + 1) 0 _ 37 (0, 0) rH
    have y0 := frozen_of_row w4 (g + 1) 0 _ 37 rH
    have x1 := cell_of_row w4 (g + 1) 1 _ 37 (0, 0) rH
    have y1 := frozen_of_row w4 (g + 1) 1 _ 37 rH
    have x2 := cell_of_row w4 (g + 1) 2 _ 37 (0, 0) rH
    have y2 := frozen_of_row w4 (g + 1) 2 _ 37 rH
    have x3 := cell_of_row w4 (g + 1) 3 _ 37 (0, 0) rH
    have y3 := frozen_of_row w4 (g + 1) 3 _ 37 rH
    have x4 := cell_of_row w4 (g + 1) 4 _ 37 (0, 0) rH
    have y4 := frozen_of_row w4 (g + 1) 4 _ 37 rH
    have x5 := cell_of_row w4 (g + 1) 5 _ 37 (0, 0) rH
    have y5 := frozen_of_row w4 (g + 1) 5 _ 37 rH
    clear rG rH
    go_wp2_with fail
    have r3 := (K2.out.2.2.1 (g + 1) (by omega)).trans HBY.out
    have k3 := (((((((Tick.refl r3).set 0 (.int .u64 (no : Nat))).set 1 (.int .i64 sz)).set 2 (.slice (some ⟨g1, 0, none⟩) L1 c1)).set 3 (.slice (some ⟨g2, 0, none⟩) L2 c2)).set 4 (.int .i64 en)).set 5 (.int .u64 (sq : Nat)))
    have u2 := Turns.of_tick K2.out
    have u3 := Turns.of_tick k3
    have hw0 := HSZ.out
    have hq0 := HQ.out
    have hgg := HG.out
    have hlast : Turns (fun _ => False) w _ := ((HA.out.trans (turns_new TV.out)).andThen u2 (fun j hj e => by omega)).andThen u3 (fun j hj e => by omega)
    refine bodyPost_ret (v := .agg #[.int .u64 (no : Nat), .int .i64 sz, .slice (some ⟨g1, 0, none⟩) L1 c1, .slice (some ⟨g2, 0, none⟩) L2 c2, .int .i64 en, .int .u64 (sq : Nat)]) ?_ rfl ?_
    · exact results_cell_row Try.results39 _ _ _ _ _ _ _ rfl k3.1 Try.underlying37 rfl sz37
    · exact ⟨⟨some ⟨g1, 0, none⟩, c1, some ⟨g2, 0, none⟩, c2, ⟨no, sz, ls, ms, en, sq⟩⟩, by simp only [HL1.out, HL2.out], rfl, FT.of_rows ((W1.out.turns u2 (by omega)).turns u3 (by omega)) ((W2.out.turns u2 (by omega)).turns u3 (by omega)) (by omega) (by omega), hlast⟩
theorem rplace_any (a : Option Addr) (n c no : Nat) (l : List Tf) (w : World) (h : Fils w a l) (hn : n = l.length) (hmx : n ≤ 1000000) :
    Calls Try.prog 36 #[.slice a n c, .int .u64 (no : Nat)] w fun e w' => ((∃ (k : Nat) (y : Tf), e = .returned (.int .i64 (k : Nat)) ∧ l[k]? = some y ∧ y.f.no = no) ∨ e = .returned (.int .i64 (-1)) ∧ ∀ y ∈ l, y.f.no ≠ no) ∧ w' = w := by
  have H := hide h
  have HL := hide hn
  have hni : (n : Int) ≤ 1000000 := by omega
  clear h hn
  go_enter Try.func36, Try.ntmps36
  go_wp2_with fail
  go_loopw [5] (fun i wr => ∃ k : Nat, i = .int .i64 (k : Nat) ∧ k ≤ n ∧ (∀ (t : Nat) (y : Tf), t < k → l[t]? = some y → y.f.no ≠ no) ∧ wr = w) (fun i _ => n - (intOf i).toNat)
  case atStart => exact ⟨0, rfl, Nat.zero_le _, fun t y ht => absurd ht (Nat.not_lt_zero _), rfl⟩
  case round =>
    obtain ⟨k, rfl, hk, hno, rfl⟩ := hrel
    have HN := hide hno
    clear hno
    by_cases hkn : k < n
    · obtain ⟨x, hx⟩ : ∃ x, l[k]? = some x := ⟨_, List.getElem?_eq_getElem (by have := HL.out; omega)⟩
      obtain ⟨b, off, rfl, h6, _⟩ := fc_of H.out hx
      have i1 : (k : Int) < (n : Int) := by omega
      have i0 : (0 : Int) ≤ (k : Int) := by omega
      have HX := hide hx
      have c0 := h6.c0
      generalize hxn : x.f.no = xn at *
      have HXN := hide hxn
      clear hx h6 hxn
      by_cases hE : xn = no
      · subst hE
        go_wp2_with fail
        go_ret
        exact ⟨.inl ⟨k, x, rfl, HX.out, HXN.out⟩, rfl⟩
      · have hEi : ¬ (xn : Int) = (no : Int) := by omega
        go_wp2_with fail
        go_roundw
        case rel =>
          refine ⟨k + 1, by go_num, by omega, fun t y ht hy => ?_, trivial⟩
          rcases Nat.lt_or_ge t k with h | h
          · exact HN.out t y h hy
          · obtain rfl : t = k := by omega
            rw [HX.out] at hy
            cases hy
            rw [HXN.out]
            exact hE
        case measure => simp [intOf]; omega
    · obtain rfl : k = n := by omega
      go_wp2_with fail
      go_ret
      refine ⟨.inr ⟨rfl, fun y hy => ?_⟩, rfl⟩
      obtain ⟨t, ht⟩ := List.getElem?_of_mem hy
      exact HN.out t y (by have := HL.out; have := (List.getElem?_eq_some_iff.1 ht).1; omega) ht
end Go.Proofs.Ytmmcikbedegigaa
