import Derived.Test.YtkmcdjbadngfgaaM10
import Derived.Test.YtkmcdjbadngfgaaM09
import Derived.Test.YtkmcdjbadngfgaaM02
/-
  The document's copies of files, and where a number stands.
-/
namespace Go.Proofs.Ytkmcdjbadngfgaa
open Go.RowKit
set_option maxRecDepth 100000
set_option maxHeartbeats 4000000
/-- An append behind an empty row of one's own. -/
theorem append_emp (u : World) (B g0 n : Nat) (x : Value) (bs : List (BitVec 8)) (hn : n = bs.length) (h : Bytes u x bs) (hB : B ≤ u.heap.size) (hg : B ≤ g0) (hr : RowB u g0 0 []) (hl : n ≤ 1000000) :
    ∃ g c w', (∀ ty, (Builtin.append_ #[27, 27] ty #[.slice (some ⟨g0, 0, none⟩) 0 0, x]).run Try.prog u = .ok (.slice (some ⟨g, 0, none⟩) n c) w') ∧ B ≤ g ∧ RowB w' g c bs ∧ Turns (fun j => j = g0) u w' ∧ (g = g0 ∨ u.heap.size ≤ g) := by
  obtain ⟨g, c, w', h1, h2, h3, h4, h5, h6, h7, h8⟩ := append_bytes2 u B (some ⟨g0, 0, none⟩) 0 0 [] rfl x bs n hn h hB (.inr ⟨g0, rfl, hg, Nat.le_refl _, hr⟩) (by omega)
  rw [Nat.zero_add] at h1 h6 h7
  refine ⟨g, c, w', h1, h2, h3, ⟨h4.os, h4.tape, h4.output, h4.size, fun k hk hk' => h8 k hk (fun e => by cases e; exact hk' rfl)⟩, ?_⟩
  rcases Nat.eq_zero_or_pos n with h0 | h0
  · have := (h6 (by omega)).1
    cases this
    exact .inl rfl
  · exact .inr (by rw [h7 (by omega)]; exact Nat.le_refl _)
theorem rowb_lt {w : World} {g c : Nat} {bs : List (BitVec 8)} (h : RowB w g c bs) : g < w.heap.size := by
  obtain ⟨cs, h1, _⟩ := h
  exact (Array.getElem?_eq_some_iff.1 h1).1
theorem rowb_emp (w : World) : RowB (w.alloc (.cells #[] 5)) w.heap.size 0 [] := ⟨#[], heap_alloc_new _ _, by simp, fun k hk => by simp [cellsOf] at hk⟩
theorem FT.of_rows {w : World} {B : Nat} {g1 c1 g2 c2 : Nat} {f : Fl} (h1 : RowB w g1 c1 f.least) (h2 : RowB w g2 c2 f.most) (b1 : B ≤ g1) (b2 : B ≤ g2) : FT w B ⟨some ⟨g1, 0, none⟩, c1, some ⟨g2, 0, none⟩, c2, f⟩ := by
  refine ⟨⟨h1.bytes rfl, h2.bytes rfl⟩, fun ad e => ?_, fun ad e => ?_⟩
  · cases e; obtain ⟨cs, q, _⟩ := h1; exact ⟨b1, cs, _, q⟩
  · cases e; obtain ⟨cs, q, _⟩ := h2; exact ⟨b2, cs, _, q⟩
theorem rown_any (x : Tf) (w : World) (h : FB w x) (l1 : x.f.least.length ≤ 1000000) (l2 : x.f.most.length ≤ 1000000) : Calls Try.prog 51 #[x.agg] w fun e w' => ∃ y : Tf, e = .returned y.agg ∧ y.f = x.f ∧ FT w' w.heap.size y ∧ Turns (fun _ => False) w w' := by
  obtain ⟨la, lc, ma, mc, ⟨no, sz, ls, ms, en, sq⟩⟩ := x
  obtain ⟨h1, h2⟩ := h
  unfold Tf.agg
  simp only at *
  have ha : Turns (fun _ => False) w ((w.alloc (.cells #[.int .u64 (no : Nat), .int .i64 sz, .slice la ls.length lc, .slice ma ms.length mc, .int .i64 en, .int .u64 (sq : Nat)] 29)).alloc (.cells #[.int .u64 0, .int .i64 0, .slice none 0 0, .slice none 0 0, .int .i64 0, .int .u64 0] 29)) := ((Turns.refl _ w).alloc _).alloc _
  have r0 : ((w.alloc (.cells #[.int .u64 (no : Nat), .int .i64 sz, .slice la ls.length lc, .slice ma ms.length mc, .int .i64 en, .int .u64 (sq : Nat)] 29)).alloc (.cells #[.int .u64 0, .int .i64 0, .slice none 0 0, .slice none 0 0, .int .i64 0, .int .u64 0] 29)).heap[w.heap.size]? = some (.cells #[.int .u64 (no : Nat), .int .i64 sz, .slice la ls.length lc, .slice ma ms.length mc, .int .i64 en, .int .u64 (sq : Nat)] 29) := ((Turns.refl (fun _ => False) (w.alloc (.cells #[.int .u64 (no : Nat), .int .i64 sz, .slice la ls.length lc, .slice ma ms.length mc, .int .i64 en, .int .u64 (sq : Nat)] 29))).alloc (.cells #[.int .u64 0, .int .i64 0, .slice none 0 0, .slice none 0 0, .int .i64 0, .int .u64 0] 29)).heap (heap_alloc_new w (.cells #[.int .u64 (no : Nat), .int .i64 sz, .slice la ls.length lc, .slice ma ms.length mc, .int .i64 en, .int .u64 (sq : Nat)] 29)) (fun x => x)
  have r1 := heap_alloc_new (w.alloc (.cells #[.int .u64 (no : Nat), .int .i64 sz, .slice la ls.length lc, .slice ma ms.length mc, .int .i64 en, .int .u64 (sq : Nat)] 29)) (.cells #[.int .u64 0, .int .i64 0, .slice none 0 0, .slice none 0 0, .int .i64 0, .int .u64 0] 29)
  rw [show (w.alloc (.cells #[.int .u64 (no : Nat), .int .i64 sz, .slice la ls.length lc, .slice ma ms.length mc, .int .i64 en, .int .u64 (sq : Nat)] 29)).heap.size = w.heap.size + 1 by simp] at r1
  have hsz : ((w.alloc (.cells #[.int .u64 (no : Nat), .int .i64 sz, .slice la ls.length lc, .slice ma ms.length mc, .int .i64 en, .int .u64 (sq : Nat)] 29)).alloc (.cells #[.int .u64 0, .int .i64 0, .slice none 0 0, .slice none 0 0, .int .i64 0, .int .u64 0] 29)).heap.size = w.heap.size + 2 := by simp
  have HSZ := hide hsz
  have HA := hide ha
  have R0 := hide r0
  have R1 := hide r1
  have H1 := hide (h1.quiet ha)
  have H2 := hide (h2.quiet ha)
  clear ha r0 r1 h1 h2 hsz
  go_enter Try.func51, Try.ntmps51
  go_wp2_with fail
  generalize (w.alloc (.cells #[.int .u64 (no : Nat), .int .i64 sz, .slice la ls.length lc, .slice ma ms.length mc, .int .i64 en, .int .u64 (sq : Nat)] 29)).alloc (.cells #[.int .u64 0, .int .i64 0, .slice none 0 0, .slice none 0 0, .int .i64 0, .int .u64 0] 29) = w0 at *
  generalize hg : w.heap.size = g at *
  have HG := hide hg
  generalize hL1 : ls.length = L1 at *
  generalize hL2 : ms.length = L2 at *
  have HL1 := hide hL1
  have HL2 := hide hL2
  clear hL1 hL2 hg
  have tV : Turns (fun j => w0.heap.size ≤ j) w0 w0.drew := (Turns.refl _ _).drew
  have SK := hide (fun (u : World) (t : Turns (fun j => w0.heap.size ≤ j) w0 u) => show u.cell? ⟨g, 2, none⟩ = some (.slice la L1 lc) ∧ u.cell? ⟨g, 3, none⟩ = some (.slice ma L2 mc) from ⟨cell_of_row u g 2 _ 29 (0, 0) (t.heap R0.out (by have := HSZ.out; omega)), cell_of_row u g 3 _ 29 (0, 0) (t.heap R0.out (by have := HSZ.out; omega))⟩)
  have HBL := hide (fun (u : World) (t : Turns (fun j => w0.heap.size ≤ j) w0 u) => show Bytes u (.slice la L1 lc) ls from H1.out.quiet (turns_new t))
  have HBM := hide (fun (u : World) (t : Turns (fun j => w0.heap.size ≤ j) w0 u) => show Bytes u (.slice ma L2 mc) ms from H2.out.quiet (turns_new t))
  refine wp_region_x_drew [8, 9, 10, 11] (S := fun u => u.cell? ⟨g, 2, none⟩ = some (.slice la L1 lc) ∧ u.cell? ⟨g, 3, none⟩ = some (.slice ma L2 mc)) (by kernel_rfl) (SK.out _ tV) (fun _ => ?_)
  change wpAnyX _ _ _ _ _ _ 12 (Array.replicate 12 false) _ _
  refine wpAnyX_take (i := 1) (oi := { dst := some 4, op := Op.fieldAddr 29 (Operand.tmp 1) 2, type := 0, pos := "ref.go:87", after := #[], guard := none }) (v := .pointer (some ⟨g, 2, none⟩)) rfl (by kernel_rfl) (by kernel_rfl) (by kernel_rfl) (by kernel_rfl) (by kernel_rfl) (fun _ _ _ h => h) (Or.inl ⟨by rfl, ?_⟩) (SK.out _ tV) ?_
  · rintro w ⟨d2, d3⟩
    go_simp
  simp only [Act.put, List.setIfInBounds_toArray, List.set_cons_zero, List.set_cons_succ]
  refine wpAnyX_take (i := 2) (oi := { dst := some 5, op := Op.load 27 (Operand.tmp 4), type := 27, pos := "ref.go:87", after := #[{ on := 1, ground := Ground.data }], guard := none }) (v := .slice la L1 lc) rfl (by kernel_rfl) (by kernel_rfl) (by kernel_rfl) (by kernel_rfl) (by kernel_rfl) (fun _ _ _ h => h) (Or.inl ⟨by rfl, ?_⟩) (SK.out _ tV) ?_
  · rintro w ⟨d2, d3⟩
    go_simp
  simp only [Act.put, List.setIfInBounds_toArray, List.set_cons_zero, List.set_cons_succ]
  refine wpAnyX_take (i := 5) (oi := { dst := some 8, op := Op.fieldAddr 29 (Operand.tmp 1) 3, type := 0, pos := "ref.go:87", after := #[], guard := none }) (v := .pointer (some ⟨g, 3, none⟩)) rfl (by kernel_rfl) (by kernel_rfl) (by kernel_rfl) (by kernel_rfl) (by kernel_rfl) (fun _ _ _ h => h) (Or.inl ⟨by rfl, ?_⟩) (SK.out _ tV) ?_
  · rintro w ⟨d2, d3⟩
    go_simp
  simp only [Act.put, List.setIfInBounds_toArray, List.set_cons_zero, List.set_cons_succ]
  refine wpAnyX_take (i := 6) (oi := { dst := some 9, op := Op.load 27 (Operand.tmp 8), type := 27, pos := "ref.go:87", after := #[{ on := 5, ground := Ground.data }], guard := none }) (v := .slice ma L2 mc) rfl (by kernel_rfl) (by kernel_rfl) (by kernel_rfl) (by kernel_rfl) (by kernel_rfl) (fun _ _ _ h => h) (Or.inl ⟨by rfl, ?_⟩) (SK.out _ tV) ?_
  · rintro w ⟨d2, d3⟩
    go_simp
  simp only [Act.put, List.setIfInBounds_toArray, List.set_cons_zero, List.set_cons_succ]
  generalize w0.drew = U0 at *
  refine wpAnyX_ready (rs := [0, 4]) (by kernel_rfl) (by simp) ?_
  refine AllReadyX.cons rfl (fun K hK => ?_) (AllReadyX.cons rfl (fun K hK => ?_) AllReadyX.nil)
  · obtain ⟨uA, huA⟩ : ∃ uu, uu = U0.alloc (.cells #[] 5) := ⟨_, rfl⟩
    have ruA : RowB uA U0.heap.size 0 [] := by rw [huA]; exact rowb_emp _
    have tuA : Turns (fun _ => False) U0 uA := by rw [huA]; exact (Turns.refl _ _).alloc _
    have buA : w0.heap.size ≤ U0.heap.size := tV.size
    have luA : U0.heap.size < uA.heap.size := rowb_lt ruA
    have tV := tV.trans (tuA.mono (S' := fun j => w0.heap.size ≤ j) fun _ _ (x : False) => x.elim)
    go_simp
    rw [← huA]
    refine hK.out _ _ (SK.out _ tV) (fun _ => ?_)
    clear hK K huA
    refine wpAnyX_ready (rs := [3, 4]) (by kernel_rfl) (by simp) ?_
    refine AllReadyX.cons rfl (fun K hK => ?_) (AllReadyX.cons rfl (fun K hK => ?_) AllReadyX.nil)
    · obtain ⟨g1, c1, w1, hr1, hg1, hw1, ht1, hq1⟩ := append_emp uA w0.heap.size U0.heap.size L1 (.slice la L1 lc) ls HL1.out.symm (HBL.out _ tV) tV.size (by omega) ruA l1
      have tV := tV.trans (ht1.mono (S' := fun j => w0.heap.size ≤ j) fun k _ e => by omega)
      refine step_append_run rfl _ _ 27 rfl (.slice (some ⟨U0.heap.size, 0, none⟩) 0 0) (.slice la L1 lc) rfl rfl _ _ (hr1 _) 6 rfl ?_
      refine hK.out _ _ (SK.out _ tV) (fun _ => ?_)
      clear hK K
      simp only [Act.put, List.setIfInBounds_toArray, List.set_cons_zero, List.set_cons_succ]
      have lg1 := rowb_lt hw1
      refine wpAnyX_late (i := 8) (oi := { dst := some 11, op := Op.fieldAddr 29 (Operand.tmp 1) 2, type := 0, pos := "ref.go:87", after := #[{ on := 0, ground := Ground.phase }, { on := 1, ground := Ground.phase }, { on := 2, ground := Ground.phase }, { on := 3, ground := Ground.phase }, { on := 4, ground := Ground.textOnly Departure.lateStores }, { on := 5, ground := Ground.phase }, { on := 6, ground := Ground.phase }, { on := 7, ground := Ground.textOnly Departure.lateStoresUnsure }], guard := none }) (v := .pointer (some ⟨g, 2, none⟩)) rfl (by kernel_rfl) (by kernel_rfl) (by kernel_rfl) (by kernel_rfl) (fun _ _ _ h => h) (Or.inl ⟨by rfl, ?_⟩) ?_
      · rintro w -
        go_simp
      simp only [Act.put, List.setIfInBounds_toArray, List.set_cons_zero, List.set_cons_succ]
      refine wpAnyX_ready (rs := [4]) (by kernel_rfl) (by simp) ?_
      refine AllReadyX.cons rfl (fun K hK => ?_) AllReadyX.nil
      obtain ⟨uB, huB⟩ : ∃ uu, uu = w1.alloc (.cells #[] 5) := ⟨_, rfl⟩
      have ruB : RowB uB w1.heap.size 0 [] := by rw [huB]; exact rowb_emp _
      have tuB : Turns (fun _ => False) w1 uB := by rw [huB]; exact (Turns.refl _ _).alloc _
      have buB : w0.heap.size ≤ w1.heap.size := tV.size
      have luB : w1.heap.size < uB.heap.size := rowb_lt ruB
      have tV := tV.trans (tuB.mono (S' := fun j => w0.heap.size ≤ j) fun _ _ (x : False) => x.elim)
      go_simp
      rw [← huB]
      refine hK.out _ _ (SK.out _ tV) (fun _ => ?_)
      clear hK K huB
      have hw1 := hw1.turns tuB (fun x => x)
      have hne : g1 ≠ w1.heap.size := by omega
      refine wpAnyX_ready (rs := [7]) (by kernel_rfl) (by simp) ?_
      refine AllReadyX.cons rfl (fun K hK => ?_) AllReadyX.nil
      obtain ⟨g2, c2, w2, hr2, hg2, hw2, ht2, hq2⟩ := append_emp uB w0.heap.size w1.heap.size L2 (.slice ma L2 mc) ms HL2.out.symm (HBM.out _ tV) tV.size (by omega) ruB l2
      have tV := tV.trans (ht2.mono (S' := fun j => w0.heap.size ≤ j) fun k _ e => by omega)
      refine step_append_run rfl _ _ 27 rfl (.slice (some ⟨w1.heap.size, 0, none⟩) 0 0) (.slice ma L2 mc) rfl rfl _ _ (hr2 _) 10 rfl ?_
      refine hK.out _ _ (SK.out _ tV) (fun _ => ?_)
      clear hK K
      simp only [Act.put, List.setIfInBounds_toArray, List.set_cons_zero, List.set_cons_succ]
      have lg2 := rowb_lt hw2
      have hw1 := hw1.turns ht2 (by omega)
      have TV := hide tV
      have W1 := hide hw1
      have W2 := hide hw2
      have HQ := hide (show w0.heap.size ≤ g1 ∧ w0.heap.size ≤ g2 from ⟨hg1, hg2⟩)
      have hbx := tV.heap R0.out (by have := HSZ.out; omega)
      have hby := tV.heap R1.out (by have := HSZ.out; omega)
      have HBY := hide hby
      have K1 := hide ((Tick.refl hbx).set 2 (.slice (some ⟨g1, 0, none⟩) L1 c1))
      have q2 := cell_of_row _ g 2 _ 29 (0, 0) hbx
      have z2 := frozen_of_row _ g 2 _ 29 hbx
      clear hr1 hr2 ht1 ht2 hq1 hq2 hw1 hw2 hg1 hg2 tV hbx hby
      refine wpAnyX_ready (rs := [9]) (by kernel_rfl) (by simp) ?_
      refine AllReadyX.free rfl (by kernel_rfl) (fun K hK => ?_) AllReadyX.nil
      go_simp
      refine hK.out _ _ ?_
      clear hK K q2 z2
      have K2 := hide (K1.out.set 3 (.slice (some ⟨g2, 0, none⟩) L2 c2))
      have q3 := K1.out.cell 3
      have z3 := K1.out.frozen 3
      simp at q3
      generalize w2.setCell ⟨g, 2, none⟩ (.slice (some ⟨g1, 0, none⟩) L1 c1) = w3 at *
      refine wpAnyX_late (i := 10) (oi := { dst := some 12, op := Op.fieldAddr 29 (Operand.tmp 1) 3, type := 0, pos := "ref.go:87", after := #[{ on := 0, ground := Ground.phase }, { on := 1, ground := Ground.phase }, { on := 2, ground := Ground.phase }, { on := 3, ground := Ground.phase }, { on := 4, ground := Ground.phase }, { on := 5, ground := Ground.phase }, { on := 6, ground := Ground.phase }, { on := 7, ground := Ground.phase }, { on := 8, ground := Ground.phase }, { on := 9, ground := Ground.phase }], guard := none }) (v := .pointer (some ⟨g, 3, none⟩)) rfl (by kernel_rfl) (by kernel_rfl) (by kernel_rfl) (by kernel_rfl) (fun _ _ _ h => h) (Or.inl ⟨by rfl, ?_⟩) ?_
      · rintro w -
        go_simp
      simp only [Act.put, List.setIfInBounds_toArray, List.set_cons_zero, List.set_cons_succ]
      refine wpAnyX_ready (rs := [11]) (by kernel_rfl) (by simp) ?_
      refine AllReadyX.free rfl (by kernel_rfl) (fun K hK => ?_) AllReadyX.nil
      go_simp
      refine hK.out _ _ ?_
      clear hK K q3 z3 K1
      generalize w3.setCell ⟨g, 3, none⟩ (.slice (some ⟨g2, 0, none⟩) L2 c2) = w4 at *
      refine wpAnyX_done (by kernel_rfl) ?_ _
      have rG := K2.out.1
      have rH := (K2.out.2.2.1 (g + 1) (by omega)).trans HBY.out
      have c0' : w4.cell? ⟨g, 0, none⟩ = some (.int .u64 (no : Nat)) := cell_of_row w4 g 0 _ 29 (0, 0) rG
      have c1' : w4.cell? ⟨g, 1, none⟩ = some (.int .i64 sz) := cell_of_row w4 g 1 _ 29 (0, 0) rG
      have c2' : w4.cell? ⟨g, 2, none⟩ = some (.slice (some ⟨g1, 0, none⟩) L1 c1) := cell_of_row w4 g 2 _ 29 (0, 0) rG
      have c3' : w4.cell? ⟨g, 3, none⟩ = some (.slice (some ⟨g2, 0, none⟩) L2 c2) := cell_of_row w4 g 3 _ 29 (0, 0) rG
      have c4' : w4.cell? ⟨g, 4, none⟩ = some (.int .i64 en) := cell_of_row w4 g 4 _ 29 (0, 0) rG
      have c5' : w4.cell? ⟨g, 5, none⟩ = some (.int .u64 (sq : Nat)) := cell_of_row w4 g 5 _ 29 (0, 0) rG
      have x0 := cell_of_row w4 (g + 1) 0 _ 29 (0, 0) rH
      have y0 := frozen_of_row w4 (g + 1) 0 _ 29 rH
      have x1 := cell_of_row w4 (g + 1) 1 _ 29 (0, 0) rH
      have y1 := frozen_of_row w4 (g + 1) 1 _ 29 rH
      have x2 := cell_of_row w4 (g + 1) 2 _ 29 (0, 0) rH
      have y2 := frozen_of_row w4 (g + 1) 2 _ 29 rH
      have x3 := cell_of_row w4 (g + 1) 3 _ 29 (0, 0) rH
      have y3 := frozen_of_row w4 (g + 1) 3 _ 29 rH
      have x4 := cell_of_row w4 (g + 1) 4 _ 29 (0, 0) rH
      have y4 := frozen_of_row w4 (g + 1) 4 _ 29 rH
      have x5 := cell_of_row w4 (g + 1) 5 _ 29 (0, 0) rH
      have y5 := frozen_of_row w4 (g + 1) 5 _ 29 rH
      clear rG rH
      go_wp2_with fail
      have r3 := (K2.out.2.2.1 (g + 1) (by omega)).trans HBY.out
      have k3 := (((((((Tick.refl r3).set 0 (.int .u64 (no : Nat))).set 1 (.int .i64 sz)).set 2 (.slice (some ⟨g1, 0, none⟩) L1 c1)).set 3 (.slice (some ⟨g2, 0, none⟩) L2 c2)).set 4 (.int .i64 en)).set 5 (.int .u64 (sq : Nat)))
      have u2 := Turns.of_tick K2.out
      have u3 := Turns.of_tick k3
      have hw0 := HSZ.out
      have hq0 := HQ.out
      have hgg := HG.out
      have hlast : Turns (fun _ => False) w _ := ((HA.out.trans (turns_new TV.out)).andThen u2 (fun j hj e => by omega)).andThen u3 (fun j hj e => by omega)
      refine bodyPost_ret (v := .agg #[.int .u64 (no : Nat), .int .i64 sz, .slice (some ⟨g1, 0, none⟩) L1 c1, .slice (some ⟨g2, 0, none⟩) L2 c2, .int .i64 en, .int .u64 (sq : Nat)]) ?_ rfl ?_
      · exact results_cell_row Try.results51 _ _ _ _ _ _ _ rfl k3.1 Try.underlying29 rfl sz37
      · exact ⟨⟨some ⟨g1, 0, none⟩, c1, some ⟨g2, 0, none⟩, c2, ⟨no, sz, ls, ms, en, sq⟩⟩, by simp only [HL1.out, HL2.out], rfl, FT.of_rows ((W1.out.turns u2 (by omega)).turns u3 (by omega)) ((W2.out.turns u2 (by omega)).turns u3 (by omega)) (by omega) (by omega), hlast⟩
    · obtain ⟨uB, huB⟩ : ∃ uu, uu = uA.alloc (.cells #[] 5) := ⟨_, rfl⟩
      have ruB : RowB uB uA.heap.size 0 [] := by rw [huB]; exact rowb_emp _
      have tuB : Turns (fun _ => False) uA uB := by rw [huB]; exact (Turns.refl _ _).alloc _
      have buB : w0.heap.size ≤ uA.heap.size := tV.size
      have luB : uA.heap.size < uB.heap.size := rowb_lt ruB
      have tV := tV.trans (tuB.mono (S' := fun j => w0.heap.size ≤ j) fun _ _ (x : False) => x.elim)
      go_simp
      rw [← huB]
      refine hK.out _ _ (SK.out _ tV) (fun _ => ?_)
      clear hK K huB
      have ruA := ruA.turns tuB (fun x => x)
      refine wpAnyX_ready (rs := [3]) (by kernel_rfl) (by simp) ?_
      refine AllReadyX.cons rfl (fun K hK => ?_) AllReadyX.nil
      obtain ⟨g1, c1, w1, hr1, hg1, hw1, ht1, hq1⟩ := append_emp uB w0.heap.size U0.heap.size L1 (.slice la L1 lc) ls HL1.out.symm (HBL.out _ tV) tV.size (by omega) ruA l1
      have tV := tV.trans (ht1.mono (S' := fun j => w0.heap.size ≤ j) fun k _ e => by omega)
      refine step_append_run rfl _ _ 27 rfl (.slice (some ⟨U0.heap.size, 0, none⟩) 0 0) (.slice la L1 lc) rfl rfl _ _ (hr1 _) 6 rfl ?_
      refine hK.out _ _ (SK.out _ tV) (fun _ => ?_)
      clear hK K
      simp only [Act.put, List.setIfInBounds_toArray, List.set_cons_zero, List.set_cons_succ]
      have lg1 := rowb_lt hw1
      refine wpAnyX_late (i := 8) (oi := { dst := some 11, op := Op.fieldAddr 29 (Operand.tmp 1) 2, type := 0, pos := "ref.go:87", after := #[{ on := 0, ground := Ground.phase }, { on := 1, ground := Ground.phase }, { on := 2, ground := Ground.phase }, { on := 3, ground := Ground.phase }, { on := 4, ground := Ground.textOnly Departure.lateStores }, { on := 5, ground := Ground.phase }, { on := 6, ground := Ground.phase }, { on := 7, ground := Ground.textOnly Departure.lateStoresUnsure }], guard := none }) (v := .pointer (some ⟨g, 2, none⟩)) rfl (by kernel_rfl) (by kernel_rfl) (by kernel_rfl) (by kernel_rfl) (fun _ _ _ h => h) (Or.inl ⟨by rfl, ?_⟩) ?_
      · rintro w -
        go_simp
      simp only [Act.put, List.setIfInBounds_toArray, List.set_cons_zero, List.set_cons_succ]
      have ruB := ruB.turns ht1 (by omega)
      refine wpAnyX_ready (rs := [7]) (by kernel_rfl) (by simp) ?_
      refine AllReadyX.cons rfl (fun K hK => ?_) AllReadyX.nil
      obtain ⟨g2, c2, w2, hr2, hg2, hw2, ht2, hq2⟩ := append_emp w1 w0.heap.size uA.heap.size L2 (.slice ma L2 mc) ms HL2.out.symm (HBM.out _ tV) tV.size (by omega) ruB l2
      have tV := tV.trans (ht2.mono (S' := fun j => w0.heap.size ≤ j) fun k _ e => by omega)
      refine step_append_run rfl _ _ 27 rfl (.slice (some ⟨uA.heap.size, 0, none⟩) 0 0) (.slice ma L2 mc) rfl rfl _ _ (hr2 _) 10 rfl ?_
      refine hK.out _ _ (SK.out _ tV) (fun _ => ?_)
      clear hK K
      simp only [Act.put, List.setIfInBounds_toArray, List.set_cons_zero, List.set_cons_succ]
      have lg2 := rowb_lt hw2
      have hw1 := hw1.turns ht2 (by omega)
      have TV := hide tV
      have W1 := hide hw1
      have W2 := hide hw2
      have HQ := hide (show w0.heap.size ≤ g1 ∧ w0.heap.size ≤ g2 from ⟨hg1, hg2⟩)
      have hbx := tV.heap R0.out (by have := HSZ.out; omega)
      have hby := tV.heap R1.out (by have := HSZ.out; omega)
      have HBY := hide hby
      have K1 := hide ((Tick.refl hbx).set 2 (.slice (some ⟨g1, 0, none⟩) L1 c1))
      have q2 := cell_of_row _ g 2 _ 29 (0, 0) hbx
      have z2 := frozen_of_row _ g 2 _ 29 hbx
      clear hr1 hr2 ht1 ht2 hq1 hq2 hw1 hw2 hg1 hg2 tV hbx hby
      refine wpAnyX_ready (rs := [9]) (by kernel_rfl) (by simp) ?_
      refine AllReadyX.free rfl (by kernel_rfl) (fun K hK => ?_) AllReadyX.nil
      go_simp
      refine hK.out _ _ ?_
      clear hK K q2 z2
      have K2 := hide (K1.out.set 3 (.slice (some ⟨g2, 0, none⟩) L2 c2))
      have q3 := K1.out.cell 3
      have z3 := K1.out.frozen 3
      simp at q3
      generalize w2.setCell ⟨g, 2, none⟩ (.slice (some ⟨g1, 0, none⟩) L1 c1) = w3 at *
      refine wpAnyX_late (i := 10) (oi := { dst := some 12, op := Op.fieldAddr 29 (Operand.tmp 1) 3, type := 0, pos := "ref.go:87", after := #[{ on := 0, ground := Ground.phase }, { on := 1, ground := Ground.phase }, { on := 2, ground := Ground.phase }, { on := 3, ground := Ground.phase }, { on := 4, ground := Ground.phase }, { on := 5, ground := Ground.phase }, { on := 6, ground := Ground.phase }, { on := 7, ground := Ground.phase }, { on := 8, ground := Ground.phase }, { on := 9, ground := Ground.phase }], guard := none }) (v := .pointer (some ⟨g, 3, none⟩)) rfl (by kernel_rfl) (by kernel_rfl) (by kernel_rfl) (by kernel_rfl) (fun _ _ _ h => h) (Or.inl ⟨by rfl, ?_⟩) ?_
      · rintro w -
        go_simp
      simp only [Act.put, List.setIfInBounds_toArray, List.set_cons_zero, List.set_cons_succ]
      refine wpAnyX_ready (rs := [11]) (by kernel_rfl) (by simp) ?_
      refine AllReadyX.free rfl (by kernel_rfl) (fun K hK => ?_) AllReadyX.nil
      go_simp
      refine hK.out _ _ ?_
      clear hK K q3 z3 K1
      generalize w3.setCell ⟨g, 3, none⟩ (.slice (some ⟨g2, 0, none⟩) L2 c2) = w4 at *
      refine wpAnyX_done (by kernel_rfl) ?_ _
      have rG := K2.out.1
      have rH := (K2.out.2.2.1 (g + 1) (by omega)).trans HBY.out
      have c0' : w4.cell? ⟨g, 0, none⟩ = some (.int .u64 (no : Nat)) := cell_of_row w4 g 0 _ 29 (0, 0) rG
      have c1' : w4.cell? ⟨g, 1, none⟩ = some (.int .i64 sz) := cell_of_row w4 g 1 _ 29 (0, 0) rG
      have c2' : w4.cell? ⟨g, 2, none⟩ = some (.slice (some ⟨g1, 0, none⟩) L1 c1) := cell_of_row w4 g 2 _ 29 (0, 0) rG
      have c3' : w4.cell? ⟨g, 3, none⟩ = some (.slice (some ⟨g2, 0, none⟩) L2 c2) := cell_of_row w4 g 3 _ 29 (0, 0) rG
      have c4' : w4.cell? ⟨g, 4, none⟩ = some (.int .i64 en) := cell_of_row w4 g 4 _ 29 (0, 0) rG
      have c5' : w4.cell? ⟨g, 5, none⟩ = some (.int .u64 (sq : Nat)) := cell_of_row w4 g 5 _ 29 (0, 0) rG
      have x0 := cell_of_row w4 (g + 1) 0 _ 29 (0, 0) rH
      have y0 := frozen_of_row w4 (g + 1) 0 _ 29 rH
      have x1 := cell_of_row w4 (g + 1) 1 _ 29 (0, 0) rH
      have y1 := frozen_of_row w4 (g + 1) 1 _ 29 rH
      have x2 := cell_of_row w4 (g + 1) 2 _ 29 (0, 0) rH
      have y2 := frozen_of_row w4 (g + 1) 2 _ 29 rH
      have x3 := cell_of_row w4 (g + 1) 3 _ 29 (0, 0) rH
      have y3 := frozen_of_row w4 (g + 1) 3 _ 29 rH
      have x4 := cell_of_row w4 (g + 1) 4 _ 29 (0, 0) rH
      have y4 := frozen_of_row w4 (g + 1) 4 _ 29 rH
      have x5 := cell_of_row w4 (g + 1) 5 _ 29 (0, 0) rH
      have y5 := frozen_of_row w4 (g + 1) 5 _ 29 rH
      clear rG rH
      go_wp2_with fail
      have r3 := (K2.out.2.2.1 (g + 1) (by omega)).trans HBY.out
      have k3 := (((((((Tick.refl r3).set 0 (.int .u64 (no : Nat))).set 1 (.int .i64 sz)).set 2 (.slice (some ⟨g1, 0, none⟩) L1 c1)).set 3 (.slice (some ⟨g2, 0, none⟩) L2 c2)).set 4 (.int .i64 en)).set 5 (.int .u64 (sq : Nat)))
      have u2 := Turns.of_tick K2.out
      have u3 := Turns.of_tick k3
      have hw0 := HSZ.out
      have hq0 := HQ.out
      have hgg := HG.out
      have hlast : Turns (fun _ => False) w _ := ((HA.out.trans (turns_new TV.out)).andThen u2 (fun j hj e => by omega)).andThen u3 (fun j hj e => by omega)
      refine bodyPost_ret (v := .agg #[.int .u64 (no : Nat), .int .i64 sz, .slice (some ⟨g1, 0, none⟩) L1 c1, .slice (some ⟨g2, 0, none⟩) L2 c2, .int .i64 en, .int .u64 (sq : Nat)]) ?_ rfl ?_
      · exact results_cell_row Try.results51 _ _ _ _ _ _ _ rfl k3.1 Try.underlying29 rfl sz37
      · exact ⟨⟨some ⟨g1, 0, none⟩, c1, some ⟨g2, 0, none⟩, c2, ⟨no, sz, ls, ms, en, sq⟩⟩, by simp only [HL1.out, HL2.out], rfl, FT.of_rows ((W1.out.turns u2 (by omega)).turns u3 (by omega)) ((W2.out.turns u2 (by omega)).turns u3 (by omega)) (by omega) (by omega), hlast⟩
  · obtain ⟨uB, huB⟩ : ∃ uu, uu = U0.alloc (.cells #[] 5) := ⟨_, rfl⟩
    have ruB : RowB uB U0.heap.size 0 [] := by rw [huB]; exact rowb_emp _
    have tuB : Turns (fun _ => False) U0 uB := by rw [huB]; exact (Turns.refl _ _).alloc _
    have buB : w0.heap.size ≤ U0.heap.size := tV.size
    have luB : U0.heap.size < uB.heap.size := rowb_lt ruB
    have tV := tV.trans (tuB.mono (S' := fun j => w0.heap.size ≤ j) fun _ _ (x : False) => x.elim)
    go_simp
    rw [← huB]
    refine hK.out _ _ (SK.out _ tV) (fun _ => ?_)
    clear hK K huB
    refine wpAnyX_ready (rs := [0]) (by kernel_rfl) (by simp) ?_
    refine AllReadyX.cons rfl (fun K hK => ?_) AllReadyX.nil
    obtain ⟨uA, huA⟩ : ∃ uu, uu = uB.alloc (.cells #[] 5) := ⟨_, rfl⟩
    have ruA : RowB uA uB.heap.size 0 [] := by rw [huA]; exact rowb_emp _
    have tuA : Turns (fun _ => False) uB uA := by rw [huA]; exact (Turns.refl _ _).alloc _
    have buA : w0.heap.size ≤ uB.heap.size := tV.size
    have luA : uB.heap.size < uA.heap.size := rowb_lt ruA
    have tV := tV.trans (tuA.mono (S' := fun j => w0.heap.size ≤ j) fun _ _ (x : False) => x.elim)
    go_simp
    rw [← huA]
    refine hK.out _ _ (SK.out _ tV) (fun _ => ?_)
    clear hK K huA
    have ruB := ruB.turns tuA (fun x => x)
    refine wpAnyX_ready (rs := [3]) (by kernel_rfl) (by simp) ?_
    refine AllReadyX.cons rfl (fun K hK => ?_) AllReadyX.nil
    obtain ⟨g1, c1, w1, hr1, hg1, hw1, ht1, hq1⟩ := append_emp uA w0.heap.size uB.heap.size L1 (.slice la L1 lc) ls HL1.out.symm (HBL.out _ tV) tV.size (by omega) ruA l1
    have tV := tV.trans (ht1.mono (S' := fun j => w0.heap.size ≤ j) fun k _ e => by omega)
    refine step_append_run rfl _ _ 27 rfl (.slice (some ⟨uB.heap.size, 0, none⟩) 0 0) (.slice la L1 lc) rfl rfl _ _ (hr1 _) 6 rfl ?_
    refine hK.out _ _ (SK.out _ tV) (fun _ => ?_)
    clear hK K
    simp only [Act.put, List.setIfInBounds_toArray, List.set_cons_zero, List.set_cons_succ]
    have lg1 := rowb_lt hw1
    refine wpAnyX_late (i := 8) (oi := { dst := some 11, op := Op.fieldAddr 29 (Operand.tmp 1) 2, type := 0, pos := "ref.go:87", after := #[{ on := 0, ground := Ground.phase }, { on := 1, ground := Ground.phase }, { on := 2, ground := Ground.phase }, { on := 3, ground := Ground.phase }, { on := 4, ground := Ground.textOnly Departure.lateStores }, { on := 5, ground := Ground.phase }, { on := 6, ground := Ground.phase }, { on := 7, ground := Ground.textOnly Departure.lateStoresUnsure }], guard := none }) (v := .pointer (some ⟨g, 2, none⟩)) rfl (by kernel_rfl) (by kernel_rfl) (by kernel_rfl) (by kernel_rfl) (fun _ _ _ h => h) (Or.inl ⟨by rfl, ?_⟩) ?_
    · rintro w -
      go_simp
    simp only [Act.put, List.setIfInBounds_toArray, List.set_cons_zero, List.set_cons_succ]
    have ruB := ruB.turns ht1 (by omega)
    refine wpAnyX_ready (rs := [7]) (by kernel_rfl) (by simp) ?_
    refine AllReadyX.cons rfl (fun K hK => ?_) AllReadyX.nil
    obtain ⟨g2, c2, w2, hr2, hg2, hw2, ht2, hq2⟩ := append_emp w1 w0.heap.size U0.heap.size L2 (.slice ma L2 mc) ms HL2.out.symm (HBM.out _ tV) tV.size (by omega) ruB l2
    have tV := tV.trans (ht2.mono (S' := fun j => w0.heap.size ≤ j) fun k _ e => by omega)
    refine step_append_run rfl _ _ 27 rfl (.slice (some ⟨U0.heap.size, 0, none⟩) 0 0) (.slice ma L2 mc) rfl rfl _ _ (hr2 _) 10 rfl ?_
    refine hK.out _ _ (SK.out _ tV) (fun _ => ?_)
    clear hK K
    simp only [Act.put, List.setIfInBounds_toArray, List.set_cons_zero, List.set_cons_succ]
    have lg2 := rowb_lt hw2
    have hw1 := hw1.turns ht2 (by omega)
    have TV := hide tV
    have W1 := hide hw1
    have W2 := hide hw2
    have HQ := hide (show w0.heap.size ≤ g1 ∧ w0.heap.size ≤ g2 from ⟨hg1, hg2⟩)
    have hbx := tV.heap R0.out (by have := HSZ.out; omega)
    have hby := tV.heap R1.out (by have := HSZ.out; omega)
    have HBY := hide hby
    have K1 := hide ((Tick.refl hbx).set 2 (.slice (some ⟨g1, 0, none⟩) L1 c1))
    have q2 := cell_of_row _ g 2 _ 29 (0, 0) hbx
    have z2 := frozen_of_row _ g 2 _ 29 hbx
    clear hr1 hr2 ht1 ht2 hq1 hq2 hw1 hw2 hg1 hg2 tV hbx hby
    refine wpAnyX_ready (rs := [9]) (by kernel_rfl) (by simp) ?_
    refine AllReadyX.free rfl (by kernel_rfl) (fun K hK => ?_) AllReadyX.nil
    go_simp
    refine hK.out _ _ ?_
    clear hK K q2 z2
    have K2 := hide (K1.out.set 3 (.slice (some ⟨g2, 0, none⟩) L2 c2))
    have q3 := K1.out.cell 3
    have z3 := K1.out.frozen 3
    simp at q3
    generalize w2.setCell ⟨g, 2, none⟩ (.slice (some ⟨g1, 0, none⟩) L1 c1) = w3 at *
    refine wpAnyX_late (i := 10) (oi := { dst := some 12, op := Op.fieldAddr 29 (Operand.tmp 1) 3, type := 0, pos := "ref.go:87", after := #[{ on := 0, ground := Ground.phase }, { on := 1, ground := Ground.phase }, { on := 2, ground := Ground.phase }, { on := 3, ground := Ground.phase }, { on := 4, ground := Ground.phase }, { on := 5, ground := Ground.phase }, { on := 6, ground := Ground.phase }, { on := 7, ground := Ground.phase }, { on := 8, ground := Ground.phase }, { on := 9, ground := Ground.phase }], guard := none }) (v := .pointer (some ⟨g, 3, none⟩)) rfl (by kernel_rfl) (by kernel_rfl) (by kernel_rfl) (by kernel_rfl) (fun _ _ _ h => h) (Or.inl ⟨by rfl, ?_⟩) ?_
    · rintro w -
      go_simp
    simp only [Act.put, List.setIfInBounds_toArray, List.set_cons_zero, List.set_cons_succ]
    refine wpAnyX_ready (rs := [11]) (by kernel_rfl) (by simp) ?_
    refine AllReadyX.free rfl (by kernel_rfl) (fun K hK => ?_) AllReadyX.nil
    go_simp
    refine hK.out _ _ ?_
    clear hK K q3 z3 K1
    generalize w3.setCell ⟨g, 3, none⟩ (.slice (some ⟨g2, 0, none⟩) L2 c2) = w4 at *
    refine wpAnyX_done (by kernel_rfl) ?_ _
    have rG := K2.out.1
    have rH := (K2.out.2.2.1 (g + 1) (by omega)).trans HBY.out
    have c0' : w4.cell? ⟨g, 0, none⟩ = some (.int .u64 (no : Nat)) := cell_of_row w4 g 0 _ 29 (0, 0) rG
    have c1' : w4.cell? ⟨g, 1, none⟩ = some (.int .i64 sz) := cell_of_row w4 g 1 _ 29 (0, 0) rG
    have c2' : w4.cell? ⟨g, 2, none⟩ = some (.slice (some ⟨g1, 0, none⟩) L1 c1) := cell_of_row w4 g 2 _ 29 (0, 0) rG
    have c3' : w4.cell? ⟨g, 3, none⟩ = some (.slice (some ⟨g2, 0, none⟩) L2 c2) := cell_of_row w4 g 3 _ 29 (0, 0) rG
    have c4' : w4.cell? ⟨g, 4, none⟩ = some (.int .i64 en) := cell_of_row w4 g 4 _ 29 (0, 0) rG
    have c5' : w4.cell? ⟨g, 5, none⟩ = some (.int .u64 (sq : Nat)) := cell_of_row w4 g 5 _ 29 (0, 0) rG
    have x0 := cell_of_row w4 (g + 1) 0 _ 29 (0, 0) rH
    have y0 := frozen_of_row w4 (g + 1) 0 _ 29 rH
    have x1 := cell_of_row w4 (g + 1) 1 _ 29 (0, 0) rH
    have y1 := frozen_of_row w4 (g + 1) 1 _ 29 rH
    have x2 := cell_of_row w4 (g + 1) 2 _ 29 (0, 0) rH
    have y2 := frozen_of_row w4 (g + 1) 2 _ 29 rH
    have x3 := cell_of_row w4 (g + 1) 3 _ 29 (0, 0) rH
    have y3 := frozen_of_row w4 (g + 1) 3 _ 29 rH
    have x4 := cell_of_row w4 (g + 1) 4 _ 29 (0, 0) rH
    have y4 := frozen_of_row w4 (g + 1) 4 _ 29 rH
    have x5 := cell_of_row w4 (g + 1) 5 _ 29 (0, 0) rH
    have y5 := frozen_of_row w4 (g + 1) 5 _ 29 rH
    clear rG rH
    go_wp2_with fail
    have r3 := (K2.out.2.2.1 (g + 1) (by omega)).trans HBY.out
    have k3 := (((((((Tick.refl r3).set 0 (.int .u64 (no : Nat))).set 1 (.int .i64 sz)).set 2 (.slice (some ⟨g1, 0, none⟩) L1 c1)).set 3 (.slice (some ⟨g2, 0, none⟩) L2 c2)).set 4 (.int .i64 en)).set 5 (.int .u64 (sq : Nat)))
    have u2 := Turns.of_tick K2.out
    have u3 := Turns.of_tick k3
    have hw0 := HSZ.out
    have hq0 := HQ.out
    have hgg := HG.out
    have hlast : Turns (fun _ => False) w _ := ((HA.out.trans (turns_new TV.out)).andThen u2 (fun j hj e => by omega)).andThen u3 (fun j hj e => by omega)
    refine bodyPost_ret (v := .agg #[.int .u64 (no : Nat), .int .i64 sz, .slice (some ⟨g1, 0, none⟩) L1 c1, .slice (some ⟨g2, 0, none⟩) L2 c2, .int .i64 en, .int .u64 (sq : Nat)]) ?_ rfl ?_
    · exact results_cell_row Try.results51 _ _ _ _ _ _ _ rfl k3.1 Try.underlying29 rfl sz37
    · exact ⟨⟨some ⟨g1, 0, none⟩, c1, some ⟨g2, 0, none⟩, c2, ⟨no, sz, ls, ms, en, sq⟩⟩, by simp only [HL1.out, HL2.out], rfl, FT.of_rows ((W1.out.turns u2 (by omega)).turns u3 (by omega)) ((W2.out.turns u2 (by omega)).turns u3 (by omega)) (by omega) (by omega), hlast⟩
end Go.Proofs.Ytkmcdjbadngfgaa

/-
  The document's Overlap, Bytes, Deepest, Whole; whether a number stands anywhere.
-/
namespace Go.Proofs.Ytkmcdjbadngfgaa
open Go.RowKit
set_option maxRecDepth 100000
set_option maxHeartbeats 4000000
theorem filesF_bad {LL : List (List Fl)} {next seq log : Nat} {z : Int} (h : wrongVF LL next seq log = true ∨ goodLev z = false) : filesF LL next seq log z = [] := by
  unfold filesF
  rw [if_neg]
  rcases h with h | h <;> simp [h]
theorem filesF_at {L : List Lv} {next seq log : Nat} {z : Int} {x : Lv} (h : wrongV L next seq log = false) (hg : goodLev z = true) (hx : L[z.toNat]? = some x) : filesF (flL L) next seq log z = fls x.l := by
  unfold filesF
  rw [← wrongV_F, h, hg]
  simp [List.getD, flL_at hx]
theorem rBytes_any (a : Option Addr) (n c next seq log : Nat) (L : List Lv) (z : Int) (w : World) (h : VerIn w a n L next seq log) :
    Calls Try.prog 36 #[verAgg a n c next seq log, .int .i64 z] w fun e w' => e = .returned (.int .i64 (sizesF (filesF (flL L) next seq log z))) ∧ Turns (fun _ => False) w w' := by
  have TA := hide ((Turns.refl (fun _ => False) w).alloc (.cells #[.slice a n c, .int .u64 (next : Nat), .int .u64 (seq : Nat), .int .u64 (log : Nat)] 25))
  have R0 := hide (heap_alloc_new w (.cells #[.slice a n c, .int .u64 (next : Nat), .int .u64 (seq : Nat), .int .u64 (log : Nat)] 25))
  have CK := hide (rcheck_any a n c next seq log L _ (h.quiet TA.out))
  have H := hide h
  have Z0 := hide (fun (q : wrongVF (flL L) next seq log = true ∨ goodLev z = false) => show Value.int .i64 0 = .int .i64 (sizesF (filesF (flL L) next seq log z)) by rw [filesF_bad q]; rfl)
  unfold verAgg at *
  clear h
  by_cases hw : wrongV L next seq log = true
  · rw [show chkV L next seq log = 2 by unfold chkV; rw [if_pos hw]] at CK
    have RR := hide (congrArg Ending.returned (Z0.out (.inl (by rw [← wrongV_F]; exact hw))))
    clear hw
    generalize sizesF (filesF (flL L) next seq log z) = CV at *
    go_enter Try.func36, Try.ntmps36
    go_wp2_with fail
    refine CK.out.mono ?_
    rintro e w1 ⟨rfl, t1⟩
    have T1 := hide (TA.out.trans t1)
    clear t1
    go_wp2_with fail
    go_ret
    exact ⟨RR.out, T1.out⟩
  rw [Bool.not_eq_true] at hw
  rw [show chkV L next seq log = 0 by unfold chkV; rw [if_neg (by rw [hw]; simp)]] at CK
  by_cases hg : goodLev z = true
  · obtain ⟨lev, rfl⟩ : ∃ lev : Nat, z = lev := ⟨z.toNat, by unfold goodLev at hg; simp at hg; omega⟩
    have hl5 : lev < 5 := by unfold goodLev at hg; simp at hg; omega
    have h5 : L.length = 5 := by rw [wrongV_F] at hw; have := len_of_ok hw; rwa [flL_length] at this
    obtain rfl : n = 5 := by have := H.out.len; omega
    obtain ⟨x, hx⟩ : ∃ x, L[lev]? = some x := ⟨_, List.getElem?_eq_getElem (by omega)⟩
    have HFF := hide (filesF_at hw hg (by simpa using hx))
    have HWF := hide (wrongV_files hw x (List.mem_of_getElem? hx))
    have i5 : (lev : Int) < 5 := by omega
    have i0 : (0 : Int) ≤ (lev : Int) := by omega
    have HX := hide hx
    have HXB := hide (show x.l.length ≤ 5000 by have q1 := cnt_take_le L (lev + 1); have q2 := cnt_take hx; have := H.out.cnt; omega)
    clear hw hg hx h5 Z0
    generalize filesF (flL L) next seq log (lev : Int) = FF at *
    go_enter Try.func36, Try.ntmps36
    go_wp2_with fail
    refine CK.out.mono ?_
    rintro e w1 ⟨rfl, t1⟩
    have T1 := hide t1
    clear t1
    go_wp2_with fail
    generalize w.alloc (.cells #[.slice a 5 c, .int .u64 (next : Nat), .int .u64 (seq : Nat), .int .u64 (log : Nat)] 25) = w0 at *
    generalize w.heap.size = P at *
    go_loopw [5, 6] (fun s i wr => ∃ (k : Nat) (t : Int), i = .int .i64 (k : Nat) ∧ s = .int .i64 t ∧ k ≤ x.l.length ∧ t = ((x.l.take k).map fun y => y.f.size).sum ∧ (0 ≤ t ∧ t ≤ k * 16777216) ∧ Turns (fun _ => False) w0 wr) (fun _ i _ => x.l.length - (intOf i).toNat)
    case atStart => exact ⟨0, 0, rfl, rfl, Nat.zero_le _, by simp, by simp, T1.out⟩
    case round =>
      obtain ⟨k, t, rfl, rfl, hk, ht, h01, hb⟩ := hrel
      have HB := hide (TA.out.trans hb)
      have HB0 := hide hb
      have HTT := hide ht
      have v0 : wr.cell? ⟨P, 0, none⟩ = some (.slice a 5 c) := hb.cell (cell_of_row w0 P 0 _ 25 (0, 0) R0.out) (fun x => x)
      obtain ⟨⟨b, off, rfl, hcl⟩, hfb⟩ := (H.out.levs.quiet HB.out) lev x HX.out
      have HFB := hide hfb
      clear hb ht hfb
      obtain ⟨xa, xc, xl⟩ := x
      simp only at *
      generalize hXL : xl.length = XL at *
      have HXL := hide hXL
      have hxi : (XL : Int) ≤ 5000 := by have := HXB.out; omega
      clear hXL
      by_cases hkn : k < XL
      · obtain ⟨y, hy⟩ : ∃ y, xl[k]? = some y := ⟨_, List.getElem?_eq_getElem (by have := HXL.out; omega)⟩
        obtain ⟨b', off', rfl, h6, hfb⟩ := fc_of HFB.out hy
        have i1 : (k : Int) < XL := by omega
        have j0 : (0 : Int) ≤ k := by omega
        obtain ⟨v1, v2, v3, v4, _⟩ := wrongF_false (HWF.out y (List.mem_of_getElem? hy))
        have HNX := hide (show ((xl.take (k + 1)).map fun y => y.f.size).sum = t + y.f.size by rw [List.take_add_one, hy, HTT.out]; simp [List.sum_append])
        have y1 := h6.c1
        generalize hsz : y.f.size = sz at *
        have hb1 : t + sz ≤ 9223372036854775807 := by omega
        have hb0 : 0 ≤ t + sz := by omega
        have HK2 := hide (show t + sz ≤ ((k + 1 : Nat) : Int) * 16777216 by omega)
        clear hfb hy v1 v2 hsz h6 h01
        go_wp2_with fail
        go_roundw
        case rel => exact ⟨k + 1, t + sz, by go_num, by go_num, by omega, HNX.out.symm, ⟨by omega, HK2.out⟩, HB0.out⟩
        case measure => simp [intOf]; omega
      · obtain rfl : k = XL := by omega
        have htk : xl.take k = xl := List.take_of_length_le (by have := HXL.out; omega)
        rw [htk] at HTT
        clear htk h01
        go_wp2_with fail
        go_ret
        exact ⟨congrArg Ending.returned (congrArg (Value.int .i64) (by rw [HTT.out, HFF.out]; unfold sizesF fls; rw [List.map_map]; rfl)), HB.out⟩
  · rw [Bool.not_eq_true] at hg
    have RR := hide (congrArg Ending.returned (Z0.out (.inr hg)))
    have hgz : z < 0 ∨ 5 ≤ z := by unfold goodLev at hg; simp at hg; omega
    clear hg hw
    generalize sizesF (filesF (flL L) next seq log z) = CV at *
    by_cases hz : z < 0
    · clear hgz
      go_enter Try.func36, Try.ntmps36
      go_wp2_with fail
      refine CK.out.mono ?_
      rintro e w1 ⟨rfl, t1⟩
      have T1 := hide (TA.out.trans t1)
      clear t1
      go_wp2_with fail
      go_ret
      exact ⟨RR.out, T1.out⟩
    · have hz5 : 5 ≤ z := by omega
      clear hgz
      go_enter Try.func36, Try.ntmps36
      go_wp2_with fail
      refine CK.out.mono ?_
      rintro e w1 ⟨rfl, t1⟩
      have T1 := hide (TA.out.trans t1)
      clear t1
      go_wp2_with fail
      go_ret
      exact ⟨RR.out, T1.out⟩
end Go.Proofs.Ytkmcdjbadngfgaa

/-
  The document's Overlap.
-/
namespace Go.Proofs.Ytkmcdjbadngfgaa
open Go.RowKit
set_option maxRecDepth 100000
set_option maxHeartbeats 4000000
theorem rOverlap_any (a : Option Addr) (n c next seq log : Nat) (L : List Lv) (z : Int) (a1 : Option Addr) (n1 c1 : Nat) (a2 : Option Addr) (n2 c2 : Nat) (least most : List (BitVec 8)) (w : World) (h : VerIn w a n L next seq log) (b1 : Bytes w (.slice a1 n1 c1) least) (b2 : Bytes w (.slice a2 n2 c2) most) (m1 : n1 ≤ 1000000) (m2 : n2 ≤ 1000000) :
    Calls Try.prog 32 #[verAgg a n c next seq log, .int .i64 z, .slice a1 n1 c1, .slice a2 n2 c2] w fun e w' => ∃ xa xn xc R, e = .returned (.slice xa xn xc) ∧ xn = List.length R ∧ RowOk w' w.heap.size xa xc R ∧ fls R = (filesF (flL L) next seq log z).filter (overF least most) ∧ (∀ y ∈ R, FT w' w.heap.size y) ∧ Turns (fun _ => False) w w' := by
  have TA := hide ((Turns.refl (fun _ => False) w).alloc (.cells #[.slice a n c, .int .u64 (next : Nat), .int .u64 (seq : Nat), .int .u64 (log : Nat)] 25))
  have R0 := hide (heap_alloc_new w (.cells #[.slice a n c, .int .u64 (next : Nat), .int .u64 (seq : Nat), .int .u64 (log : Nat)] 25))
  have CK := hide (rcheck_any a n c next seq log L _ (h.quiet TA.out))
  have H := hide h
  have B1 := hide b1
  have B2 := hide b2
  have Z0 := hide (fun (q : wrongVF (flL L) next seq log = true ∨ goodLev z = false) (w' : World) => show RowOk w' w.heap.size none 0 [] ∧ fls [] = (filesF (flL L) next seq log z).filter (overF least most) from ⟨.inl ⟨rfl, rfl, rfl⟩, by rw [filesF_bad q]; rfl⟩)
  unfold verAgg at *
  clear h b1 b2
  by_cases hw : wrongV L next seq log = true
  · rw [show chkV L next seq log = 2 by unfold chkV; rw [if_pos hw]] at CK
    have RR := hide (Z0.out (.inl (by rw [← wrongV_F]; exact hw)))
    clear hw
    generalize filesF (flL L) next seq log z = CV at *
    go_enter Try.func32, Try.ntmps32
    go_wp2_with fail
    refine CK.out.mono ?_
    rintro e w1 ⟨rfl, t1⟩
    have T1 := hide (TA.out.trans t1)
    clear t1
    go_wp2_with fail
    go_ret
    exact ⟨none, 0, 0, [], rfl, rfl, (RR.out w1).1, (RR.out w1).2, fun y hy => absurd hy (by simp), T1.out⟩
  rw [Bool.not_eq_true] at hw
  rw [show chkV L next seq log = 0 by unfold chkV; rw [if_neg (by rw [hw]; simp)]] at CK
  by_cases hg : goodLev z = true
  · obtain ⟨lev, rfl⟩ : ∃ lev : Nat, z = lev := ⟨z.toNat, by unfold goodLev at hg; simp at hg; omega⟩
    have hl5 : lev < 5 := by unfold goodLev at hg; simp at hg; omega
    have h5 : L.length = 5 := by rw [wrongV_F] at hw; have := len_of_ok hw; rwa [flL_length] at this
    obtain rfl : n = 5 := by have := H.out.len; omega
    obtain ⟨x, hx⟩ : ∃ x, L[lev]? = some x := ⟨_, List.getElem?_eq_getElem (by omega)⟩
    have HFF := hide (filesF_at hw hg (by simpa using hx))
    have HWF := hide (wrongV_files hw x (List.mem_of_getElem? hx))
    have i5 : (lev : Int) < 5 := by omega
    have i0 : (0 : Int) ≤ (lev : Int) := by omega
    have HX := hide hx
    have HXB := hide (show x.l.length ≤ 5000 by have q1 := cnt_take_le L (lev + 1); have q2 := cnt_take hx; have := H.out.cnt; omega)
    clear hw hg hx h5 Z0
    generalize filesF (flL L) next seq log (lev : Int) = FF at *
    have HSZ := hide (show w.heap.size < (w.alloc (.cells #[.slice a 5 c, .int .u64 (next : Nat), .int .u64 (seq : Nat), .int .u64 (log : Nat)] 25)).heap.size by simp)
    go_enter Try.func32, Try.ntmps32
    go_wp2_with fail
    refine CK.out.mono ?_
    rintro e w1 ⟨rfl, t1⟩
    have T1 := hide t1
    clear t1
    go_wp2_with fail
    generalize w.alloc (.cells #[.slice a 5 c, .int .u64 (next : Nat), .int .u64 (seq : Nat), .int .u64 (log : Nat)] 25) = w0 at *
    generalize hP : w.heap.size = P at *
    have HP := hide hP
    clear hP
    go_loopw [9, 10] (fun s i wr => ∃ (k : Nat) (ra : Option Addr) (rn rc : Nat) (R : List Tf), i = .int .i64 (k : Nat) ∧ s = .slice ra rn rc ∧ k ≤ x.l.length ∧ rn = R.length ∧ RowOk wr w0.heap.size ra rc R ∧ fls R = (fls (x.l.take k)).filter (overF least most) ∧ (∀ y ∈ R, FT wr w0.heap.size y) ∧ Turns (fun _ => False) w0 wr) (fun _ i _ => x.l.length - (intOf i).toNat)
    case atStart => exact ⟨0, none, 0, 0, [], rfl, rfl, Nat.zero_le _, rfl, .inl ⟨rfl, rfl, rfl⟩, by simp [fls], fun y hy => absurd hy (by simp), T1.out⟩
    case round =>
      obtain ⟨k, ra, rn, rc, R, rfl, rfl, hk, hrn, hro, hfl, hfs, hb⟩ := hrel
      have HB := hide (TA.out.trans hb)
      have HB0 := hide hb
      have HRN := hide hrn
      have HRO := hide hro
      have HFL := hide hfl
      have HFS := hide hfs
      have HRL := hide (show R.length ≤ k by
        have h1 := congrArg List.length hfl
        simp only [fls, List.length_map] at h1
        rw [h1]
        exact Nat.le_trans (List.length_filter_le _ _) (by rw [List.length_map, List.length_take]; omega))
      have v0 : wr.cell? ⟨P, 0, none⟩ = some (.slice a 5 c) := hb.cell (cell_of_row w0 P 0 _ 25 (0, 0) R0.out) (fun x => x)
      obtain ⟨⟨b, off, rfl, hcl⟩, hfb⟩ := (H.out.levs.quiet HB.out) lev x HX.out
      have HFB := hide hfb
      clear hb hfb hrn hro hfl hfs
      obtain ⟨xa, xc, xl⟩ := x
      simp only at *
      generalize hXL : xl.length = XL at *
      have HXL := hide hXL
      have hxi : (XL : Int) ≤ 5000 := by have := HXB.out; omega
      clear hXL
      by_cases hkn : k < XL
      · obtain ⟨y, hy⟩ : ∃ y, xl[k]? = some y := ⟨_, List.getElem?_eq_getElem (by have := HXL.out; omega)⟩
        obtain ⟨b', off', rfl, h6, hfb⟩ := fc_of HFB.out hy
        have k1 : (k : Int) < XL := by omega
        have k0 : (0 : Int) ≤ k := by omega
        obtain ⟨_, _, _, _, _, _, _, u8, _, u10, _⟩ := wrongF_false (HWF.out y (List.mem_of_getElem? hy))
        have HTK := hide (show fls (xl.take (k + 1)) = fls (xl.take k) ++ [y.f] by rw [List.take_add_one, hy]; simp [fls])
        have HOF := hide (show overF least most y.f = (decide (0 ≤ cmpB y.f.most least) && (decide (most.length = 0) || decide (cmpB y.f.least most ≤ 0))) from rfl)
        have CB1 := hide (fun (u : World) (t : Turns (fun _ => False) wr u) => rBefore_any y.ma a1 y.f.most.length n1 y.mc c1 y.f.most least u (hfb.quiet t).2 (B1.out.quiet (HB.out.trans t)) (by omega) (by omega))
        have CB2 := hide (fun (u : World) (t : Turns (fun _ => False) wr u) => rBefore_any a2 y.la n2 y.f.least.length c2 y.lc most y.f.least u (B2.out.quiet (HB.out.trans t)) (hfb.quiet t).1 (by omega) (by omega))
        have CO := hide (fun (u : World) (t : Turns (fun _ => False) wr u) => rown_any y u (hfb.quiet t) (by omega) (by omega))
        have HML := hide (show n2 = most.length from B2.out.len.symm ▸ rfl)
        have HS1 := hide (cmpB_swap y.f.least most)
        obtain ⟨la, lc, ma, mc, ⟨no, sz, ls, ms, en, sq⟩⟩ := y
        obtain ⟨y0, y1, y2, y3, y4, y5⟩ := h6
        unfold Tf.agg at CO
        simp only at *
        generalize ls.length = L1 at *
        generalize ms.length = L2 at *
        have TF := hide ((Turns.refl (fun _ => False) wr).alloc (.cells #[.int .u64 (no : Nat), .int .i64 sz, .slice la L1 lc, .slice ma L2 mc, .int .i64 en, .int .u64 (sq : Nat)] 29))
        have RF := hide (heap_alloc_new wr (.cells #[.int .u64 (no : Nat), .int .i64 sz, .slice la L1 lc, .slice ma L2 mc, .int .i64 en, .int .u64 (sq : Nat)] 29))
        clear hfb hy u8 u10
        by_cases hA : cmpB ms least < 0
        · rw [show decide (cmpB ms least < 0) = true by simpa using hA] at CB1
          have HA := hide hA
          clear hA
          go_wp2_with fail
          refine (CB1.out _ TF.out).mono ?_
          rintro e w2 ⟨rfl, t2⟩
          have T2 := hide (TF.out.trans t2)
          clear t2
          have HOV := hide (show overF least most ⟨no, sz, ls, ms, en, sq⟩ = false by have := HA.out; show (decide (0 ≤ cmpB ms least) && (decide (most.length = 0) || decide (cmpB ls most ≤ 0))) = false; rw [decide_eq_false (show ¬ 0 ≤ cmpB ms least by omega)]; rfl)
          go_wp2_with fail
          go_roundw
          case rel =>
            refine ⟨k + 1, ra, rn, rc, R, by go_num, rfl, by omega, HRN.out, HRO.out.keep T2.out fun _ _ x => x, ?_, fun y hy => (HFS.out y hy).quiet T2.out, HB0.out.trans T2.out⟩
            rw [HTK.out, List.filter_append, ← HFL.out]
            simp [HOV.out]
          case measure => simp [intOf]; omega
        · rw [show decide (cmpB ms least < 0) = false by simpa using hA] at CB1
          have HA := hide hA
          clear hA
          go_wp2_with fail
          refine (CB1.out _ TF.out).mono ?_
          rintro e w2 ⟨rfl, t2⟩
          have T2 := hide (TF.out.trans t2)
          have r2 := t2.heap RF.out (fun x => x)
          have e0 := cell_of_row w2 wr.heap.size 0 _ 29 (0, 0) r2
          have e1 := cell_of_row w2 wr.heap.size 1 _ 29 (0, 0) r2
          have e2 := cell_of_row w2 wr.heap.size 2 _ 29 (0, 0) r2
          have e3 := cell_of_row w2 wr.heap.size 3 _ 29 (0, 0) r2
          have e4 := cell_of_row w2 wr.heap.size 4 _ 29 (0, 0) r2
          have e5 := cell_of_row w2 wr.heap.size 5 _ 29 (0, 0) r2
          clear t2
          by_cases hM : n2 = 0
          · have hMi : (n2 : Int) = 0 := by omega
            have HM := hide hM
            clear hM r2
            have HOV := hide (show overF least most ⟨no, sz, ls, ms, en, sq⟩ = true by have := HA.out; have := HM.out; have := HML.out; show (decide (0 ≤ cmpB ms least) && (decide (most.length = 0) || decide (cmpB ls most ≤ 0))) = true; rw [decide_eq_true (show 0 ≤ cmpB ms least by omega), decide_eq_true (show most.length = 0 by omega)]; rfl)
            go_wp2_with fail
            refine (CO.out _ T2.out).mono ?_
            rintro e w4 ⟨y', rfl, hyf, hft, t4⟩
            have HYF := hide hyf
            have T4 := hide (T2.out.trans t4)
            have HFT := hide (hft.mono (show w0.heap.size ≤ w2.heap.size from Nat.le_trans HB0.out.size (T2.out).size))
            clear hyf hft t4
            obtain ⟨la3, lc3, ma3, mc3, ⟨no3, sz3, ls3, ms3, en3, sq3⟩⟩ := y'
            obtain ⟨a', n', c', w', hr, hn', hro', ht', _⟩ := append_fl (w4.alloc (.cells (Tf.cells ⟨la3, lc3, ma3, mc3, ⟨no3, sz3, ls3, ms3, en3, sq3⟩⟩).toArray 29)) w0.heap.size ra rc R (HRO.out.keep (T4.out.alloc _) fun _ _ x => x) (Nat.le_trans HB0.out.size (T4.out.alloc (.cells (Tf.cells ⟨la3, lc3, ma3, mc3, ⟨no3, sz3, ls3, ms3, en3, sq3⟩⟩).toArray 29)).size) (by have := HRL.out; omega) ⟨la3, lc3, ma3, mc3, ⟨no3, sz3, ls3, ms3, en3, sq3⟩⟩ w4.heap.size 1 (heap_alloc_new w4 _)
            have HFTS := hide (show ∀ y ∈ R ++ [⟨la3, lc3, ma3, mc3, ⟨no3, sz3, ls3, ms3, en3, sq3⟩⟩], FT w' w0.heap.size y from fun y hy => by
              have hS : ∀ k, ra = some ⟨k, 0, none⟩ → w0.heap.size ≤ k → ∀ cs z, ¬ (w4.alloc (.cells (Tf.cells ⟨la3, lc3, ma3, mc3, ⟨no3, sz3, ls3, ms3, en3, sq3⟩⟩).toArray 29)).heap[k]? = some (.cells cs 5 z) := fun k e _ cs z hz => (HRO.out.keep (T4.out.alloc _) fun _ _ x => x).ne hz (by decide) k e rfl
              rcases List.mem_append.1 hy with h | h
              · exact ((HFS.out y h).quiet (T4.out.alloc _)).keep ht' hS
              · rw [List.mem_singleton.1 h]; exact (HFT.out.quiet ((Turns.refl _ _).alloc _)).keep ht' hS)
            have HT5 := hide (turns_in (HB0.out.trans (T4.out.alloc _)) rfl (HRO.out.keep (T4.out.alloc _) fun _ _ x => x) ht')
            rw [← HRN.out] at hr
            have HR5 := hide hr
            have HN5 := hide hn'
            have HRO5 := hide hro'
            clear hr hn' hro' ht'
            unfold Tf.agg at *
            simp only [Tf.cells, Tf.lv, Tf.mv] at *
            go_wp2_with (at_builtin; refine wpList_append_run rfl _ _ 31 rfl (.slice ra rn rc) (.slice (some ⟨w4.heap.size, 0, none⟩) 1 1) rfl rfl _ _ (HR5.out _) ?_)
            go_roundw
            case rel =>
              refine ⟨k + 1, a', n', c', _, by go_num, rfl, by omega, HN5.out, HRO5.out, ?_, HFTS.out, HT5.out⟩
              rw [HTK.out, List.filter_append, ← HFL.out]
              simp only [fls, List.map_append, List.map_cons, List.map_nil, List.filter_cons, HOV.out, if_true, List.filter_nil]
              rw [HYF.out]
            case measure => simp [intOf]; omega
          · have hMi : ¬ (n2 : Int) = 0 := by omega
            have HM := hide hM
            clear hM
            by_cases hD : cmpB most ls < 0
            · rw [show decide (cmpB most ls < 0) = true by simpa using hD] at CB2
              have HD := hide hD
              clear hD r2
              go_wp2_with fail
              refine (CB2.out _ T2.out).mono ?_
              rintro e w3 ⟨rfl, t3⟩
              have T3 := hide (T2.out.trans t3)
              clear t3
              have HOV := hide (show overF least most ⟨no, sz, ls, ms, en, sq⟩ = false by have := HA.out; have := HM.out; have := HML.out; have := HD.out; have := HS1.out; show (decide (0 ≤ cmpB ms least) && (decide (most.length = 0) || decide (cmpB ls most ≤ 0))) = false; rw [decide_eq_false (show ¬ most.length = 0 by omega), decide_eq_false (show ¬ cmpB ls most ≤ 0 by omega)]; simp)
              go_wp2_with fail
              go_roundw
              case rel =>
                refine ⟨k + 1, ra, rn, rc, R, by go_num, rfl, by omega, HRN.out, HRO.out.keep T3.out fun _ _ x => x, ?_, fun y hy => (HFS.out y hy).quiet T3.out, HB0.out.trans T3.out⟩
                rw [HTK.out, List.filter_append, ← HFL.out]
                simp [HOV.out]
              case measure => simp [intOf]; omega
            · rw [show decide (cmpB most ls < 0) = false by simpa using hD] at CB2
              have HD := hide hD
              clear hD
              go_wp2_with fail
              refine (CB2.out _ T2.out).mono ?_
              rintro e w3 ⟨rfl, t3⟩
              have T3 := hide (T2.out.trans t3)
              have r3 := t3.heap r2 (fun x => x)
              have e0 := cell_of_row w3 wr.heap.size 0 _ 29 (0, 0) r3
              have e1 := cell_of_row w3 wr.heap.size 1 _ 29 (0, 0) r3
              have e2 := cell_of_row w3 wr.heap.size 2 _ 29 (0, 0) r3
              have e3 := cell_of_row w3 wr.heap.size 3 _ 29 (0, 0) r3
              have e4 := cell_of_row w3 wr.heap.size 4 _ 29 (0, 0) r3
              have e5 := cell_of_row w3 wr.heap.size 5 _ 29 (0, 0) r3
              clear t3 r3 r2
              have HOV := hide (show overF least most ⟨no, sz, ls, ms, en, sq⟩ = true by have := HA.out; have := HM.out; have := HML.out; have := HD.out; have := HS1.out; rw [HOF.out]; simp; omega)
              go_wp2_with fail
              refine (CO.out _ T3.out).mono ?_
              rintro e w4 ⟨y', rfl, hyf, hft, t4⟩
              have HYF := hide hyf
              have T4 := hide (T3.out.trans t4)
              have HFT := hide (hft.mono (show w0.heap.size ≤ w3.heap.size from Nat.le_trans HB0.out.size (T3.out).size))
              clear hyf hft t4
              obtain ⟨la3, lc3, ma3, mc3, ⟨no3, sz3, ls3, ms3, en3, sq3⟩⟩ := y'
              obtain ⟨a', n', c', w', hr, hn', hro', ht', _⟩ := append_fl (w4.alloc (.cells (Tf.cells ⟨la3, lc3, ma3, mc3, ⟨no3, sz3, ls3, ms3, en3, sq3⟩⟩).toArray 29)) w0.heap.size ra rc R (HRO.out.keep (T4.out.alloc _) fun _ _ x => x) (Nat.le_trans HB0.out.size (T4.out.alloc (.cells (Tf.cells ⟨la3, lc3, ma3, mc3, ⟨no3, sz3, ls3, ms3, en3, sq3⟩⟩).toArray 29)).size) (by have := HRL.out; omega) ⟨la3, lc3, ma3, mc3, ⟨no3, sz3, ls3, ms3, en3, sq3⟩⟩ w4.heap.size 1 (heap_alloc_new w4 _)
              have HFTS := hide (show ∀ y ∈ R ++ [⟨la3, lc3, ma3, mc3, ⟨no3, sz3, ls3, ms3, en3, sq3⟩⟩], FT w' w0.heap.size y from fun y hy => by
                have hS : ∀ k, ra = some ⟨k, 0, none⟩ → w0.heap.size ≤ k → ∀ cs z, ¬ (w4.alloc (.cells (Tf.cells ⟨la3, lc3, ma3, mc3, ⟨no3, sz3, ls3, ms3, en3, sq3⟩⟩).toArray 29)).heap[k]? = some (.cells cs 5 z) := fun k e _ cs z hz => (HRO.out.keep (T4.out.alloc _) fun _ _ x => x).ne hz (by decide) k e rfl
                rcases List.mem_append.1 hy with h | h
                · exact ((HFS.out y h).quiet (T4.out.alloc _)).keep ht' hS
                · rw [List.mem_singleton.1 h]; exact (HFT.out.quiet ((Turns.refl _ _).alloc _)).keep ht' hS)
              have HT5 := hide (turns_in (HB0.out.trans (T4.out.alloc _)) rfl (HRO.out.keep (T4.out.alloc _) fun _ _ x => x) ht')
              rw [← HRN.out] at hr
              have HR5 := hide hr
              have HN5 := hide hn'
              have HRO5 := hide hro'
              clear hr hn' hro' ht'
              unfold Tf.agg at *
              simp only [Tf.cells, Tf.lv, Tf.mv] at *
              go_wp2_with (at_builtin; refine wpList_append_run rfl _ _ 31 rfl (.slice ra rn rc) (.slice (some ⟨w4.heap.size, 0, none⟩) 1 1) rfl rfl _ _ (HR5.out _) ?_)
              go_roundw
              case rel =>
                refine ⟨k + 1, a', n', c', _, by go_num, rfl, by omega, HN5.out, HRO5.out, ?_, HFTS.out, HT5.out⟩
                rw [HTK.out, List.filter_append, ← HFL.out]
                simp only [fls, List.map_append, List.map_cons, List.map_nil, List.filter_cons, HOV.out, if_true, List.filter_nil]
                rw [HYF.out]
              case measure => simp [intOf]; omega
      · obtain rfl : k = XL := by omega
        have htk : xl.take k = xl := List.take_of_length_le (by have := HXL.out; omega)
        rw [htk] at HFL
        clear htk
        go_wp2_with fail
        go_ret
        have hsz := HSZ.out
        have hpp := HP.out
        refine ⟨ra, rn, rc, R, rfl, HRN.out, ?_, by rw [HFL.out, HFF.out], fun y hy => (HFS.out y hy).mono (by omega), HB.out⟩
        exact HRO.out.mono (by omega)
  · rw [Bool.not_eq_true] at hg
    have RR := hide (Z0.out (.inr hg))
    have hgz : z < 0 ∨ 5 ≤ z := by unfold goodLev at hg; simp at hg; omega
    clear hg hw
    generalize filesF (flL L) next seq log z = CV at *
    by_cases hz : z < 0
    · clear hgz
      go_enter Try.func32, Try.ntmps32
      go_wp2_with fail
      refine CK.out.mono ?_
      rintro e w1 ⟨rfl, t1⟩
      have T1 := hide (TA.out.trans t1)
      clear t1
      go_wp2_with fail
      go_ret
      exact ⟨none, 0, 0, [], rfl, rfl, (RR.out w1).1, (RR.out w1).2, fun y hy => absurd hy (by simp), T1.out⟩
    · have hz5 : 5 ≤ z := by omega
      clear hgz
      go_enter Try.func32, Try.ntmps32
      go_wp2_with fail
      refine CK.out.mono ?_
      rintro e w1 ⟨rfl, t1⟩
      have T1 := hide (TA.out.trans t1)
      clear t1
      go_wp2_with fail
      go_ret
      exact ⟨none, 0, 0, [], rfl, rfl, (RR.out w1).1, (RR.out w1).2, fun y hy => absurd hy (by simp), T1.out⟩
end Go.Proofs.Ytkmcdjbadngfgaa
