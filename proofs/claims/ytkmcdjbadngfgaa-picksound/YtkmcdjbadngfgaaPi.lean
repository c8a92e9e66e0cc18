/-
  The file of the least number; the keys of the files that go down from a level.
-/
import Derived.Test.YtkmcdjbadngfgaaPh
import Derived.Test.YtkmcdjbadngfgaaTx
namespace Go.Proofs.Ytkmcdjbadngfgaa
open Go.RowKit
set_option maxRecDepth 100000
set_option maxHeartbeats 4000000
theorem upper1_any (x y : Tf) (w : World) : Calls Try.prog 61 #[x.agg, y.agg] w fun e w' => e = .returned (.int .i64 (cmpN x.f.no y.f.no)) ∧ Turns (fun _ => False) w w' := by
  obtain ⟨la, lc, ma, mc, ⟨no, sz, ls, ms, en, sq⟩⟩ := x
  obtain ⟨la2, lc2, ma2, mc2, ⟨no2, sz2, ls2, ms2, en2, sq2⟩⟩ := y
  unfold Tf.agg
  simp only at *
  generalize ls.length = L1
  generalize ms.length = L2
  generalize ls2.length = L3
  generalize ms2.length = L4
  have TA := hide (((Turns.refl (fun _ => False) w).alloc (.cells #[.int .u64 (no : Nat), .int .i64 sz, .slice la L1 lc, .slice ma L2 mc, .int .i64 en, .int .u64 (sq : Nat)] 29)).alloc (.cells #[.int .u64 (no2 : Nat), .int .i64 sz2, .slice la2 L3 lc2, .slice ma2 L4 mc2, .int .i64 en2, .int .u64 (sq2 : Nat)] 29))
  have CC := hide (cmp64_any no no2)
  generalize cmpN no no2 = z at *
  go_enter Try.func61, Try.ntmps61
  go_wp2_with fail
  refine (CC.out _).mono ?_
  rintro e w1 ⟨rfl, rfl⟩
  go_wp2_with fail
  go_ret
  exact ⟨rfl, TA.out⟩
theorem min_any (a : Option Addr) (n c : Nat) (l : List Tf) (x0 : Tf) (w : World) (h : Fils w a l) (hn : n = l.length) (hmx : n ≤ 1000000) (h0 : l[0]? = some x0) :
    Calls Try.prog 60 #[.slice a n c, .func (.func 61) #[] #[]] w fun e w' => ∃ (j : Nat) (y : Tf), e = .returned y.agg ∧ l[j]? = some y ∧ (∀ z ∈ l, y.f.no ≤ z.f.no) ∧ Turns (fun _ => False) w w' := by
  have HN := hide hn
  have H0 := hide h0
  obtain ⟨b, off, rfl, h6, hfb⟩ := fc_of h h0
  rw [Nat.zero_mul, Nat.add_zero] at h6
  have HF := hide h
  have hlen := (List.getElem?_eq_some_iff.1 h0).1
  have TR0 := hide ((Turns.refl (fun _ => False) w).alloc (.cells #[.int .u64 0, .int .i64 0, .slice none 0 0, .slice none 0 0, .int .i64 0, .int .u64 0] 29))
  have h6' := h6.quiet TR0.out
  have R2 := hide (heap_alloc_new w (.cells #[.int .u64 0, .int .i64 0, .slice none 0 0, .slice none 0 0, .int .i64 0, .int .u64 0] 29))
  clear h h0 hfb h6
  have hn1 : (1 : Int) ≤ n := by omega
  have hn0 : (0 : Int) < n := by omega
  have hm : (n : Int) ≤ 1000000 := by omega
  have hnn : 1 ≤ n := by omega
  clear hn hlen
  have HX0 := hide (show x0.cells = x0.cells from rfl)
  obtain ⟨la0, lc0, ma0, mc0, ⟨no0, sz0, ls0, ms0, en0, sq0⟩⟩ := x0
  obtain ⟨y0, y1, y2, y3, y4, y5⟩ := h6'
  clear HX0
  simp only at *
  go_enter Try.func60, Try.ntmps60
  go_wp2_with fail
  obtain ⟨w1, hw1⟩ : ∃ u, u = (w.alloc (.cells #[.int .u64 0, .int .i64 0, .slice none 0 0, .slice none 0 0, .int .i64 0, .int .u64 0] 29)).alloc (.cells #[.int .u64 (no0 : Nat), .int .i64 sz0, .slice la0 ls0.length lc0, .slice ma0 ms0.length mc0, .int .i64 en0, .int .u64 (sq0 : Nat)] 29) := ⟨_, rfl⟩
  rw [← hw1]
  have T1 := hide (show Turns (fun _ => False) w w1 by rw [hw1]; exact TR0.out.alloc _)
  have R0 := hide (show w1.heap[w.heap.size + 1]? = some (.cells (Tf.cells ⟨la0, lc0, ma0, mc0, ⟨no0, sz0, ls0, ms0, en0, sq0⟩⟩).toArray 29 (0, 0)) by rw [hw1, ← World.size_alloc]; exact heap_alloc_new _ _)
  have R2' := hide (show w1.heap[w.heap.size]? = some (.cells #[.int .u64 0, .int .i64 0, .slice none 0 0, .slice none 0 0, .int .i64 0, .int .u64 0] 29 (0, 0)) by rw [hw1]; exact ((Turns.refl (fun _ => False) _).alloc _).heap R2.out (fun x => x))
  have HS := hide (show w.heap.size = w.heap.size from rfl)
  clear hw1 y0 y1 y2 y3 y4 y5 R2 TR0
  generalize hW0 : w.heap.size = W0 at *
  have HW0 := hide hW0
  clear hW0 HS
  obtain ⟨G, hG⟩ : ∃ g, g = W0 + 1 := ⟨_, rfl⟩
  rw [← hG] at R0 ⊢
  have HG := hide hG
  clear hG
  go_loopw [6] (fun i wr => ∃ (k j : Nat) (y : Tf), i = .int .i64 (k : Nat) ∧ k ≤ n ∧ l[j]? = some y ∧ (∀ (q : Nat) (z : Tf), q < k → l[q]? = some z → y.f.no ≤ z.f.no) ∧ wr.heap[G]? = some (.cells y.cells.toArray 29 (0, 0)) ∧ Turns (fun j => j = G) w1 wr) (fun i _ => n - (intOf i).toNat)
  case atStart => exact ⟨1, 0, ⟨la0, lc0, ma0, mc0, ⟨no0, sz0, ls0, ms0, en0, sq0⟩⟩, rfl, hnn, H0.out, fun q z hq hz => by
      obtain rfl : q = 0 := by omega
      rw [H0.out] at hz; cases hz; exact Nat.le_refl _, R0.out, Turns.refl _ _⟩
  case round =>
    obtain ⟨k, j, m, rfl, hk, hj, hmin, hrow, htr⟩ := hrel
    have HJ := hide hj
    have HMIN := hide hmin
    have HROW := hide hrow
    have HTR := hide htr
    have HT := hide (show Turns (fun _ => False) w wr from T1.out.andThen htr fun j hj e => by have := HG.out; have := HW0.out; omega)
    clear hj hmin hrow htr
    by_cases hkn : k < n
    · obtain ⟨y, hy⟩ : ∃ y, l[k]? = some y := ⟨_, List.getElem?_eq_getElem (by have := HN.out; omega)⟩
      obtain ⟨bb, oo, hbo, h6, hfb⟩ := fc_of (HF.out.quiet HT.out) hy
      cases hbo
      have HY := hide hy
      have i1 : (k : Int) < n := by omega
      have i0 : (0 : Int) ≤ k := by omega
      have CU := hide (fun (u : World) (_ : Turns (fun _ => False) wr u) => upper1_any y m u)
      have HMY := hide (show ∀ z ∈ [m], z = m from fun z hz => by simpa using hz)
      clear hfb hy
      obtain ⟨la, lc, ma, mc, ⟨no, sz, ls, ms, en, sq⟩⟩ := y
      obtain ⟨la2, lc2, ma2, mc2, ⟨no2, sz2, ls2, ms2, en2, sq2⟩⟩ := m
      clear HMY
      obtain ⟨y0, y1, y2, y3, y4, y5⟩ := h6
      unfold Tf.agg at CU
      simp only [Tf.cells, Tf.lv, Tf.mv] at HROW
      simp only at *
      have HL := hide (show ls.length = ls.length ∧ ms.length = ms.length from ⟨rfl, rfl⟩)
      generalize hL1 : ls.length = L1 at *
      generalize hL2 : ms.length = L2 at *
      have HL1 := hide hL1
      have HL2 := hide hL2
      clear hL1 hL2 HL
      generalize hL3 : ls2.length = L3 at *
      generalize hL4 : ms2.length = L4 at *
      have HL3 := hide hL3
      have HL4 := hide hL4
      clear hL3 hL4
      have SK := hide (fun (u : World) (t : Turns (fun _ => False) wr u) => show (u.cell? ⟨b, off + k * 6, none⟩ = some (.int .u64 (no : Nat)) ∧ u.cell? ⟨b, off + k * 6 + 1, none⟩ = some (.int .i64 sz) ∧ u.cell? ⟨b, off + k * 6 + 2, none⟩ = some (.slice la L1 lc) ∧ u.cell? ⟨b, off + k * 6 + 3, none⟩ = some (.slice ma L2 mc) ∧ u.cell? ⟨b, off + k * 6 + 4, none⟩ = some (.int .i64 en) ∧ u.cell? ⟨b, off + k * 6 + 5, none⟩ = some (.int .u64 (sq : Nat))) ∧ u.cell? ⟨G, 0, none⟩ = some (.int .u64 (no2 : Nat)) ∧ u.cell? ⟨G, 1, none⟩ = some (.int .i64 sz2) ∧ u.cell? ⟨G, 2, none⟩ = some (.slice la2 L3 lc2) ∧ u.cell? ⟨G, 3, none⟩ = some (.slice ma2 L4 mc2) ∧ u.cell? ⟨G, 4, none⟩ = some (.int .i64 en2) ∧ u.cell? ⟨G, 5, none⟩ = some (.int .u64 (sq2 : Nat)) from ⟨⟨t.cell y0 (fun x => x), t.cell y1 (fun x => x), t.cell y2 (fun x => x), t.cell y3 (fun x => x), t.cell y4 (fun x => x), t.cell y5 (fun x => x)⟩, cell_of_row u G 0 _ 29 (0, 0) (t.heap HROW.out (fun x => x)), cell_of_row u G 1 _ 29 (0, 0) (t.heap HROW.out (fun x => x)), cell_of_row u G 2 _ 29 (0, 0) (t.heap HROW.out (fun x => x)), cell_of_row u G 3 _ 29 (0, 0) (t.heap HROW.out (fun x => x)), cell_of_row u G 4 _ 29 (0, 0) (t.heap HROW.out (fun x => x)), cell_of_row u G 5 _ 29 (0, 0) (t.heap HROW.out (fun x => x))⟩)
      clear y0 y1 y2 y3 y4 y5
      have tV := (Turns.refl (fun _ => False) wr).drew
      go_upto_region 7 with (fail)
      refine wp_region_held_drew (S := fun u => (u.cell? ⟨b, off + k * 6, none⟩ = some (.int .u64 (no : Nat)) ∧ u.cell? ⟨b, off + k * 6 + 1, none⟩ = some (.int .i64 sz) ∧ u.cell? ⟨b, off + k * 6 + 2, none⟩ = some (.slice la L1 lc) ∧ u.cell? ⟨b, off + k * 6 + 3, none⟩ = some (.slice ma L2 mc) ∧ u.cell? ⟨b, off + k * 6 + 4, none⟩ = some (.int .i64 en) ∧ u.cell? ⟨b, off + k * 6 + 5, none⟩ = some (.int .u64 (sq : Nat))) ∧ u.cell? ⟨G, 0, none⟩ = some (.int .u64 (no2 : Nat)) ∧ u.cell? ⟨G, 1, none⟩ = some (.int .i64 sz2) ∧ u.cell? ⟨G, 2, none⟩ = some (.slice la2 L3 lc2) ∧ u.cell? ⟨G, 3, none⟩ = some (.slice ma2 L4 mc2) ∧ u.cell? ⟨G, 4, none⟩ = some (.int .i64 en2) ∧ u.cell? ⟨G, 5, none⟩ = some (.int .u64 (sq2 : Nat))) (by kernel_rfl) (SK.out _ tV) (fun _ => ?_)
      change wpAnyH _ _ _ _ _ 8 (Array.replicate 8 false) _ _
      refine wpAnyH_take (i := 0) (oi := { dst := some 20, op := Op.move (Operand.tmp 1), type := 82, pos := "sort.go:85", after := #[], guard := none }) (v := .func (.func 61) #[] #[]) rfl (by kernel_rfl) (by kernel_rfl) (by kernel_rfl) (fun _ _ _ h => h) (Or.inl ⟨by rfl, ?_⟩) (SK.out _ tV) ?_
      · rintro w ⟨⟨a0, a1, a2, a3, a4, a5⟩, b0, b1, b2, b3, b4, b5⟩
        go_simp
      simp only [Act.put, List.setIfInBounds_toArray, List.set_cons_zero, List.set_cons_succ]
      refine wpAnyH_take (i := 1) (oi := { dst := some 21, op := Op.move (Operand.tmp 0), type := 31, pos := "sort.go:85", after := #[], guard := none }) (v := .slice (some ⟨b, off, none⟩) n c) rfl (by kernel_rfl) (by kernel_rfl) (by kernel_rfl) (fun _ _ _ h => h) (Or.inl ⟨by rfl, ?_⟩) (SK.out _ tV) ?_
      · rintro w ⟨⟨a0, a1, a2, a3, a4, a5⟩, b0, b1, b2, b3, b4, b5⟩
        go_simp
      simp only [Act.put, List.setIfInBounds_toArray, List.set_cons_zero, List.set_cons_succ]
      refine wpAnyH_take (i := 2) (oi := { dst := some 22, op := Op.move (Operand.tmp 6), type := 3, pos := "sort.go:85", after := #[], guard := none }) (v := .int .i64 (k : Nat)) rfl (by kernel_rfl) (by kernel_rfl) (by kernel_rfl) (fun _ _ _ h => h) (Or.inl ⟨by rfl, ?_⟩) (SK.out _ tV) ?_
      · rintro w ⟨⟨a0, a1, a2, a3, a4, a5⟩, b0, b1, b2, b3, b4, b5⟩
        go_simp
      simp only [Act.put, List.setIfInBounds_toArray, List.set_cons_zero, List.set_cons_succ]
      refine wpAnyH_take (i := 3) (oi := { dst := some 23, op := Op.indexAddr 31 (Operand.tmp 21) (Operand.tmp 22), type := 0, pos := "sort.go:85", after := #[{ on := 1, ground := Ground.data }, { on := 2, ground := Ground.data }], guard := none }) (v := .pointer (some ⟨b, off + k * 6, none⟩)) rfl (by kernel_rfl) (by kernel_rfl) (by kernel_rfl) (fun _ _ _ h => h) (Or.inl ⟨by rfl, ?_⟩) (SK.out _ tV) ?_
      · rintro w ⟨⟨a0, a1, a2, a3, a4, a5⟩, b0, b1, b2, b3, b4, b5⟩
        go_simp
      simp only [Act.put, List.setIfInBounds_toArray, List.set_cons_zero, List.set_cons_succ]
      refine wpAnyH_take (i := 4) (oi := { dst := some 24, op := Op.load 29 (Operand.tmp 23), type := 29, pos := "sort.go:85", after := #[{ on := 3, ground := Ground.data }], guard := none }) (v := .agg #[.int .u64 (no : Nat), .int .i64 sz, .slice la L1 lc, .slice ma L2 mc, .int .i64 en, .int .u64 (sq : Nat)]) rfl (by kernel_rfl) (by kernel_rfl) (by kernel_rfl) (fun _ _ _ h => h) (Or.inl ⟨by rfl, ?_⟩) (SK.out _ tV) ?_
      · rintro w ⟨⟨a0, a1, a2, a3, a4, a5⟩, b0, b1, b2, b3, b4, b5⟩
        go_simp
      simp only [Act.put, List.setIfInBounds_toArray, List.set_cons_zero, List.set_cons_succ]
      refine wpAnyH_take (i := 5) (oi := { dst := some 25, op := Op.load 29 (Operand.tmp 5), type := 29, pos := "sort.go:85", after := #[], guard := none }) (v := .agg #[.int .u64 (no2 : Nat), .int .i64 sz2, .slice la2 L3 lc2, .slice ma2 L4 mc2, .int .i64 en2, .int .u64 (sq2 : Nat)]) rfl (by kernel_rfl) (by kernel_rfl) (by kernel_rfl) (fun _ _ _ h => h) (Or.inl ⟨by rfl, ?_⟩) (SK.out _ tV) ?_
      · rintro w ⟨⟨a0, a1, a2, a3, a4, a5⟩, b0, b1, b2, b3, b4, b5⟩
        go_simp
      simp only [Act.put, List.setIfInBounds_toArray, List.set_cons_zero, List.set_cons_succ]
      refine wpAnyH_ready (rs := [6]) (by kernel_rfl) (by simp) ?_
      refine AllReadyH.cons rfl (fun K hK => ?_) AllReadyH.nil
      go_simp
      refine (CU.out _ tV).mono ?_
      rintro oo Vn ⟨rfl, tC⟩
      have tN := tC
      have tV := tV.trans tN
      clear tC
      clear tN
      go_simp
      refine hK.out _ _ (SK.out _ tV) (fun _ => ?_)
      clear hK K
      refine wpAnyH_take (i := 7) (oi := { dst := some 27, op := Op.binOp BinOp.lss 3 (Operand.tmp 26) (Operand.const (Value.int IntKind.i64 0)) 3, type := 4, pos := "sort.go:85", after := #[{ on := 6, ground := Ground.data }], guard := none }) (v := .bool (decide (cmpN no no2 < 0))) rfl (by kernel_rfl) (by kernel_rfl) (by kernel_rfl) (fun _ _ _ h => h) (Or.inl ⟨by rfl, ?_⟩) (SK.out _ tV) ?_
      · rintro w ⟨⟨a0, a1, a2, a3, a4, a5⟩, b0, b1, b2, b3, b4, b5⟩
        go_simp
      simp only [Act.put, List.setIfInBounds_toArray, List.set_cons_zero, List.set_cons_succ]
      refine wpAnyH_done (by kernel_rfl) ?_ _
      have TU := hide tV
      have SU := hide (SK.out _ tV)
      clear tV
      have hrow := TU.out.heap HROW.out (fun x => x)
      obtain ⟨⟨a0, a1, a2, a3, a4, a5⟩, _⟩ := SU.out
      clear SU SK
      have HTV := hide (HTR.out.trans (TU.out.mono fun _ _ x => x.elim))
      have CN := hide (show cmpN no no2 < 0 ↔ no < no2 by unfold cmpN; split <;> (try split) <;> omega)
      generalize cmpN no no2 = z at *
      by_cases hz : z < 0
      · have HLT := hide (CN.out.1 hz)
        go_wp2_with (refine wpList_store_row rfl 29 _ _ rfl _ _ rfl rfl _ _ hrow ?_ ?_ ?_ ?_; (exact sz37); (simp only [List.size_toArray, List.length_cons, List.length_nil]); (simp [Value.oneCell']))
        have hset := setRow_heap _ G _ #[.int .u64 (no : Nat), .int .i64 sz, .slice la L1 lc, .slice ma L2 mc, .int .i64 en, .int .u64 (sq : Nat)] _ _ hrow
        have hts := turns_setRow Vn G #[.int .u64 (no : Nat), .int .i64 sz, .slice la L1 lc, .slice ma L2 mc, .int .i64 en, .int .u64 (sq : Nat)]
        have HSET := hide hset
        have HTS := hide hts
        clear hset hts hrow
        generalize Vn.setRow G #[.int .u64 (no : Nat), .int .i64 sz, .slice la L1 lc, .slice ma L2 mc, .int .i64 en, .int .u64 (sq : Nat)] = V2 at *
        go_wp2_with fail
        go_roundw
        case rel =>
          refine ⟨k + 1, k, ⟨la, lc, ma, mc, ⟨no, sz, ls, ms, en, sq⟩⟩, by go_num, by omega, HY.out, fun q u hq hu => ?_, ?_, HTV.out.trans HTS.out⟩
          · rcases Nat.lt_or_ge q k with h | h
            · have := HMIN.out q u h hu
              have := HLT.out
              show no ≤ u.f.no
              exact Nat.le_trans (Nat.le_of_lt HLT.out) ‹_›
            · obtain rfl : q = k := by omega
              rw [HY.out] at hu; cases hu; exact Nat.le_refl _
          · simp only [Tf.cells, Tf.lv, Tf.mv, HL1.out, HL2.out]; exact HSET.out
        case measure => simp [intOf]; omega
      · have HLT := hide (show no2 ≤ no by have := mt CN.out.2 hz; omega)
        clear hrow
        go_wp2_with fail
        go_roundw
        case rel =>
          refine ⟨k + 1, j, ⟨la2, lc2, ma2, mc2, ⟨no2, sz2, ls2, ms2, en2, sq2⟩⟩, by go_num, by omega, HJ.out, fun q u hq hu => ?_, ?_, HTV.out⟩
          · rcases Nat.lt_or_ge q k with h | h
            · exact HMIN.out q u h hu
            · obtain rfl : q = k := by omega
              rw [HY.out] at hu; cases hu; exact HLT.out
          · simp only [Tf.cells, Tf.lv, Tf.mv, HL3.out, HL4.out]; exact TU.out.heap HROW.out (fun x => x)
        case measure => simp [intOf]; omega
    · obtain rfl : k = n := by omega
      have hrow := HROW.out
      have r2 := HTR.out.heap R2'.out (show ¬ W0 = G by have := HG.out; omega)
      obtain ⟨la2, lc2, ma2, mc2, ⟨no2, sz2, ls2, ms2, en2, sq2⟩⟩ := m
      simp only [Tf.cells, Tf.lv, Tf.mv] at hrow
      have HJ' := hide HJ.out
      simp only at *
      have c0 := cell_of_row wr G 0 _ 29 (0, 0) hrow
      have c1 := cell_of_row wr G 1 _ 29 (0, 0) hrow
      have c2 := cell_of_row wr G 2 _ 29 (0, 0) hrow
      have c3 := cell_of_row wr G 3 _ 29 (0, 0) hrow
      have c4 := cell_of_row wr G 4 _ 29 (0, 0) hrow
      have c5 := cell_of_row wr G 5 _ 29 (0, 0) hrow
      clear hrow
      generalize hL3 : ls2.length = L3 at *
      generalize hL4 : ms2.length = L4 at *
      have HL3 := hide hL3
      have HL4 := hide hL4
      clear hL3 hL4
      go_wp2_with (refine wpList_store_row rfl 29 _ _ rfl _ _ rfl rfl _ _ r2 ?_ ?_ ?_ ?_; (exact sz37); (simp only [List.size_toArray, List.length_cons, List.length_nil]); (simp [Value.oneCell']))
      refine bodyPost_ret (v := .agg #[.int .u64 (no2 : Nat), .int .i64 sz2, .slice la2 L3 lc2, .slice ma2 L4 mc2, .int .i64 en2, .int .u64 (sq2 : Nat)]) ?_ rfl ?_
      · exact results_cell_row Try.results60 _ _ _ _ _ _ _ rfl (setRow_heap _ _ _ _ _ _ r2) Try.underlying29 rfl sz37
      · refine ⟨j, ⟨la2, lc2, ma2, mc2, ⟨no2, sz2, ls2, ms2, en2, sq2⟩⟩, by unfold Tf.agg; rw [← HL3.out, ← HL4.out], HJ.out, fun z hz => ?_, HT.out.andThen (turns_setRow _ _ _) fun j hj e => by have := HW0.out; omega⟩
        obtain ⟨q, hq⟩ := List.getElem?_of_mem hz
        exact HMIN.out q z (by have := HN.out; have := (List.getElem?_eq_some_iff.1 hq).1; omega) hq
end Go.Proofs.Ytkmcdjbadngfgaa
