import Derived.Test.YtmmcikbedegigaaM23
/-
  The document's put.
-/
namespace Go.Proofs.Ytmmcikbedegigaa
open Go.RowKit
set_option maxRecDepth 100000
set_option maxHeartbeats 4000000
theorem fils_take {w : World} {a : Option Addr} {l : List Tf} (h : Fils w a l) (k : Nat) : Fils w a (l.take k) := fun j x hx => by
  rw [List.getElem?_take] at hx
  split at hx
  · exact h j x hx
  · cases hx
theorem fils_drop {w : World} {b off : Nat} {l : List Tf} (h : Fils w (some ⟨b, off, none⟩) l) (k : Nat) : Fils w (some ⟨b, off + k * 6, none⟩) (l.drop k) := fun j x hx => by
  rw [List.getElem?_drop] at hx
  obtain ⟨⟨b', off', e, h2⟩, h3⟩ := h (k + j) x hx
  cases e
  exact ⟨⟨b, off + k * 6, rfl, fun i u hu => by rw [show off + k * 6 + j * 6 + i = off + (k + j) * 6 + i by omega]; exact h2 i u hu⟩, h3⟩
/-- Files behind a row of one's own. -/
structure FRow (w : World) (B g c : Nat) (R : List Tf) : Prop where
  hB : B ≤ g
  le : R.length ≤ c
  row : RowC w g 37 (c * 6) (flCells R)
theorem FRow.turns {S : Nat → Prop} {w w' : World} {B g c : Nat} {R : List Tf} (h : FRow w B g c R) (t : Turns S w w') (hS : ¬ S g) : FRow w' B g c R := ⟨h.hB, h.le, h.row.turns t hS⟩
theorem FRow.lt {w : World} {B g c : Nat} {R : List Tf} (h : FRow w B g c R) : g < w.heap.size := by
  obtain ⟨cs, h1, _⟩ := h.row
  exact (Array.getElem?_eq_some_iff.1 h1).1
theorem frow_emp (w : World) (B : Nat) (hB : B ≤ w.heap.size) : FRow (w.alloc (.cells #[] 37)) B w.heap.size 0 [] := ⟨hB, Nat.le_refl _, #[], heap_alloc_new _ _, by simp, fun k hk => by simp [flCells] at hk⟩
theorem append_frow (w : World) (B g c : Nat) (R : List Tf) (h : FRow w B g c R) (hB : B ≤ w.heap.size) (x : Value) (n : Nat) (R2 : List Tf) (hs : Src Try.prog Try.t37.size 50 x n (flCells R2) w) (hn : n = R2.length) (hl : R.length + n ≤ 1000000) :
    ∃ (g' n' c' : Nat) (w' : World), (∀ ty, (Builtin.append_ #[50, 50] ty #[.slice (some ⟨g, 0, none⟩) R.length c, x]).run Try.prog w = .ok (.slice (some ⟨g', 0, none⟩) n' c') w') ∧ n' = (R ++ R2).length ∧ FRow w' B g' c' (R ++ R2) ∧ Turns (fun j => j = g) w w' ∧ (g' = g ∨ w.heap.size ≤ g') := by
  obtain ⟨g', cp, w', hr, hg', hrow, hb, hcp, hin, hnew, hkeep⟩ := append_gen2 (P := Try.prog) w B 50 37 Try.t37 _ Try.underlying50 info37 t37_zero rfl (some ⟨g, 0, none⟩) R.length c (flCells R) (by rw [t37_size, flCells_length]) _ n _ hs hB (.inr ⟨g, rfl, h.hB, h.le, by rw [t37_size]; exact h.row⟩) (by rw [t37_bytes]; omega) (by omega)
  refine ⟨g', _, cp, w', hr, by rw [List.length_append, hn], ⟨hg', by rw [List.length_append, ← hn]; exact hcp, ?_⟩, ⟨hb.os, hb.tape, hb.output, hb.size, fun k hk hn => hkeep k hk (fun e => by cases e; exact hn rfl)⟩, ?_⟩
  · rw [t37_size] at hrow
    rw [flCells_append]
    exact hrow
  · rcases Nat.lt_or_ge c (R.length + n) with h1 | h1
    · exact .inr (by rw [hnew h1]; exact Nat.le_refl _)
    · have := (hin h1).1
      cases this
      exact .inl rfl
theorem src_one {w : World} {g cy : Nat} {y : Tf} (hg : w.heap[g]? = some (.cells y.cells.toArray 37 (0, 0))) : Src Try.prog Try.t37.size 50 (.slice (some ⟨g, 0, none⟩) 1 cy) 1 (flCells [y]) w := by
  have : flCells [y] = y.cells := by simp [flCells]
  rw [this]
  exact Src.ofSlice w Try.underlying50 ⟨g, 0, none⟩ 1 cy _ (by rw [t37_size]; rfl) (fun j u hu => by
    rw [Go.WideShapes.add_plain, Nat.zero_add, cell_of_row w g j _ 37 (0, 0) hg]
    simpa using hu) (fun u hu => y.cells_one u hu)
theorem rput_any (a : Option Addr) (n c lev : Nat) (l : List Tf) (y : Tf) (w : World) (h : Fils w a l) (hn : n = l.length) (hnc : n ≤ c) (hmx : n ≤ 100000) (hy : FB w y) (hyl : y.f.least.length ≤ 1000000) (hpl : a = none ∨ ∃ b off, a = some ⟨b, off, none⟩) (hll : ∀ x ∈ l, x.f.least.length ≤ 1000000) :
    Calls Try.prog 38 #[.slice a n c, y.agg, .int .i64 (lev : Nat)] w fun e w' => ∃ (p : Nat) (ra : Option Addr) (rc : Nat), e = .returned (.slice ra (l.length + 1) rc) ∧ p ≤ l.length ∧ RowOk w' w.heap.size ra rc (l.take p ++ y :: l.drop p) ∧ (∀ x ∈ l.take p, cmpF lev x.f y.f < 0) ∧ (∀ x, l[p]? = some x → ¬ cmpF lev x.f y.f < 0) ∧ Turns (fun _ => False) w w' := by
  have H := hide h
  have HL := hide hn
  have HFY := hide hy
  have HLL := hide hll
  have hni : (n : Int) ≤ 100000 := by omega
  have HNC := hide hnc
  have HPL := hide hpl
  clear hnc hpl
  obtain ⟨la, lc, ma, mc, ⟨no, sz, ls, ms, en, sq⟩⟩ := y
  have TA := hide ((Turns.refl (fun _ => False) w).alloc (.cells #[.int .u64 (no : Nat), .int .i64 sz, .slice la ls.length lc, .slice ma ms.length mc, .int .i64 en, .int .u64 (sq : Nat)] 37))
  have R0 := hide (heap_alloc_new w (.cells #[.int .u64 (no : Nat), .int .i64 sz, .slice la ls.length lc, .slice ma ms.length mc, .int .i64 en, .int .u64 (sq : Nat)] 37))
  unfold Tf.agg
  simp only at *
  clear h hn hy hll
  go_enter Try.func38, Try.ntmps38
  go_wp2_with fail
  generalize w.alloc (.cells #[.int .u64 (no : Nat), .int .i64 sz, .slice la ls.length lc, .slice ma ms.length mc, .int .i64 en, .int .u64 (sq : Nat)] 37) = w0 at *
  generalize hL1 : ls.length = L1 at *
  generalize hL2 : ms.length = L2 at *
  have HL1 := hide hL1
  have HL2 := hide hL2
  clear hL1 hL2
  generalize hG : w.heap.size = G at *
  have HG := hide hG
  clear hG
  go_loopw [7] (fun i wr => ∃ k : Nat, i = .int .i64 (k : Nat) ∧ k ≤ n ∧ (∀ x ∈ l.take k, cmpF lev x.f ⟨no, sz, ls, ms, en, sq⟩ < 0) ∧ Turns (fun _ => False) w0 wr) (fun i _ => n - (intOf i).toNat)
  case atStart => exact ⟨0, rfl, Nat.zero_le _, fun x hx => by simp at hx, Turns.refl _ _⟩
  case round =>
    obtain ⟨k, rfl, hk, hlt, hb⟩ := hrel
    have HB := hide (TA.out.trans hb)
    have HB0 := hide hb
    have HLTS := hide hlt
    have f0 : wr.cell? ⟨G, 0, none⟩ = some (.int .u64 (no : Nat)) := cell_of_row wr G 0 _ 37 (0, 0) (hb.heap R0.out (fun x => x))
    have f2 : wr.cell? ⟨G, 2, none⟩ = some (.slice la L1 lc) := cell_of_row wr G 2 _ 37 (0, 0) (hb.heap R0.out (fun x => x))
    clear hb hlt
    by_cases hkn : k < n
    · obtain ⟨x, hx⟩ : ∃ x, l[k]? = some x := ⟨_, List.getElem?_eq_getElem (by have := HL.out; omega)⟩
      obtain ⟨b, off, rfl, h6, hfb⟩ := fc_of (H.out.quiet HB.out) hx
      have HX := hide hx
      have HTK := hide (show l.take (k + 1) = l.take k ++ [x] by rw [List.take_add_one, hx]; rfl)
      have HKN := hide hkn
      have HKL := hide (show ¬ n ≤ k by omega)
      have hxl := HLL.out x (List.mem_of_getElem? hx)
      have CB := hide (fun (u : World) (t : Turns (fun _ => False) wr u) => rBefore_any x.la la x.f.least.length L1 x.lc lc x.f.least ls u (hfb.quiet t).1 (by have := ((HFY.out.quiet HB.out).quiet t).1; simp only [HL1.out] at this; exact this) (by omega) (by omega))
      have HCF := hide (show cmpF lev x.f ⟨no, sz, ls, ms, en, sq⟩ = if lev = 0 then cmpN x.f.no no else cmpB x.f.least ls from rfl)
      have c0 := h6.c0
      have c2 := h6.c2
      generalize x.f.no = no2 at *
      generalize x.f.least.length = L3 at *
      generalize x.la = la2 at *
      generalize x.lc = lc2 at *
      have SK := hide (fun (u : World) (t : Turns (fun _ => False) wr u) => show (fun u => u.cell? ⟨G, 0, none⟩ = some (.int .u64 (no : Nat)) ∧ u.cell? ⟨G, 2, none⟩ = some (.slice la L1 lc) ∧ u.cell? ⟨b, off + k * 6, none⟩ = some (.int .u64 (no2 : Nat)) ∧ u.cell? ⟨b, off + k * 6 + 2, none⟩ = some (.slice la2 L3 lc2)) u from ⟨t.cell f0 (fun x => x), t.cell f2 (fun x => x), t.cell c0 (fun x => x), t.cell c2 (fun x => x)⟩)
      have tV : Turns (fun _ => False) wr wr.drew := (Turns.refl _ _).drew
      clear hx h6 hfb f0 f2 c0 c2 hxl hkn
      by_cases hlv : lev = 0
      · subst hlv
        by_cases hno : no2 < no
        · have HLT := hide hno
          have HC := hide (show cmpF 0 x.f ⟨no, sz, ls, ms, en, sq⟩ < 0 by rw [HCF.out, if_pos rfl]; unfold cmpN; rw [if_pos hno]; omega)
          clear hno
          go_upto_region 2 with (fail)
          refine wp_region_held_drew (S := fun u => u.cell? ⟨G, 0, none⟩ = some (.int .u64 (no : Nat)) ∧ u.cell? ⟨G, 2, none⟩ = some (.slice la L1 lc) ∧ u.cell? ⟨b, off + k * 6, none⟩ = some (.int .u64 (no2 : Nat)) ∧ u.cell? ⟨b, off + k * 6 + 2, none⟩ = some (.slice la2 L3 lc2)) (by kernel_rfl) (SK.out _ tV) (fun _ => ?_)
          change wpAnyH _ _ _ _ _ 32 (Array.replicate 32 false) _ _
          refine wpAnyH_take (i := 0) (oi := { dst := some 8, op := Op.move (Operand.tmp 7), type := 3, pos := "ref.go:94", after := #[], guard := none }) (v := .int .i64 ((k : Nat) : Int)) rfl (by kernel_rfl) (by kernel_rfl) (by kernel_rfl) (fun _ _ _ h => h) (Or.inl ⟨by rfl, ?_⟩) (SK.out _ tV) ?_
          · rintro w ⟨d0, d2, e0, e2⟩
            go_simp
          simp only [Act.put, List.setIfInBounds_toArray, List.set_cons_zero, List.set_cons_succ]
          refine wpAnyH_take (i := 1) (oi := { dst := some 9, op := Op.move (Operand.tmp 0), type := 50, pos := "ref.go:94", after := #[], guard := none }) (v := .slice (some ⟨b, off, none⟩) n c) rfl (by kernel_rfl) (by kernel_rfl) (by kernel_rfl) (fun _ _ _ h => h) (Or.inl ⟨by rfl, ?_⟩) (SK.out _ tV) ?_
          · rintro w ⟨d0, d2, e0, e2⟩
            go_simp
          simp only [Act.put, List.setIfInBounds_toArray, List.set_cons_zero, List.set_cons_succ]
          refine wpAnyH_take (i := 2) (oi := { dst := some 10, op := Op.call { callee := Callee.builtin Builtin.len, args := #[Operand.tmp 9], argTypes := #[50] }, type := 3, pos := "ref.go:94", after := #[{ on := 1, ground := Ground.data }], guard := none }) (v := .int .i64 ((n : Nat) : Int)) rfl (by kernel_rfl) (by kernel_rfl) (by kernel_rfl) (fun _ _ _ h => h) (Or.inl ⟨by rfl, ?_⟩) (SK.out _ tV) ?_
          · rintro w ⟨d0, d2, e0, e2⟩
            go_simp
          simp only [Act.put, List.setIfInBounds_toArray, List.set_cons_zero, List.set_cons_succ]
          refine wpAnyH_take (i := 3) (oi := { dst := some 11, op := Op.binOp BinOp.lss 3 (Operand.tmp 8) (Operand.tmp 10) 3, type := 4, pos := "ref.go:94", after := #[{ on := 0, ground := Ground.data }, { on := 2, ground := Ground.data }], guard := none }) (v := .bool true) rfl (by kernel_rfl) (by kernel_rfl) (by kernel_rfl) (fun _ _ _ h => h) (Or.inl ⟨by rfl, ?_⟩) (SK.out _ tV) ?_
          · rintro w ⟨d0, d2, e0, e2⟩
            go_simp; exact HKN.out
          simp only [Act.put, List.setIfInBounds_toArray, List.set_cons_zero, List.set_cons_succ]
          refine wpAnyH_take (i := 4) (oi := { dst := some 12, op := Op.move (Operand.tmp 11), type := 4, pos := "ref.go:94", after := #[{ on := 3, ground := Ground.data }], guard := none }) (v := .bool true) rfl (by kernel_rfl) (by kernel_rfl) (by kernel_rfl) (fun _ _ _ h => h) (Or.inl ⟨by rfl, ?_⟩) (SK.out _ tV) ?_
          · rintro w ⟨d0, d2, e0, e2⟩
            go_simp
          simp only [Act.put, List.setIfInBounds_toArray, List.set_cons_zero, List.set_cons_succ]
          refine wpAnyH_take (i := 5) (oi := { dst := some 13, op := Op.move (Operand.tmp 2), type := 3, pos := "ref.go:94", after := #[{ on := 4, ground := Ground.guard }], guard := some (4, true) }) (v := .int .i64 0) rfl (by kernel_rfl) (by kernel_rfl) (by kernel_rfl) (fun _ _ _ h => h) (Or.inl ⟨by rfl, ?_⟩) (SK.out _ tV) ?_
          · rintro w ⟨d0, d2, e0, e2⟩
            go_simp
          simp only [Act.put, List.setIfInBounds_toArray, List.set_cons_zero, List.set_cons_succ]
          refine wpAnyH_take (i := 6) (oi := { dst := some 14, op := Op.binOp BinOp.eql 3 (Operand.tmp 13) (Operand.const (Value.int IntKind.i64 0)) 3, type := 4, pos := "ref.go:94", after := #[{ on := 5, ground := Ground.data }, { on := 4, ground := Ground.guard }], guard := some (4, true) }) (v := .bool true) rfl (by kernel_rfl) (by kernel_rfl) (by kernel_rfl) (fun _ _ _ h => h) (Or.inl ⟨by rfl, ?_⟩) (SK.out _ tV) ?_
          · rintro w ⟨d0, d2, e0, e2⟩
            go_simp
          simp only [Act.put, List.setIfInBounds_toArray, List.set_cons_zero, List.set_cons_succ]
          refine wpAnyH_take (i := 7) (oi := { dst := some 15, op := Op.move (Operand.tmp 14), type := 4, pos := "ref.go:94", after := #[{ on := 6, ground := Ground.data }, { on := 4, ground := Ground.chain }, { on := 4, ground := Ground.guard }], guard := some (4, true) }) (v := .bool true) rfl (by kernel_rfl) (by kernel_rfl) (by kernel_rfl) (fun _ _ _ h => h) (Or.inl ⟨by rfl, ?_⟩) (SK.out _ tV) ?_
          · rintro w ⟨d0, d2, e0, e2⟩
            go_simp
          simp only [Act.put, List.setIfInBounds_toArray, List.set_cons_zero, List.set_cons_succ]
          refine wpAnyH_take (i := 8) (oi := { dst := some 16, op := Op.move (Operand.tmp 0), type := 50, pos := "ref.go:94", after := #[{ on := 7, ground := Ground.guard }], guard := some (7, true) }) (v := .slice (some ⟨b, off, none⟩) n c) rfl (by kernel_rfl) (by kernel_rfl) (by kernel_rfl) (fun _ _ _ h => h) (Or.inl ⟨by rfl, ?_⟩) (SK.out _ tV) ?_
          · rintro w ⟨d0, d2, e0, e2⟩
            go_simp
          simp only [Act.put, List.setIfInBounds_toArray, List.set_cons_zero, List.set_cons_succ]
          refine wpAnyH_take (i := 9) (oi := { dst := some 17, op := Op.move (Operand.tmp 7), type := 3, pos := "ref.go:94", after := #[{ on := 7, ground := Ground.guard }], guard := some (7, true) }) (v := .int .i64 ((k : Nat) : Int)) rfl (by kernel_rfl) (by kernel_rfl) (by kernel_rfl) (fun _ _ _ h => h) (Or.inl ⟨by rfl, ?_⟩) (SK.out _ tV) ?_
          · rintro w ⟨d0, d2, e0, e2⟩
            go_simp
          simp only [Act.put, List.setIfInBounds_toArray, List.set_cons_zero, List.set_cons_succ]
          refine wpAnyH_take (i := 10) (oi := { dst := some 18, op := Op.indexAddr 50 (Operand.tmp 16) (Operand.tmp 17), type := 0, pos := "ref.go:94", after := #[{ on := 8, ground := Ground.data }, { on := 9, ground := Ground.data }, { on := 7, ground := Ground.guard }], guard := some (7, true) }) (v := .pointer (some ⟨b, off + k * 6, none⟩)) rfl (by kernel_rfl) (by kernel_rfl) (by kernel_rfl) (fun _ _ _ h => h) (Or.inl ⟨by rfl, ?_⟩) (SK.out _ tV) ?_
          · rintro w ⟨d0, d2, e0, e2⟩
            go_simp; exact fun h => absurd h HKL.out
          simp only [Act.put, List.setIfInBounds_toArray, List.set_cons_zero, List.set_cons_succ]
          refine wpAnyH_take (i := 11) (oi := { dst := some 19, op := Op.fieldAddr 37 (Operand.tmp 18) 0, type := 0, pos := "ref.go:94", after := #[{ on := 10, ground := Ground.data }, { on := 7, ground := Ground.guard }], guard := some (7, true) }) (v := .pointer (some ⟨b, off + k * 6, none⟩)) rfl (by kernel_rfl) (by kernel_rfl) (by kernel_rfl) (fun _ _ _ h => h) (Or.inl ⟨by rfl, ?_⟩) (SK.out _ tV) ?_
          · rintro w ⟨d0, d2, e0, e2⟩
            go_simp
          simp only [Act.put, List.setIfInBounds_toArray, List.set_cons_zero, List.set_cons_succ]
          refine wpAnyH_take (i := 12) (oi := { dst := some 20, op := Op.load 23 (Operand.tmp 19), type := 23, pos := "ref.go:94", after := #[{ on := 11, ground := Ground.data }, { on := 7, ground := Ground.guard }], guard := some (7, true) }) (v := .int .u64 (no2 : Nat)) rfl (by kernel_rfl) (by kernel_rfl) (by kernel_rfl) (fun _ _ _ h => h) (Or.inl ⟨by rfl, ?_⟩) (SK.out _ tV) ?_
          · rintro w ⟨d0, d2, e0, e2⟩
            go_simp
          simp only [Act.put, List.setIfInBounds_toArray, List.set_cons_zero, List.set_cons_succ]
          refine wpAnyH_take (i := 13) (oi := { dst := some 21, op := Op.fieldAddr 37 (Operand.tmp 4) 0, type := 0, pos := "ref.go:94", after := #[{ on := 7, ground := Ground.guard }], guard := some (7, true) }) (v := .pointer (some ⟨G, 0, none⟩)) rfl (by kernel_rfl) (by kernel_rfl) (by kernel_rfl) (fun _ _ _ h => h) (Or.inl ⟨by rfl, ?_⟩) (SK.out _ tV) ?_
          · rintro w ⟨d0, d2, e0, e2⟩
            go_simp
          simp only [Act.put, List.setIfInBounds_toArray, List.set_cons_zero, List.set_cons_succ]
          refine wpAnyH_take (i := 14) (oi := { dst := some 22, op := Op.load 23 (Operand.tmp 21), type := 23, pos := "ref.go:94", after := #[{ on := 13, ground := Ground.data }, { on := 7, ground := Ground.guard }], guard := some (7, true) }) (v := .int .u64 (no : Nat)) rfl (by kernel_rfl) (by kernel_rfl) (by kernel_rfl) (fun _ _ _ h => h) (Or.inl ⟨by rfl, ?_⟩) (SK.out _ tV) ?_
          · rintro w ⟨d0, d2, e0, e2⟩
            go_simp
          simp only [Act.put, List.setIfInBounds_toArray, List.set_cons_zero, List.set_cons_succ]
          refine wpAnyH_take (i := 15) (oi := { dst := some 23, op := Op.binOp BinOp.lss 23 (Operand.tmp 20) (Operand.tmp 22) 23, type := 4, pos := "ref.go:94", after := #[{ on := 12, ground := Ground.data }, { on := 14, ground := Ground.data }, { on := 7, ground := Ground.guard }], guard := some (7, true) }) (v := .bool true) rfl (by kernel_rfl) (by kernel_rfl) (by kernel_rfl) (fun _ _ _ h => h) (Or.inl ⟨by rfl, ?_⟩) (SK.out _ tV) ?_
          · rintro w ⟨d0, d2, e0, e2⟩
            go_simp; exact HLT.out
          simp only [Act.put, List.setIfInBounds_toArray, List.set_cons_zero, List.set_cons_succ]
          refine wpAnyH_take (i := 16) (oi := { dst := some 24, op := Op.pick (Operand.tmp 15) (Operand.tmp 23) (Operand.const (Value.bool false)), type := 4, pos := "ref.go:94", after := #[{ on := 7, ground := Ground.data }, { on := 15, ground := Ground.data }, { on := 4, ground := Ground.guard }], guard := some (4, true) }) (v := .bool true) rfl (by kernel_rfl) (by kernel_rfl) (by kernel_rfl) (fun _ _ _ h => h) (Or.inl ⟨by rfl, ?_⟩) (SK.out _ tV) ?_
          · rintro w ⟨d0, d2, e0, e2⟩
            go_simp
          simp only [Act.put, List.setIfInBounds_toArray, List.set_cons_zero, List.set_cons_succ]
          refine wpAnyH_take (i := 17) (oi := { dst := some 25, op := Op.move (Operand.tmp 24), type := 4, pos := "ref.go:94", after := #[{ on := 16, ground := Ground.data }, { on := 7, ground := Ground.chain }, { on := 4, ground := Ground.guard }], guard := some (4, true) }) (v := .bool true) rfl (by kernel_rfl) (by kernel_rfl) (by kernel_rfl) (fun _ _ _ h => h) (Or.inl ⟨by rfl, ?_⟩) (SK.out _ tV) ?_
          · rintro w ⟨d0, d2, e0, e2⟩
            go_simp
          simp only [Act.put, List.setIfInBounds_toArray, List.set_cons_zero, List.set_cons_succ]
          refine wpAnyH_take (i := 18) (oi := { dst := some 26, op := Op.move (Operand.tmp 2), type := 3, pos := "ref.go:94", after := #[{ on := 17, ground := Ground.guard }], guard := some (17, false) }) (v := undef) rfl (by kernel_rfl) (by kernel_rfl) (by kernel_rfl) (fun _ _ _ h => h) (Or.inr ⟨by rfl, rfl⟩) (SK.out _ tV) ?_
          simp only [Act.put, List.setIfInBounds_toArray, List.set_cons_zero, List.set_cons_succ]
          refine wpAnyH_take (i := 19) (oi := { dst := some 27, op := Op.binOp BinOp.gtr 3 (Operand.tmp 26) (Operand.const (Value.int IntKind.i64 0)) 3, type := 4, pos := "ref.go:94", after := #[{ on := 18, ground := Ground.data }, { on := 17, ground := Ground.guard }], guard := some (17, false) }) (v := undef) rfl (by kernel_rfl) (by kernel_rfl) (by kernel_rfl) (fun _ _ _ h => h) (Or.inr ⟨by rfl, rfl⟩) (SK.out _ tV) ?_
          simp only [Act.put, List.setIfInBounds_toArray, List.set_cons_zero, List.set_cons_succ]
          refine wpAnyH_take (i := 20) (oi := { dst := some 28, op := Op.move (Operand.tmp 27), type := 4, pos := "ref.go:94", after := #[{ on := 19, ground := Ground.data }, { on := 17, ground := Ground.chain }, { on := 17, ground := Ground.guard }], guard := some (17, false) }) (v := undef) rfl (by kernel_rfl) (by kernel_rfl) (by kernel_rfl) (fun _ _ _ h => h) (Or.inr ⟨by rfl, rfl⟩) (SK.out _ tV) ?_
          simp only [Act.put, List.setIfInBounds_toArray, List.set_cons_zero, List.set_cons_succ]
          refine wpAnyH_take (i := 21) (oi := { dst := some 29, op := Op.move (Operand.tmp 0), type := 50, pos := "ref.go:94", after := #[{ on := 20, ground := Ground.guard }], guard := some (20, true) }) (v := undef) rfl (by kernel_rfl) (by kernel_rfl) (by kernel_rfl) (fun _ _ _ h => h) (Or.inr ⟨by rfl, rfl⟩) (SK.out _ tV) ?_
          simp only [Act.put, List.setIfInBounds_toArray, List.set_cons_zero, List.set_cons_succ]
          refine wpAnyH_take (i := 22) (oi := { dst := some 30, op := Op.move (Operand.tmp 7), type := 3, pos := "ref.go:94", after := #[{ on := 20, ground := Ground.guard }], guard := some (20, true) }) (v := undef) rfl (by kernel_rfl) (by kernel_rfl) (by kernel_rfl) (fun _ _ _ h => h) (Or.inr ⟨by rfl, rfl⟩) (SK.out _ tV) ?_
          simp only [Act.put, List.setIfInBounds_toArray, List.set_cons_zero, List.set_cons_succ]
          refine wpAnyH_take (i := 23) (oi := { dst := some 31, op := Op.indexAddr 50 (Operand.tmp 29) (Operand.tmp 30), type := 0, pos := "ref.go:94", after := #[{ on := 21, ground := Ground.data }, { on := 22, ground := Ground.data }, { on := 20, ground := Ground.guard }], guard := some (20, true) }) (v := undef) rfl (by kernel_rfl) (by kernel_rfl) (by kernel_rfl) (fun _ _ _ h => h) (Or.inr ⟨by rfl, rfl⟩) (SK.out _ tV) ?_
          simp only [Act.put, List.setIfInBounds_toArray, List.set_cons_zero, List.set_cons_succ]
          refine wpAnyH_take (i := 24) (oi := { dst := some 32, op := Op.fieldAddr 37 (Operand.tmp 31) 2, type := 0, pos := "ref.go:94", after := #[{ on := 23, ground := Ground.data }, { on := 20, ground := Ground.guard }], guard := some (20, true) }) (v := undef) rfl (by kernel_rfl) (by kernel_rfl) (by kernel_rfl) (fun _ _ _ h => h) (Or.inr ⟨by rfl, rfl⟩) (SK.out _ tV) ?_
          simp only [Act.put, List.setIfInBounds_toArray, List.set_cons_zero, List.set_cons_succ]
          refine wpAnyH_take (i := 25) (oi := { dst := some 33, op := Op.load 35 (Operand.tmp 32), type := 35, pos := "ref.go:94", after := #[{ on := 24, ground := Ground.data }, { on := 20, ground := Ground.guard }], guard := some (20, true) }) (v := undef) rfl (by kernel_rfl) (by kernel_rfl) (by kernel_rfl) (fun _ _ _ h => h) (Or.inr ⟨by rfl, rfl⟩) (SK.out _ tV) ?_
          simp only [Act.put, List.setIfInBounds_toArray, List.set_cons_zero, List.set_cons_succ]
          refine wpAnyH_take (i := 26) (oi := { dst := some 34, op := Op.fieldAddr 37 (Operand.tmp 4) 2, type := 0, pos := "ref.go:94", after := #[{ on := 20, ground := Ground.guard }], guard := some (20, true) }) (v := undef) rfl (by kernel_rfl) (by kernel_rfl) (by kernel_rfl) (fun _ _ _ h => h) (Or.inr ⟨by rfl, rfl⟩) (SK.out _ tV) ?_
          simp only [Act.put, List.setIfInBounds_toArray, List.set_cons_zero, List.set_cons_succ]
          refine wpAnyH_take (i := 27) (oi := { dst := some 35, op := Op.load 35 (Operand.tmp 34), type := 35, pos := "ref.go:94", after := #[{ on := 26, ground := Ground.data }, { on := 20, ground := Ground.guard }], guard := some (20, true) }) (v := undef) rfl (by kernel_rfl) (by kernel_rfl) (by kernel_rfl) (fun _ _ _ h => h) (Or.inr ⟨by rfl, rfl⟩) (SK.out _ tV) ?_
          simp only [Act.put, List.setIfInBounds_toArray, List.set_cons_zero, List.set_cons_succ]
          refine wpAnyH_take (i := 28) (oi := { dst := some 36, op := Op.call { callee := Callee.value (Operand.func 48), args := #[Operand.tmp 33, Operand.tmp 35], argTypes := #[35, 35] }, type := 4, pos := "ref.go:94", after := #[{ on := 25, ground := Ground.data }, { on := 27, ground := Ground.data }, { on := 20, ground := Ground.chain }, { on := 20, ground := Ground.guard }], guard := some (20, true) }) (v := undef) rfl (by kernel_rfl) (by kernel_rfl) (by kernel_rfl) (fun _ _ _ h => h) (Or.inr ⟨by rfl, rfl⟩) (SK.out _ tV) ?_
          simp only [Act.put, List.setIfInBounds_toArray, List.set_cons_zero, List.set_cons_succ]
          refine wpAnyH_take (i := 29) (oi := { dst := some 37, op := Op.pick (Operand.tmp 28) (Operand.tmp 36) (Operand.const (Value.bool false)), type := 4, pos := "ref.go:94", after := #[{ on := 20, ground := Ground.data }, { on := 28, ground := Ground.data }, { on := 17, ground := Ground.guard }], guard := some (17, false) }) (v := undef) rfl (by kernel_rfl) (by kernel_rfl) (by kernel_rfl) (fun _ _ _ h => h) (Or.inr ⟨by rfl, rfl⟩) (SK.out _ tV) ?_
          simp only [Act.put, List.setIfInBounds_toArray, List.set_cons_zero, List.set_cons_succ]
          refine wpAnyH_take (i := 30) (oi := { dst := some 38, op := Op.pick (Operand.tmp 25) (Operand.const (Value.bool true)) (Operand.tmp 37), type := 4, pos := "ref.go:94", after := #[{ on := 17, ground := Ground.data }, { on := 29, ground := Ground.data }, { on := 4, ground := Ground.guard }], guard := some (4, true) }) (v := .bool true) rfl (by kernel_rfl) (by kernel_rfl) (by kernel_rfl) (fun _ _ _ h => h) (Or.inl ⟨by rfl, ?_⟩) (SK.out _ tV) ?_
          · rintro w ⟨d0, d2, e0, e2⟩
            go_simp
          simp only [Act.put, List.setIfInBounds_toArray, List.set_cons_zero, List.set_cons_succ]
          refine wpAnyH_take (i := 31) (oi := { dst := some 39, op := Op.pick (Operand.tmp 12) (Operand.tmp 38) (Operand.const (Value.bool false)), type := 4, pos := "ref.go:94", after := #[{ on := 4, ground := Ground.data }, { on := 30, ground := Ground.data }], guard := none }) (v := .bool true) rfl (by kernel_rfl) (by kernel_rfl) (by kernel_rfl) (fun _ _ _ h => h) (Or.inl ⟨by rfl, ?_⟩) (SK.out _ tV) ?_
          · rintro w ⟨d0, d2, e0, e2⟩
            go_simp
          simp only [Act.put, List.setIfInBounds_toArray, List.set_cons_zero, List.set_cons_succ]
          refine wpAnyH_done (by kernel_rfl) ?_ _
          have TU := hide tV
          clear tV
          go_wp2_with fail
          go_roundw
          case rel =>
            refine ⟨k + 1, by go_num, by have := HKN.out; omega, ?_, HB0.out.trans TU.out⟩
            rw [HTK.out]
            intro x' hx'
            rcases List.mem_append.1 hx' with h | h
            · exact HLTS.out x' h
            · rw [List.mem_singleton.1 h]; exact HC.out
          case measure => have := HKN.out; simp [intOf]; omega
        · have HLT := hide (show no ≤ no2 by omega)
          have HC := hide (show ¬ cmpF 0 x.f ⟨no, sz, ls, ms, en, sq⟩ < 0 by rw [HCF.out, if_pos rfl]; unfold cmpN; rw [if_neg hno]; split <;> omega)
          clear hno
          go_upto_region 2 with (fail)
          refine wp_region_held_drew (S := fun u => u.cell? ⟨G, 0, none⟩ = some (.int .u64 (no : Nat)) ∧ u.cell? ⟨G, 2, none⟩ = some (.slice la L1 lc) ∧ u.cell? ⟨b, off + k * 6, none⟩ = some (.int .u64 (no2 : Nat)) ∧ u.cell? ⟨b, off + k * 6 + 2, none⟩ = some (.slice la2 L3 lc2)) (by kernel_rfl) (SK.out _ tV) (fun _ => ?_)
          change wpAnyH _ _ _ _ _ 32 (Array.replicate 32 false) _ _
          refine wpAnyH_take (i := 0) (oi := { dst := some 8, op := Op.move (Operand.tmp 7), type := 3, pos := "ref.go:94", after := #[], guard := none }) (v := .int .i64 ((k : Nat) : Int)) rfl (by kernel_rfl) (by kernel_rfl) (by kernel_rfl) (fun _ _ _ h => h) (Or.inl ⟨by rfl, ?_⟩) (SK.out _ tV) ?_
          · rintro w ⟨d0, d2, e0, e2⟩
            go_simp
          simp only [Act.put, List.setIfInBounds_toArray, List.set_cons_zero, List.set_cons_succ]
          refine wpAnyH_take (i := 1) (oi := { dst := some 9, op := Op.move (Operand.tmp 0), type := 50, pos := "ref.go:94", after := #[], guard := none }) (v := .slice (some ⟨b, off, none⟩) n c) rfl (by kernel_rfl) (by kernel_rfl) (by kernel_rfl) (fun _ _ _ h => h) (Or.inl ⟨by rfl, ?_⟩) (SK.out _ tV) ?_
          · rintro w ⟨d0, d2, e0, e2⟩
            go_simp
          simp only [Act.put, List.setIfInBounds_toArray, List.set_cons_zero, List.set_cons_succ]
          refine wpAnyH_take (i := 2) (oi := { dst := some 10, op := Op.call { callee := Callee.builtin Builtin.len, args := #[Operand.tmp 9], argTypes := #[50] }, type := 3, pos := "ref.go:94", after := #[{ on := 1, ground := Ground.data }], guard := none }) (v := .int .i64 ((n : Nat) : Int)) rfl (by kernel_rfl) (by kernel_rfl) (by kernel_rfl) (fun _ _ _ h => h) (Or.inl ⟨by rfl, ?_⟩) (SK.out _ tV) ?_
          · rintro w ⟨d0, d2, e0, e2⟩
            go_simp
          simp only [Act.put, List.setIfInBounds_toArray, List.set_cons_zero, List.set_cons_succ]
          refine wpAnyH_take (i := 3) (oi := { dst := some 11, op := Op.binOp BinOp.lss 3 (Operand.tmp 8) (Operand.tmp 10) 3, type := 4, pos := "ref.go:94", after := #[{ on := 0, ground := Ground.data }, { on := 2, ground := Ground.data }], guard := none }) (v := .bool true) rfl (by kernel_rfl) (by kernel_rfl) (by kernel_rfl) (fun _ _ _ h => h) (Or.inl ⟨by rfl, ?_⟩) (SK.out _ tV) ?_
          · rintro w ⟨d0, d2, e0, e2⟩
            go_simp; exact HKN.out
          simp only [Act.put, List.setIfInBounds_toArray, List.set_cons_zero, List.set_cons_succ]
          refine wpAnyH_take (i := 4) (oi := { dst := some 12, op := Op.move (Operand.tmp 11), type := 4, pos := "ref.go:94", after := #[{ on := 3, ground := Ground.data }], guard := none }) (v := .bool true) rfl (by kernel_rfl) (by kernel_rfl) (by kernel_rfl) (fun _ _ _ h => h) (Or.inl ⟨by rfl, ?_⟩) (SK.out _ tV) ?_
          · rintro w ⟨d0, d2, e0, e2⟩
            go_simp
          simp only [Act.put, List.setIfInBounds_toArray, List.set_cons_zero, List.set_cons_succ]
          refine wpAnyH_take (i := 5) (oi := { dst := some 13, op := Op.move (Operand.tmp 2), type := 3, pos := "ref.go:94", after := #[{ on := 4, ground := Ground.guard }], guard := some (4, true) }) (v := .int .i64 0) rfl (by kernel_rfl) (by kernel_rfl) (by kernel_rfl) (fun _ _ _ h => h) (Or.inl ⟨by rfl, ?_⟩) (SK.out _ tV) ?_
          · rintro w ⟨d0, d2, e0, e2⟩
            go_simp
          simp only [Act.put, List.setIfInBounds_toArray, List.set_cons_zero, List.set_cons_succ]
          refine wpAnyH_take (i := 6) (oi := { dst := some 14, op := Op.binOp BinOp.eql 3 (Operand.tmp 13) (Operand.const (Value.int IntKind.i64 0)) 3, type := 4, pos := "ref.go:94", after := #[{ on := 5, ground := Ground.data }, { on := 4, ground := Ground.guard }], guard := some (4, true) }) (v := .bool true) rfl (by kernel_rfl) (by kernel_rfl) (by kernel_rfl) (fun _ _ _ h => h) (Or.inl ⟨by rfl, ?_⟩) (SK.out _ tV) ?_
          · rintro w ⟨d0, d2, e0, e2⟩
            go_simp
          simp only [Act.put, List.setIfInBounds_toArray, List.set_cons_zero, List.set_cons_succ]
          refine wpAnyH_take (i := 7) (oi := { dst := some 15, op := Op.move (Operand.tmp 14), type := 4, pos := "ref.go:94", after := #[{ on := 6, ground := Ground.data }, { on := 4, ground := Ground.chain }, { on := 4, ground := Ground.guard }], guard := some (4, true) }) (v := .bool true) rfl (by kernel_rfl) (by kernel_rfl) (by kernel_rfl) (fun _ _ _ h => h) (Or.inl ⟨by rfl, ?_⟩) (SK.out _ tV) ?_
          · rintro w ⟨d0, d2, e0, e2⟩
            go_simp
          simp only [Act.put, List.setIfInBounds_toArray, List.set_cons_zero, List.set_cons_succ]
          refine wpAnyH_take (i := 8) (oi := { dst := some 16, op := Op.move (Operand.tmp 0), type := 50, pos := "ref.go:94", after := #[{ on := 7, ground := Ground.guard }], guard := some (7, true) }) (v := .slice (some ⟨b, off, none⟩) n c) rfl (by kernel_rfl) (by kernel_rfl) (by kernel_rfl) (fun _ _ _ h => h) (Or.inl ⟨by rfl, ?_⟩) (SK.out _ tV) ?_
          · rintro w ⟨d0, d2, e0, e2⟩
            go_simp
          simp only [Act.put, List.setIfInBounds_toArray, List.set_cons_zero, List.set_cons_succ]
          refine wpAnyH_take (i := 9) (oi := { dst := some 17, op := Op.move (Operand.tmp 7), type := 3, pos := "ref.go:94", after := #[{ on := 7, ground := Ground.guard }], guard := some (7, true) }) (v := .int .i64 ((k : Nat) : Int)) rfl (by kernel_rfl) (by kernel_rfl) (by kernel_rfl) (fun _ _ _ h => h) (Or.inl ⟨by rfl, ?_⟩) (SK.out _ tV) ?_
          · rintro w ⟨d0, d2, e0, e2⟩
            go_simp
          simp only [Act.put, List.setIfInBounds_toArray, List.set_cons_zero, List.set_cons_succ]
          refine wpAnyH_take (i := 10) (oi := { dst := some 18, op := Op.indexAddr 50 (Operand.tmp 16) (Operand.tmp 17), type := 0, pos := "ref.go:94", after := #[{ on := 8, ground := Ground.data }, { on := 9, ground := Ground.data }, { on := 7, ground := Ground.guard }], guard := some (7, true) }) (v := .pointer (some ⟨b, off + k * 6, none⟩)) rfl (by kernel_rfl) (by kernel_rfl) (by kernel_rfl) (fun _ _ _ h => h) (Or.inl ⟨by rfl, ?_⟩) (SK.out _ tV) ?_
          · rintro w ⟨d0, d2, e0, e2⟩
            go_simp; exact fun h => absurd h HKL.out
          simp only [Act.put, List.setIfInBounds_toArray, List.set_cons_zero, List.set_cons_succ]
          refine wpAnyH_take (i := 11) (oi := { dst := some 19, op := Op.fieldAddr 37 (Operand.tmp 18) 0, type := 0, pos := "ref.go:94", after := #[{ on := 10, ground := Ground.data }, { on := 7, ground := Ground.guard }], guard := some (7, true) }) (v := .pointer (some ⟨b, off + k * 6, none⟩)) rfl (by kernel_rfl) (by kernel_rfl) (by kernel_rfl) (fun _ _ _ h => h) (Or.inl ⟨by rfl, ?_⟩) (SK.out _ tV) ?_
          · rintro w ⟨d0, d2, e0, e2⟩
            go_simp
          simp only [Act.put, List.setIfInBounds_toArray, List.set_cons_zero, List.set_cons_succ]
          refine wpAnyH_take (i := 12) (oi := { dst := some 20, op := Op.load 23 (Operand.tmp 19), type := 23, pos := "ref.go:94", after := #[{ on := 11, ground := Ground.data }, { on := 7, ground := Ground.guard }], guard := some (7, true) }) (v := .int .u64 (no2 : Nat)) rfl (by kernel_rfl) (by kernel_rfl) (by kernel_rfl) (fun _ _ _ h => h) (Or.inl ⟨by rfl, ?_⟩) (SK.out _ tV) ?_
          · rintro w ⟨d0, d2, e0, e2⟩
            go_simp
          simp only [Act.put, List.setIfInBounds_toArray, List.set_cons_zero, List.set_cons_succ]
          refine wpAnyH_take (i := 13) (oi := { dst := some 21, op := Op.fieldAddr 37 (Operand.tmp 4) 0, type := 0, pos := "ref.go:94", after := #[{ on := 7, ground := Ground.guard }], guard := some (7, true) }) (v := .pointer (some ⟨G, 0, none⟩)) rfl (by kernel_rfl) (by kernel_rfl) (by kernel_rfl) (fun _ _ _ h => h) (Or.inl ⟨by rfl, ?_⟩) (SK.out _ tV) ?_
          · rintro w ⟨d0, d2, e0, e2⟩
            go_simp
          simp only [Act.put, List.setIfInBounds_toArray, List.set_cons_zero, List.set_cons_succ]
          refine wpAnyH_take (i := 14) (oi := { dst := some 22, op := Op.load 23 (Operand.tmp 21), type := 23, pos := "ref.go:94", after := #[{ on := 13, ground := Ground.data }, { on := 7, ground := Ground.guard }], guard := some (7, true) }) (v := .int .u64 (no : Nat)) rfl (by kernel_rfl) (by kernel_rfl) (by kernel_rfl) (fun _ _ _ h => h) (Or.inl ⟨by rfl, ?_⟩) (SK.out _ tV) ?_
          · rintro w ⟨d0, d2, e0, e2⟩
            go_simp
          simp only [Act.put, List.setIfInBounds_toArray, List.set_cons_zero, List.set_cons_succ]
          refine wpAnyH_take (i := 15) (oi := { dst := some 23, op := Op.binOp BinOp.lss 23 (Operand.tmp 20) (Operand.tmp 22) 23, type := 4, pos := "ref.go:94", after := #[{ on := 12, ground := Ground.data }, { on := 14, ground := Ground.data }, { on := 7, ground := Ground.guard }], guard := some (7, true) }) (v := .bool false) rfl (by kernel_rfl) (by kernel_rfl) (by kernel_rfl) (fun _ _ _ h => h) (Or.inl ⟨by rfl, ?_⟩) (SK.out _ tV) ?_
          · rintro w ⟨d0, d2, e0, e2⟩
            go_simp; exact HLT.out
          simp only [Act.put, List.setIfInBounds_toArray, List.set_cons_zero, List.set_cons_succ]
          refine wpAnyH_take (i := 16) (oi := { dst := some 24, op := Op.pick (Operand.tmp 15) (Operand.tmp 23) (Operand.const (Value.bool false)), type := 4, pos := "ref.go:94", after := #[{ on := 7, ground := Ground.data }, { on := 15, ground := Ground.data }, { on := 4, ground := Ground.guard }], guard := some (4, true) }) (v := .bool false) rfl (by kernel_rfl) (by kernel_rfl) (by kernel_rfl) (fun _ _ _ h => h) (Or.inl ⟨by rfl, ?_⟩) (SK.out _ tV) ?_
          · rintro w ⟨d0, d2, e0, e2⟩
            go_simp
          simp only [Act.put, List.setIfInBounds_toArray, List.set_cons_zero, List.set_cons_succ]
          refine wpAnyH_take (i := 17) (oi := { dst := some 25, op := Op.move (Operand.tmp 24), type := 4, pos := "ref.go:94", after := #[{ on := 16, ground := Ground.data }, { on := 7, ground := Ground.chain }, { on := 4, ground := Ground.guard }], guard := some (4, true) }) (v := .bool false) rfl (by kernel_rfl) (by kernel_rfl) (by kernel_rfl) (fun _ _ _ h => h) (Or.inl ⟨by rfl, ?_⟩) (SK.out _ tV) ?_
          · rintro w ⟨d0, d2, e0, e2⟩
            go_simp
          simp only [Act.put, List.setIfInBounds_toArray, List.set_cons_zero, List.set_cons_succ]
          refine wpAnyH_take (i := 18) (oi := { dst := some 26, op := Op.move (Operand.tmp 2), type := 3, pos := "ref.go:94", after := #[{ on := 17, ground := Ground.guard }], guard := some (17, false) }) (v := .int .i64 0) rfl (by kernel_rfl) (by kernel_rfl) (by kernel_rfl) (fun _ _ _ h => h) (Or.inl ⟨by rfl, ?_⟩) (SK.out _ tV) ?_
          · rintro w ⟨d0, d2, e0, e2⟩
            go_simp
          simp only [Act.put, List.setIfInBounds_toArray, List.set_cons_zero, List.set_cons_succ]
          refine wpAnyH_take (i := 19) (oi := { dst := some 27, op := Op.binOp BinOp.gtr 3 (Operand.tmp 26) (Operand.const (Value.int IntKind.i64 0)) 3, type := 4, pos := "ref.go:94", after := #[{ on := 18, ground := Ground.data }, { on := 17, ground := Ground.guard }], guard := some (17, false) }) (v := .bool false) rfl (by kernel_rfl) (by kernel_rfl) (by kernel_rfl) (fun _ _ _ h => h) (Or.inl ⟨by rfl, ?_⟩) (SK.out _ tV) ?_
          · rintro w ⟨d0, d2, e0, e2⟩
            go_simp
          simp only [Act.put, List.setIfInBounds_toArray, List.set_cons_zero, List.set_cons_succ]
          refine wpAnyH_take (i := 20) (oi := { dst := some 28, op := Op.move (Operand.tmp 27), type := 4, pos := "ref.go:94", after := #[{ on := 19, ground := Ground.data }, { on := 17, ground := Ground.chain }, { on := 17, ground := Ground.guard }], guard := some (17, false) }) (v := .bool false) rfl (by kernel_rfl) (by kernel_rfl) (by kernel_rfl) (fun _ _ _ h => h) (Or.inl ⟨by rfl, ?_⟩) (SK.out _ tV) ?_
          · rintro w ⟨d0, d2, e0, e2⟩
            go_simp
          simp only [Act.put, List.setIfInBounds_toArray, List.set_cons_zero, List.set_cons_succ]
          refine wpAnyH_take (i := 21) (oi := { dst := some 29, op := Op.move (Operand.tmp 0), type := 50, pos := "ref.go:94", after := #[{ on := 20, ground := Ground.guard }], guard := some (20, true) }) (v := undef) rfl (by kernel_rfl) (by kernel_rfl) (by kernel_rfl) (fun _ _ _ h => h) (Or.inr ⟨by rfl, rfl⟩) (SK.out _ tV) ?_
          simp only [Act.put, List.setIfInBounds_toArray, List.set_cons_zero, List.set_cons_succ]
          refine wpAnyH_take (i := 22) (oi := { dst := some 30, op := Op.move (Operand.tmp 7), type := 3, pos := "ref.go:94", after := #[{ on := 20, ground := Ground.guard }], guard := some (20, true) }) (v := undef) rfl (by kernel_rfl) (by kernel_rfl) (by kernel_rfl) (fun _ _ _ h => h) (Or.inr ⟨by rfl, rfl⟩) (SK.out _ tV) ?_
          simp only [Act.put, List.setIfInBounds_toArray, List.set_cons_zero, List.set_cons_succ]
          refine wpAnyH_take (i := 23) (oi := { dst := some 31, op := Op.indexAddr 50 (Operand.tmp 29) (Operand.tmp 30), type := 0, pos := "ref.go:94", after := #[{ on := 21, ground := Ground.data }, { on := 22, ground := Ground.data }, { on := 20, ground := Ground.guard }], guard := some (20, true) }) (v := undef) rfl (by kernel_rfl) (by kernel_rfl) (by kernel_rfl) (fun _ _ _ h => h) (Or.inr ⟨by rfl, rfl⟩) (SK.out _ tV) ?_
          simp only [Act.put, List.setIfInBounds_toArray, List.set_cons_zero, List.set_cons_succ]
          refine wpAnyH_take (i := 24) (oi := { dst := some 32, op := Op.fieldAddr 37 (Operand.tmp 31) 2, type := 0, pos := "ref.go:94", after := #[{ on := 23, ground := Ground.data }, { on := 20, ground := Ground.guard }], guard := some (20, true) }) (v := undef) rfl (by kernel_rfl) (by kernel_rfl) (by kernel_rfl) (fun _ _ _ h => h) (Or.inr ⟨by rfl, rfl⟩) (SK.out _ tV) ?_
          simp only [Act.put, List.setIfInBounds_toArray, List.set_cons_zero, List.set_cons_succ]
          refine wpAnyH_take (i := 25) (oi := { dst := some 33, op := Op.load 35 (Operand.tmp 32), type := 35, pos := "ref.go:94", after := #[{ on := 24, ground := Ground.data }, { on := 20, ground := Ground.guard }], guard := some (20, true) }) (v := undef) rfl (by kernel_rfl) (by kernel_rfl) (by kernel_rfl) (fun _ _ _ h => h) (Or.inr ⟨by rfl, rfl⟩) (SK.out _ tV) ?_
          simp only [Act.put, List.setIfInBounds_toArray, List.set_cons_zero, List.set_cons_succ]
          refine wpAnyH_take (i := 26) (oi := { dst := some 34, op := Op.fieldAddr 37 (Operand.tmp 4) 2, type := 0, pos := "ref.go:94", after := #[{ on := 20, ground := Ground.guard }], guard := some (20, true) }) (v := undef) rfl (by kernel_rfl) (by kernel_rfl) (by kernel_rfl) (fun _ _ _ h => h) (Or.inr ⟨by rfl, rfl⟩) (SK.out _ tV) ?_
          simp only [Act.put, List.setIfInBounds_toArray, List.set_cons_zero, List.set_cons_succ]
          refine wpAnyH_take (i := 27) (oi := { dst := some 35, op := Op.load 35 (Operand.tmp 34), type := 35, pos := "ref.go:94", after := #[{ on := 26, ground := Ground.data }, { on := 20, ground := Ground.guard }], guard := some (20, true) }) (v := undef) rfl (by kernel_rfl) (by kernel_rfl) (by kernel_rfl) (fun _ _ _ h => h) (Or.inr ⟨by rfl, rfl⟩) (SK.out _ tV) ?_
          simp only [Act.put, List.setIfInBounds_toArray, List.set_cons_zero, List.set_cons_succ]
          refine wpAnyH_take (i := 28) (oi := { dst := some 36, op := Op.call { callee := Callee.value (Operand.func 48), args := #[Operand.tmp 33, Operand.tmp 35], argTypes := #[35, 35] }, type := 4, pos := "ref.go:94", after := #[{ on := 25, ground := Ground.data }, { on := 27, ground := Ground.data }, { on := 20, ground := Ground.chain }, { on := 20, ground := Ground.guard }], guard := some (20, true) }) (v := undef) rfl (by kernel_rfl) (by kernel_rfl) (by kernel_rfl) (fun _ _ _ h => h) (Or.inr ⟨by rfl, rfl⟩) (SK.out _ tV) ?_
          simp only [Act.put, List.setIfInBounds_toArray, List.set_cons_zero, List.set_cons_succ]
          refine wpAnyH_take (i := 29) (oi := { dst := some 37, op := Op.pick (Operand.tmp 28) (Operand.tmp 36) (Operand.const (Value.bool false)), type := 4, pos := "ref.go:94", after := #[{ on := 20, ground := Ground.data }, { on := 28, ground := Ground.data }, { on := 17, ground := Ground.guard }], guard := some (17, false) }) (v := .bool false) rfl (by kernel_rfl) (by kernel_rfl) (by kernel_rfl) (fun _ _ _ h => h) (Or.inl ⟨by rfl, ?_⟩) (SK.out _ tV) ?_
          · rintro w ⟨d0, d2, e0, e2⟩
            go_simp
          simp only [Act.put, List.setIfInBounds_toArray, List.set_cons_zero, List.set_cons_succ]
          refine wpAnyH_take (i := 30) (oi := { dst := some 38, op := Op.pick (Operand.tmp 25) (Operand.const (Value.bool true)) (Operand.tmp 37), type := 4, pos := "ref.go:94", after := #[{ on := 17, ground := Ground.data }, { on := 29, ground := Ground.data }, { on := 4, ground := Ground.guard }], guard := some (4, true) }) (v := .bool false) rfl (by kernel_rfl) (by kernel_rfl) (by kernel_rfl) (fun _ _ _ h => h) (Or.inl ⟨by rfl, ?_⟩) (SK.out _ tV) ?_
          · rintro w ⟨d0, d2, e0, e2⟩
            go_simp
          simp only [Act.put, List.setIfInBounds_toArray, List.set_cons_zero, List.set_cons_succ]
          refine wpAnyH_take (i := 31) (oi := { dst := some 39, op := Op.pick (Operand.tmp 12) (Operand.tmp 38) (Operand.const (Value.bool false)), type := 4, pos := "ref.go:94", after := #[{ on := 4, ground := Ground.data }, { on := 30, ground := Ground.data }], guard := none }) (v := .bool false) rfl (by kernel_rfl) (by kernel_rfl) (by kernel_rfl) (fun _ _ _ h => h) (Or.inl ⟨by rfl, ?_⟩) (SK.out _ tV) ?_
          · rintro w ⟨d0, d2, e0, e2⟩
            go_simp
          simp only [Act.put, List.setIfInBounds_toArray, List.set_cons_zero, List.set_cons_succ]
          refine wpAnyH_done (by kernel_rfl) ?_ _
          have TU := hide tV
          clear tV
          have HCK := hide (show ¬ c < k by have := HNC.out; have := HKN.out; omega)
          have HCN := hide (show ¬ c = k by have := HNC.out; have := HKN.out; omega)
          have HP2 := hide (show ∀ x', l[k]? = some x' → ¬ cmpF 0 x'.f ⟨no, sz, ls, ms, en, sq⟩ < 0 from fun x' hx' => by rw [HX.out] at hx'; cases hx'; exact HC.out)
          go_upto_region 4 with (fail)
          have SK4 := hide (fun (u : World) (t : Turns (fun j => w0.heap.size ≤ j) w0 u) => show (fun u => u.cell? ⟨G, 0, none⟩ = some (.int .u64 (no : Nat)) ∧ u.cell? ⟨G, 1, none⟩ = some (.int .i64 sz) ∧ u.cell? ⟨G, 2, none⟩ = some (.slice la L1 lc) ∧ u.cell? ⟨G, 3, none⟩ = some (.slice ma L2 mc) ∧ u.cell? ⟨G, 4, none⟩ = some (.int .i64 en) ∧ u.cell? ⟨G, 5, none⟩ = some (.int .u64 (sq : Nat))) u from ⟨cell_of_row u G 0 _ 37 (0, 0) ((turns_new t).heap R0.out (fun x => x)), cell_of_row u G 1 _ 37 (0, 0) ((turns_new t).heap R0.out (fun x => x)), cell_of_row u G 2 _ 37 (0, 0) ((turns_new t).heap R0.out (fun x => x)), cell_of_row u G 3 _ 37 (0, 0) ((turns_new t).heap R0.out (fun x => x)), cell_of_row u G 4 _ 37 (0, 0) ((turns_new t).heap R0.out (fun x => x)), cell_of_row u G 5 _ 37 (0, 0) ((turns_new t).heap R0.out (fun x => x))⟩)
          have tV : Turns (fun j => w0.heap.size ≤ j) w0 _ := ((HB0.out.trans TU.out).drew).mono fun _ _ (x : False) => x.elim
          refine wp_region_held_drew (S := fun u => u.cell? ⟨G, 0, none⟩ = some (.int .u64 (no : Nat)) ∧ u.cell? ⟨G, 1, none⟩ = some (.int .i64 sz) ∧ u.cell? ⟨G, 2, none⟩ = some (.slice la L1 lc) ∧ u.cell? ⟨G, 3, none⟩ = some (.slice ma L2 mc) ∧ u.cell? ⟨G, 4, none⟩ = some (.int .i64 en) ∧ u.cell? ⟨G, 5, none⟩ = some (.int .u64 (sq : Nat))) (by kernel_rfl) (SK4.out _ tV) (fun _ => ?_)
          change wpAnyH _ _ _ _ _ 13 (Array.replicate 13 false) _ _
          refine wpAnyH_take (i := 1) (oi := { dst := some 43, op := Op.move (Operand.tmp 0), type := 50, pos := "ref.go:97", after := #[], guard := none }) (v := .slice (some ⟨b, off, none⟩) n c) rfl (by kernel_rfl) (by kernel_rfl) (by kernel_rfl) (fun _ _ _ h => h) (Or.inl ⟨by rfl, ?_⟩) (SK4.out _ tV) ?_
          · rintro w ⟨d0, d1, d2, d3, d4, d5⟩
            go_simp
          simp only [Act.put, List.setIfInBounds_toArray, List.set_cons_zero, List.set_cons_succ]
          refine wpAnyH_take (i := 2) (oi := { dst := some 44, op := Op.move (Operand.tmp 7), type := 3, pos := "ref.go:97", after := #[], guard := none }) (v := .int .i64 ((k : Nat) : Int)) rfl (by kernel_rfl) (by kernel_rfl) (by kernel_rfl) (fun _ _ _ h => h) (Or.inl ⟨by rfl, ?_⟩) (SK4.out _ tV) ?_
          · rintro w ⟨d0, d1, d2, d3, d4, d5⟩
            go_simp
          simp only [Act.put, List.setIfInBounds_toArray, List.set_cons_zero, List.set_cons_succ]
          refine wpAnyH_take (i := 3) (oi := { dst := some 45, op := Op.slice 50 (Operand.tmp 43) none (some (Operand.tmp 44)) none, type := 50, pos := "ref.go:97", after := #[{ on := 1, ground := Ground.data }, { on := 2, ground := Ground.data }], guard := none }) (v := .slice (some ⟨b, off, none⟩) k c) rfl (by kernel_rfl) (by kernel_rfl) (by kernel_rfl) (fun _ _ _ h => h) (Or.inl ⟨by rfl, ?_⟩) (SK4.out _ tV) ?_
          · rintro w ⟨d0, d1, d2, d3, d4, d5⟩
            go_simp; exact fun h => absurd h HCK.out
          simp only [Act.put, List.setIfInBounds_toArray, List.set_cons_zero, List.set_cons_succ]
          refine wpAnyH_take (i := 5) (oi := { dst := some 47, op := Op.load 37 (Operand.tmp 4), type := 37, pos := "ref.go:97", after := #[], guard := none }) (v := .agg #[.int .u64 (no : Nat), .int .i64 sz, .slice la L1 lc, .slice ma L2 mc, .int .i64 en, .int .u64 (sq : Nat)]) rfl (by kernel_rfl) (by kernel_rfl) (by kernel_rfl) (fun _ _ _ h => h) (Or.inl ⟨by rfl, ?_⟩) (SK4.out _ tV) ?_
          · rintro w ⟨d0, d1, d2, d3, d4, d5⟩
            go_simp
          simp only [Act.put, List.setIfInBounds_toArray, List.set_cons_zero, List.set_cons_succ]
          refine wpAnyH_take (i := 8) (oi := { dst := some 50, op := Op.move (Operand.tmp 0), type := 50, pos := "ref.go:97", after := #[], guard := none }) (v := .slice (some ⟨b, off, none⟩) n c) rfl (by kernel_rfl) (by kernel_rfl) (by kernel_rfl) (fun _ _ _ h => h) (Or.inl ⟨by rfl, ?_⟩) (SK4.out _ tV) ?_
          · rintro w ⟨d0, d1, d2, d3, d4, d5⟩
            go_simp
          simp only [Act.put, List.setIfInBounds_toArray, List.set_cons_zero, List.set_cons_succ]
          refine wpAnyH_take (i := 9) (oi := { dst := some 51, op := Op.move (Operand.tmp 7), type := 3, pos := "ref.go:97", after := #[], guard := none }) (v := .int .i64 ((k : Nat) : Int)) rfl (by kernel_rfl) (by kernel_rfl) (by kernel_rfl) (fun _ _ _ h => h) (Or.inl ⟨by rfl, ?_⟩) (SK4.out _ tV) ?_
          · rintro w ⟨d0, d1, d2, d3, d4, d5⟩
            go_simp
          simp only [Act.put, List.setIfInBounds_toArray, List.set_cons_zero, List.set_cons_succ]
          refine wpAnyH_take (i := 10) (oi := { dst := some 52, op := Op.slice 50 (Operand.tmp 50) (some (Operand.tmp 51)) none none, type := 50, pos := "ref.go:97", after := #[{ on := 8, ground := Ground.data }, { on := 9, ground := Ground.data }], guard := none }) (v := .slice (some ⟨b, off + k * 6, none⟩) (n - k) (c - k)) rfl (by kernel_rfl) (by kernel_rfl) (by kernel_rfl) (fun _ _ _ h => h) (Or.inl ⟨by rfl, ?_⟩) (SK4.out _ tV) ?_
          · rintro w ⟨d0, d1, d2, d3, d4, d5⟩
            go_simp; exact fun h => absurd h HCN.out
          simp only [Act.put, List.setIfInBounds_toArray, List.set_cons_zero, List.set_cons_succ]
          have HKL2 := hide (show k ≤ l.length by have := HL.out; omega)
          have SR1 := hide (fun (u : World) (t : Turns (fun j => w0.heap.size ≤ j) w0 u) => show Src Try.prog Try.t37.size 50 (.slice (some ⟨b, off, none⟩) k c) k (flCells (l.take k)) u from by
            have q := src_of_fils (c := c) (fils_take (H.out.quiet (TA.out.trans (turns_new t))) k)
            rwa [List.length_take, Nat.min_eq_left HKL2.out] at q)
          have SR3 := hide (fun (u : World) (t : Turns (fun j => w0.heap.size ≤ j) w0 u) => show Src Try.prog Try.t37.size 50 (.slice (some ⟨b, off + k * 6, none⟩) (n - k) (c - k)) (n - k) (flCells (l.drop k)) u from by
            have q := src_of_fils (a := (some ⟨b, off + k * 6, none⟩)) (R := l.drop k) (w := u) (c := c - k) (fils_drop (H.out.quiet (TA.out.trans (turns_new t))) k)
            rwa [List.length_drop, ← HL.out] at q)
          have HYC := hide (show Obj.cells (Tf.cells ⟨la, lc, ma, mc, ⟨no, sz, ls, ms, en, sq⟩⟩).toArray 37 (0, 0) = Obj.cells #[.int .u64 (no : Nat), .int .i64 sz, .slice la L1 lc, .slice ma L2 mc, .int .i64 en, .int .u64 (sq : Nat)] 37 (0, 0) by simp only [Tf.cells, Tf.lv, Tf.mv, HL1.out, HL2.out])
          have hk1 := HKL2.out
          generalize wr.drew.drew = U0 at *
          refine wpAnyH_ready (rs := [0, 6]) (by kernel_rfl) (by simp) ?_
          refine AllReadyH.cons rfl (fun K hK => ?_) (AllReadyH.cons rfl (fun K hK => ?_) AllReadyH.nil)
          · obtain ⟨uA, huA⟩ : ∃ uu, uu = U0.alloc (.cells #[] 37) := ⟨_, rfl⟩
            have tuA : Turns (fun _ => False) U0 uA := by rw [huA]; exact (Turns.refl _ _).alloc _
            have buA : w0.heap.size ≤ U0.heap.size := tV.size
            have luA : U0.heap.size < uA.heap.size := by rw [huA]; simp
            have rA : FRow uA w0.heap.size U0.heap.size 0 [] := by rw [huA]; exact frow_emp _ _ buA
            have tV := tV.trans (tuA.mono (S' := fun j => w0.heap.size ≤ j) fun _ _ (x : False) => x.elim)
            go_simp
            rw [← huA]
            refine hK.out _ _ (SK4.out _ tV) (fun _ => ?_)
            clear hK K huA
            refine wpAnyH_ready (rs := [4, 6]) (by kernel_rfl) (by simp) ?_
            refine AllReadyH.cons rfl (fun K hK => ?_) (AllReadyH.cons rfl (fun K hK => ?_) AllReadyH.nil)
            · obtain ⟨g1, n1, c1, w1, hr1, hn1, hf1, ht1, hq1⟩ := append_frow uA w0.heap.size (U0.heap.size) (0) ([]) rA tV.size (.slice (some ⟨b, off, none⟩) k c) (k) (l.take k) (SR1.out _ tV) (by rw [List.length_take]; omega) (by have := HL.out; simp; omega)
              have HN1 := hide hn1
              clear hn1
              have tV := tV.trans (ht1.mono (S' := fun j => w0.heap.size ≤ j) fun k _ e => by rw [e]; exact (rA).hB)
              refine step_append_run rfl _ _ 50 rfl (.slice (some ⟨U0.heap.size, 0, none⟩) 0 0) (.slice (some ⟨b, off, none⟩) k c) rfl rfl _ _ (hr1 _) 46 rfl ?_
              refine hK.out _ _ (SK4.out _ tV) (fun _ => ?_)
              clear hK K
              simp only [Act.put, List.setIfInBounds_toArray, List.set_cons_zero, List.set_cons_succ]
              have lg1 := hf1.lt
              refine wpAnyH_ready (rs := [6]) (by kernel_rfl) (by simp) ?_
              refine AllReadyH.cons rfl (fun K hK => ?_) AllReadyH.nil
              obtain ⟨uY, huY⟩ : ∃ uu, uu = w1.alloc (.cells #[.int .u64 (no : Nat), .int .i64 sz, .slice la L1 lc, .slice ma L2 mc, .int .i64 en, .int .u64 (sq : Nat)] 37) := ⟨_, rfl⟩
              have tuY : Turns (fun _ => False) w1 uY := by rw [huY]; exact (Turns.refl _ _).alloc _
              have buY : w0.heap.size ≤ w1.heap.size := tV.size
              have luY : w1.heap.size < uY.heap.size := by rw [huY]; simp
              have rY : uY.heap[w1.heap.size]? = some (Obj.cells (Tf.cells ⟨la, lc, ma, mc, ⟨no, sz, ls, ms, en, sq⟩⟩).toArray 37 (0, 0)) := by rw [HYC.out, huY]; exact heap_alloc_new _ _
              have tV := tV.trans (tuY.mono (S' := fun j => w0.heap.size ≤ j) fun _ _ (x : False) => x.elim)
              go_simp
              rw [← huY]
              refine hK.out _ _ (SK4.out _ tV) (fun _ => ?_)
              clear hK K huY
              have hf1 := hf1.turns tuY (fun x => x)
              refine wpAnyH_ready (rs := [7]) (by kernel_rfl) (by simp) ?_
              refine AllReadyH.cons rfl (fun K hK => ?_) AllReadyH.nil
              obtain ⟨g2, n2, c2, w2, hr2, hn2, hf2, ht2, hq2⟩ := append_frow uY w0.heap.size (g1) (c1) ([] ++ l.take k) hf1 tV.size (.slice (some ⟨w1.heap.size, 0, none⟩) 1 1) (1) ([⟨la, lc, ma, mc, ⟨no, sz, ls, ms, en, sq⟩⟩]) (src_one rY) (rfl) (by have := HL.out; simp; omega)
              have HN2 := hide hn2
              clear hn2
              rw [← HN1.out] at hr2
              have tV := tV.trans (ht2.mono (S' := fun j => w0.heap.size ≤ j) fun k _ e => by rw [e]; exact (hf1).hB)
              refine step_append_run rfl _ _ 50 rfl (.slice (some ⟨g1, 0, none⟩) n1 c1) (.slice (some ⟨w1.heap.size, 0, none⟩) 1 1) rfl rfl _ _ (hr2 _) 49 rfl ?_
              refine hK.out _ _ (SK4.out _ tV) (fun _ => ?_)
              clear hK K
              simp only [Act.put, List.setIfInBounds_toArray, List.set_cons_zero, List.set_cons_succ]
              have lg2 := hf2.lt
              refine wpAnyH_ready (rs := [11]) (by kernel_rfl) (by simp) ?_
              refine AllReadyH.cons rfl (fun K hK => ?_) AllReadyH.nil
              obtain ⟨g3, n3, c3, w3, hr3, hn3, hf3, ht3, hq3⟩ := append_frow w2 w0.heap.size (g2) (c2) ([] ++ l.take k ++ [⟨la, lc, ma, mc, ⟨no, sz, ls, ms, en, sq⟩⟩]) hf2 tV.size (.slice (some ⟨b, off + k * 6, none⟩) (n - k) (c - k)) (n - k) (l.drop k) (SR3.out _ tV) (by rw [List.length_drop]; have := HL.out; omega) (by have := HL.out; simp; omega)
              have HN3 := hide hn3
              clear hn3
              rw [← HN2.out] at hr3
              have tV := tV.trans (ht3.mono (S' := fun j => w0.heap.size ≤ j) fun k _ e => by rw [e]; exact (hf2).hB)
              refine step_append_run rfl _ _ 50 rfl (.slice (some ⟨g2, 0, none⟩) n2 c2) (.slice (some ⟨b, off + k * 6, none⟩) (n - k) (c - k)) rfl rfl _ _ (hr3 _) 53 rfl ?_
              refine hK.out _ _ (SK4.out _ tV) (fun _ => ?_)
              clear hK K
              simp only [Act.put, List.setIfInBounds_toArray, List.set_cons_zero, List.set_cons_succ]
              have lg3 := hf3.lt
              refine wpAnyH_take (i := 12) (oi := { dst := some 6, op := Op.assign (Operand.tmp 53), type := 50, pos := "ref.go:97", after := #[{ on := 11, ground := Ground.data }, { on := 11, ground := Ground.chain }, { on := 0, ground := Ground.phase }, { on := 1, ground := Ground.phase }, { on := 2, ground := Ground.phase }, { on := 3, ground := Ground.phase }, { on := 4, ground := Ground.phase }, { on := 5, ground := Ground.phase }, { on := 6, ground := Ground.phase }, { on := 7, ground := Ground.phase }, { on := 8, ground := Ground.phase }, { on := 9, ground := Ground.phase }, { on := 10, ground := Ground.phase }, { on := 11, ground := Ground.phase }], guard := none }) (v := .slice (some ⟨g3, 0, none⟩) n3 c3) rfl (by kernel_rfl) (by kernel_rfl) (by kernel_rfl) (fun _ _ _ h => h) (Or.inl ⟨by rfl, ?_⟩) (SK4.out _ tV) ?_
              · rintro w ⟨d0, d1, d2, d3, d4, d5⟩
                go_simp
              simp only [Act.put, List.setIfInBounds_toArray, List.set_cons_zero, List.set_cons_succ]
              refine wpAnyH_done (by kernel_rfl) ?_ _
              have HF3 := hide hf3
              have TZ := hide tV
              clear hf3 tV hr1 hr2 hr3 hf1 hf2 ht1 ht2 ht3 hq1 hq2 hq3 rA rY
              go_wp2_with fail
              go_ret
              have e3 : [] ++ l.take k ++ [⟨la, lc, ma, mc, ⟨no, sz, ls, ms, en, sq⟩⟩] ++ l.drop k = l.take k ++ ⟨la, lc, ma, mc, ⟨no, sz, ls, ms, en, sq⟩⟩ :: l.drop k := by simp
              have h3 := HF3.out
              have h4 := HN3.out
              rw [e3] at h3 h4
              have h5 : n3 = l.length + 1 := by have := HL.out; rw [h4]; simp; omega
              have h6 := HG.out
              have h7 := TA.out.size
              have h8 := h3.hB
              exact ⟨k, some ⟨g3, 0, none⟩, c3, by rw [h5]; rfl, HKL2.out, .inr ⟨g3, rfl, by omega, h3.le, h3.row⟩, HLTS.out, HP2.out, TA.out.trans (turns_new TZ.out)⟩
            · obtain ⟨uY, huY⟩ : ∃ uu, uu = uA.alloc (.cells #[.int .u64 (no : Nat), .int .i64 sz, .slice la L1 lc, .slice ma L2 mc, .int .i64 en, .int .u64 (sq : Nat)] 37) := ⟨_, rfl⟩
              have tuY : Turns (fun _ => False) uA uY := by rw [huY]; exact (Turns.refl _ _).alloc _
              have buY : w0.heap.size ≤ uA.heap.size := tV.size
              have luY : uA.heap.size < uY.heap.size := by rw [huY]; simp
              have rY : uY.heap[uA.heap.size]? = some (Obj.cells (Tf.cells ⟨la, lc, ma, mc, ⟨no, sz, ls, ms, en, sq⟩⟩).toArray 37 (0, 0)) := by rw [HYC.out, huY]; exact heap_alloc_new _ _
              have tV := tV.trans (tuY.mono (S' := fun j => w0.heap.size ≤ j) fun _ _ (x : False) => x.elim)
              go_simp
              rw [← huY]
              refine hK.out _ _ (SK4.out _ tV) (fun _ => ?_)
              clear hK K huY
              have rA := rA.turns tuY (fun x => x)
              refine wpAnyH_ready (rs := [4]) (by kernel_rfl) (by simp) ?_
              refine AllReadyH.cons rfl (fun K hK => ?_) AllReadyH.nil
              obtain ⟨g1, n1, c1, w1, hr1, hn1, hf1, ht1, hq1⟩ := append_frow uY w0.heap.size (U0.heap.size) (0) ([]) rA tV.size (.slice (some ⟨b, off, none⟩) k c) (k) (l.take k) (SR1.out _ tV) (by rw [List.length_take]; omega) (by have := HL.out; simp; omega)
              have HN1 := hide hn1
              clear hn1
              have tV := tV.trans (ht1.mono (S' := fun j => w0.heap.size ≤ j) fun k _ e => by rw [e]; exact (rA).hB)
              refine step_append_run rfl _ _ 50 rfl (.slice (some ⟨U0.heap.size, 0, none⟩) 0 0) (.slice (some ⟨b, off, none⟩) k c) rfl rfl _ _ (hr1 _) 46 rfl ?_
              refine hK.out _ _ (SK4.out _ tV) (fun _ => ?_)
              clear hK K
              simp only [Act.put, List.setIfInBounds_toArray, List.set_cons_zero, List.set_cons_succ]
              have lg1 := hf1.lt
              have rY := ht1.heap rY (by omega)
              refine wpAnyH_ready (rs := [7]) (by kernel_rfl) (by simp) ?_
              refine AllReadyH.cons rfl (fun K hK => ?_) AllReadyH.nil
              obtain ⟨g2, n2, c2, w2, hr2, hn2, hf2, ht2, hq2⟩ := append_frow w1 w0.heap.size (g1) (c1) ([] ++ l.take k) hf1 tV.size (.slice (some ⟨uA.heap.size, 0, none⟩) 1 1) (1) ([⟨la, lc, ma, mc, ⟨no, sz, ls, ms, en, sq⟩⟩]) (src_one rY) (rfl) (by have := HL.out; simp; omega)
              have HN2 := hide hn2
              clear hn2
              rw [← HN1.out] at hr2
              have tV := tV.trans (ht2.mono (S' := fun j => w0.heap.size ≤ j) fun k _ e => by rw [e]; exact (hf1).hB)
              refine step_append_run rfl _ _ 50 rfl (.slice (some ⟨g1, 0, none⟩) n1 c1) (.slice (some ⟨uA.heap.size, 0, none⟩) 1 1) rfl rfl _ _ (hr2 _) 49 rfl ?_
              refine hK.out _ _ (SK4.out _ tV) (fun _ => ?_)
              clear hK K
              simp only [Act.put, List.setIfInBounds_toArray, List.set_cons_zero, List.set_cons_succ]
              have lg2 := hf2.lt
              refine wpAnyH_ready (rs := [11]) (by kernel_rfl) (by simp) ?_
              refine AllReadyH.cons rfl (fun K hK => ?_) AllReadyH.nil
              obtain ⟨g3, n3, c3, w3, hr3, hn3, hf3, ht3, hq3⟩ := append_frow w2 w0.heap.size (g2) (c2) ([] ++ l.take k ++ [⟨la, lc, ma, mc, ⟨no, sz, ls, ms, en, sq⟩⟩]) hf2 tV.size (.slice (some ⟨b, off + k * 6, none⟩) (n - k) (c - k)) (n - k) (l.drop k) (SR3.out _ tV) (by rw [List.length_drop]; have := HL.out; omega) (by have := HL.out; simp; omega)
              have HN3 := hide hn3
              clear hn3
              rw [← HN2.out] at hr3
              have tV := tV.trans (ht3.mono (S' := fun j => w0.heap.size ≤ j) fun k _ e => by rw [e]; exact (hf2).hB)
              refine step_append_run rfl _ _ 50 rfl (.slice (some ⟨g2, 0, none⟩) n2 c2) (.slice (some ⟨b, off + k * 6, none⟩) (n - k) (c - k)) rfl rfl _ _ (hr3 _) 53 rfl ?_
              refine hK.out _ _ (SK4.out _ tV) (fun _ => ?_)
              clear hK K
              simp only [Act.put, List.setIfInBounds_toArray, List.set_cons_zero, List.set_cons_succ]
              have lg3 := hf3.lt
              refine wpAnyH_take (i := 12) (oi := { dst := some 6, op := Op.assign (Operand.tmp 53), type := 50, pos := "ref.go:97", after := #[{ on := 11, ground := Ground.data }, { on := 11, ground := Ground.chain }, { on := 0, ground := Ground.phase }, { on := 1, ground := Ground.phase }, { on := 2, ground := Ground.phase }, { on := 3, ground := Ground.phase }, { on := 4, ground := Ground.phase }, { on := 5, ground := Ground.phase }, { on := 6, ground := Ground.phase }, { on := 7, ground := Ground.phase }, { on := 8, ground := Ground.phase }, { on := 9, ground := Ground.phase }, { on := 10, ground := Ground.phase }, { on := 11, ground := Ground.phase }], guard := none }) (v := .slice (some ⟨g3, 0, none⟩) n3 c3) rfl (by kernel_rfl) (by kernel_rfl) (by kernel_rfl) (fun _ _ _ h => h) (Or.inl ⟨by rfl, ?_⟩) (SK4.out _ tV) ?_
              · rintro w ⟨d0, d1, d2, d3, d4, d5⟩
                go_simp
              simp only [Act.put, List.setIfInBounds_toArray, List.set_cons_zero, List.set_cons_succ]
              refine wpAnyH_done (by kernel_rfl) ?_ _
              have HF3 := hide hf3
              have TZ := hide tV
              clear hf3 tV hr1 hr2 hr3 hf1 hf2 ht1 ht2 ht3 hq1 hq2 hq3 rA rY
              go_wp2_with fail
              go_ret
              have e3 : [] ++ l.take k ++ [⟨la, lc, ma, mc, ⟨no, sz, ls, ms, en, sq⟩⟩] ++ l.drop k = l.take k ++ ⟨la, lc, ma, mc, ⟨no, sz, ls, ms, en, sq⟩⟩ :: l.drop k := by simp
              have h3 := HF3.out
              have h4 := HN3.out
              rw [e3] at h3 h4
              have h5 : n3 = l.length + 1 := by have := HL.out; rw [h4]; simp; omega
              have h6 := HG.out
              have h7 := TA.out.size
              have h8 := h3.hB
              exact ⟨k, some ⟨g3, 0, none⟩, c3, by rw [h5]; rfl, HKL2.out, .inr ⟨g3, rfl, by omega, h3.le, h3.row⟩, HLTS.out, HP2.out, TA.out.trans (turns_new TZ.out)⟩
          · obtain ⟨uY, huY⟩ : ∃ uu, uu = U0.alloc (.cells #[.int .u64 (no : Nat), .int .i64 sz, .slice la L1 lc, .slice ma L2 mc, .int .i64 en, .int .u64 (sq : Nat)] 37) := ⟨_, rfl⟩
            have tuY : Turns (fun _ => False) U0 uY := by rw [huY]; exact (Turns.refl _ _).alloc _
            have buY : w0.heap.size ≤ U0.heap.size := tV.size
            have luY : U0.heap.size < uY.heap.size := by rw [huY]; simp
            have rY : uY.heap[U0.heap.size]? = some (Obj.cells (Tf.cells ⟨la, lc, ma, mc, ⟨no, sz, ls, ms, en, sq⟩⟩).toArray 37 (0, 0)) := by rw [HYC.out, huY]; exact heap_alloc_new _ _
            have tV := tV.trans (tuY.mono (S' := fun j => w0.heap.size ≤ j) fun _ _ (x : False) => x.elim)
            go_simp
            rw [← huY]
            refine hK.out _ _ (SK4.out _ tV) (fun _ => ?_)
            clear hK K huY
            refine wpAnyH_ready (rs := [0]) (by kernel_rfl) (by simp) ?_
            refine AllReadyH.cons rfl (fun K hK => ?_) AllReadyH.nil
            obtain ⟨uA, huA⟩ : ∃ uu, uu = uY.alloc (.cells #[] 37) := ⟨_, rfl⟩
            have tuA : Turns (fun _ => False) uY uA := by rw [huA]; exact (Turns.refl _ _).alloc _
            have buA : w0.heap.size ≤ uY.heap.size := tV.size
            have luA : uY.heap.size < uA.heap.size := by rw [huA]; simp
            have rA : FRow uA w0.heap.size uY.heap.size 0 [] := by rw [huA]; exact frow_emp _ _ buA
            have tV := tV.trans (tuA.mono (S' := fun j => w0.heap.size ≤ j) fun _ _ (x : False) => x.elim)
            go_simp
            rw [← huA]
            refine hK.out _ _ (SK4.out _ tV) (fun _ => ?_)
            clear hK K huA
            have rY := tuA.heap rY (fun x => x)
            refine wpAnyH_ready (rs := [4]) (by kernel_rfl) (by simp) ?_
            refine AllReadyH.cons rfl (fun K hK => ?_) AllReadyH.nil
            obtain ⟨g1, n1, c1, w1, hr1, hn1, hf1, ht1, hq1⟩ := append_frow uA w0.heap.size (uY.heap.size) (0) ([]) rA tV.size (.slice (some ⟨b, off, none⟩) k c) (k) (l.take k) (SR1.out _ tV) (by rw [List.length_take]; omega) (by have := HL.out; simp; omega)
            have HN1 := hide hn1
            clear hn1
            have tV := tV.trans (ht1.mono (S' := fun j => w0.heap.size ≤ j) fun k _ e => by rw [e]; exact (rA).hB)
            refine step_append_run rfl _ _ 50 rfl (.slice (some ⟨uY.heap.size, 0, none⟩) 0 0) (.slice (some ⟨b, off, none⟩) k c) rfl rfl _ _ (hr1 _) 46 rfl ?_
            refine hK.out _ _ (SK4.out _ tV) (fun _ => ?_)
            clear hK K
            simp only [Act.put, List.setIfInBounds_toArray, List.set_cons_zero, List.set_cons_succ]
            have lg1 := hf1.lt
            have rY := ht1.heap rY (by omega)
            refine wpAnyH_ready (rs := [7]) (by kernel_rfl) (by simp) ?_
            refine AllReadyH.cons rfl (fun K hK => ?_) AllReadyH.nil
            obtain ⟨g2, n2, c2, w2, hr2, hn2, hf2, ht2, hq2⟩ := append_frow w1 w0.heap.size (g1) (c1) ([] ++ l.take k) hf1 tV.size (.slice (some ⟨U0.heap.size, 0, none⟩) 1 1) (1) ([⟨la, lc, ma, mc, ⟨no, sz, ls, ms, en, sq⟩⟩]) (src_one rY) (rfl) (by have := HL.out; simp; omega)
            have HN2 := hide hn2
            clear hn2
            rw [← HN1.out] at hr2
            have tV := tV.trans (ht2.mono (S' := fun j => w0.heap.size ≤ j) fun k _ e => by rw [e]; exact (hf1).hB)
            refine step_append_run rfl _ _ 50 rfl (.slice (some ⟨g1, 0, none⟩) n1 c1) (.slice (some ⟨U0.heap.size, 0, none⟩) 1 1) rfl rfl _ _ (hr2 _) 49 rfl ?_
            refine hK.out _ _ (SK4.out _ tV) (fun _ => ?_)
            clear hK K
            simp only [Act.put, List.setIfInBounds_toArray, List.set_cons_zero, List.set_cons_succ]
            have lg2 := hf2.lt
            refine wpAnyH_ready (rs := [11]) (by kernel_rfl) (by simp) ?_
            refine AllReadyH.cons rfl (fun K hK => ?_) AllReadyH.nil
            obtain ⟨g3, n3, c3, w3, hr3, hn3, hf3, ht3, hq3⟩ := append_frow w2 w0.heap.size (g2) (c2) ([] ++ l.take k ++ [⟨la, lc, ma, mc, ⟨no, sz, ls, ms, en, sq⟩⟩]) hf2 tV.size (.slice (some ⟨b, off + k * 6, none⟩) (n - k) (c - k)) (n - k) (l.drop k) (SR3.out _ tV) (by rw [List.length_drop]; have := HL.out; omega) (by have := HL.out; simp; omega)
            have HN3 := hide hn3
            clear hn3
            rw [← HN2.out] at hr3
            have tV := tV.trans (ht3.mono (S' := fun j => w0.heap.size ≤ j) fun k _ e => by rw [e]; exact (hf2).hB)
            refine step_append_run rfl _ _ 50 rfl (.slice (some ⟨g2, 0, none⟩) n2 c2) (.slice (some ⟨b, off + k * 6, none⟩) (n - k) (c - k)) rfl rfl _ _ (hr3 _) 53 rfl ?_
            refine hK.out _ _ (SK4.out _ tV) (fun _ => ?_)
            clear hK K
            simp only [Act.put, List.setIfInBounds_toArray, List.set_cons_zero, List.set_cons_succ]
            have lg3 := hf3.lt
            refine wpAnyH_take (i := 12) (oi := { dst := some 6, op := Op.assign (Operand.tmp 53), type := 50, pos := "ref.go:97", after := #[{ on := 11, ground := Ground.data }, { on := 11, ground := Ground.chain }, { on := 0, ground := Ground.phase }, { on := 1, ground := Ground.phase }, { on := 2, ground := Ground.phase }, { on := 3, ground := Ground.phase }, { on := 4, ground := Ground.phase }, { on := 5, ground := Ground.phase }, { on := 6, ground := Ground.phase }, { on := 7, ground := Ground.phase }, { on := 8, ground := Ground.phase }, { on := 9, ground := Ground.phase }, { on := 10, ground := Ground.phase }, { on := 11, ground := Ground.phase }], guard := none }) (v := .slice (some ⟨g3, 0, none⟩) n3 c3) rfl (by kernel_rfl) (by kernel_rfl) (by kernel_rfl) (fun _ _ _ h => h) (Or.inl ⟨by rfl, ?_⟩) (SK4.out _ tV) ?_
            · rintro w ⟨d0, d1, d2, d3, d4, d5⟩
              go_simp
            simp only [Act.put, List.setIfInBounds_toArray, List.set_cons_zero, List.set_cons_succ]
            refine wpAnyH_done (by kernel_rfl) ?_ _
            have HF3 := hide hf3
            have TZ := hide tV
            clear hf3 tV hr1 hr2 hr3 hf1 hf2 ht1 ht2 ht3 hq1 hq2 hq3 rA rY
            go_wp2_with fail
            go_ret
            have e3 : [] ++ l.take k ++ [⟨la, lc, ma, mc, ⟨no, sz, ls, ms, en, sq⟩⟩] ++ l.drop k = l.take k ++ ⟨la, lc, ma, mc, ⟨no, sz, ls, ms, en, sq⟩⟩ :: l.drop k := by simp
            have h3 := HF3.out
            have h4 := HN3.out
            rw [e3] at h3 h4
            have h5 : n3 = l.length + 1 := by have := HL.out; rw [h4]; simp; omega
            have h6 := HG.out
            have h7 := TA.out.size
            have h8 := h3.hB
            exact ⟨k, some ⟨g3, 0, none⟩, c3, by rw [h5]; rfl, HKL2.out, .inr ⟨g3, rfl, by omega, h3.le, h3.row⟩, HLTS.out, HP2.out, TA.out.trans (turns_new TZ.out)⟩
      · have HLV := hide hlv
        have HLP := hide (show 0 < lev by omega)
        clear hlv
        by_cases hno : cmpB x.f.least ls < 0
        · have HC := hide (show cmpF lev x.f ⟨no, sz, ls, ms, en, sq⟩ < 0 by rw [HCF.out, if_neg HLV.out]; exact hno)
          rw [show decide (cmpB x.f.least ls < 0) = true by simpa using hno] at CB
          clear hno
          go_upto_region 2 with (fail)
          refine wp_region_held_drew (S := fun u => u.cell? ⟨G, 0, none⟩ = some (.int .u64 (no : Nat)) ∧ u.cell? ⟨G, 2, none⟩ = some (.slice la L1 lc) ∧ u.cell? ⟨b, off + k * 6, none⟩ = some (.int .u64 (no2 : Nat)) ∧ u.cell? ⟨b, off + k * 6 + 2, none⟩ = some (.slice la2 L3 lc2)) (by kernel_rfl) (SK.out _ tV) (fun _ => ?_)
          change wpAnyH _ _ _ _ _ 32 (Array.replicate 32 false) _ _
          refine wpAnyH_take (i := 0) (oi := { dst := some 8, op := Op.move (Operand.tmp 7), type := 3, pos := "ref.go:94", after := #[], guard := none }) (v := .int .i64 ((k : Nat) : Int)) rfl (by kernel_rfl) (by kernel_rfl) (by kernel_rfl) (fun _ _ _ h => h) (Or.inl ⟨by rfl, ?_⟩) (SK.out _ tV) ?_
          · rintro w ⟨d0, d2, e0, e2⟩
            go_simp
          simp only [Act.put, List.setIfInBounds_toArray, List.set_cons_zero, List.set_cons_succ]
          refine wpAnyH_take (i := 1) (oi := { dst := some 9, op := Op.move (Operand.tmp 0), type := 50, pos := "ref.go:94", after := #[], guard := none }) (v := .slice (some ⟨b, off, none⟩) n c) rfl (by kernel_rfl) (by kernel_rfl) (by kernel_rfl) (fun _ _ _ h => h) (Or.inl ⟨by rfl, ?_⟩) (SK.out _ tV) ?_
          · rintro w ⟨d0, d2, e0, e2⟩
            go_simp
          simp only [Act.put, List.setIfInBounds_toArray, List.set_cons_zero, List.set_cons_succ]
          refine wpAnyH_take (i := 2) (oi := { dst := some 10, op := Op.call { callee := Callee.builtin Builtin.len, args := #[Operand.tmp 9], argTypes := #[50] }, type := 3, pos := "ref.go:94", after := #[{ on := 1, ground := Ground.data }], guard := none }) (v := .int .i64 ((n : Nat) : Int)) rfl (by kernel_rfl) (by kernel_rfl) (by kernel_rfl) (fun _ _ _ h => h) (Or.inl ⟨by rfl, ?_⟩) (SK.out _ tV) ?_
          · rintro w ⟨d0, d2, e0, e2⟩
            go_simp
          simp only [Act.put, List.setIfInBounds_toArray, List.set_cons_zero, List.set_cons_succ]
          refine wpAnyH_take (i := 3) (oi := { dst := some 11, op := Op.binOp BinOp.lss 3 (Operand.tmp 8) (Operand.tmp 10) 3, type := 4, pos := "ref.go:94", after := #[{ on := 0, ground := Ground.data }, { on := 2, ground := Ground.data }], guard := none }) (v := .bool true) rfl (by kernel_rfl) (by kernel_rfl) (by kernel_rfl) (fun _ _ _ h => h) (Or.inl ⟨by rfl, ?_⟩) (SK.out _ tV) ?_
          · rintro w ⟨d0, d2, e0, e2⟩
            go_simp; exact HKN.out
          simp only [Act.put, List.setIfInBounds_toArray, List.set_cons_zero, List.set_cons_succ]
          refine wpAnyH_take (i := 4) (oi := { dst := some 12, op := Op.move (Operand.tmp 11), type := 4, pos := "ref.go:94", after := #[{ on := 3, ground := Ground.data }], guard := none }) (v := .bool true) rfl (by kernel_rfl) (by kernel_rfl) (by kernel_rfl) (fun _ _ _ h => h) (Or.inl ⟨by rfl, ?_⟩) (SK.out _ tV) ?_
          · rintro w ⟨d0, d2, e0, e2⟩
            go_simp
          simp only [Act.put, List.setIfInBounds_toArray, List.set_cons_zero, List.set_cons_succ]
          refine wpAnyH_take (i := 5) (oi := { dst := some 13, op := Op.move (Operand.tmp 2), type := 3, pos := "ref.go:94", after := #[{ on := 4, ground := Ground.guard }], guard := some (4, true) }) (v := .int .i64 ((lev : Nat) : Int)) rfl (by kernel_rfl) (by kernel_rfl) (by kernel_rfl) (fun _ _ _ h => h) (Or.inl ⟨by rfl, ?_⟩) (SK.out _ tV) ?_
          · rintro w ⟨d0, d2, e0, e2⟩
            go_simp
          simp only [Act.put, List.setIfInBounds_toArray, List.set_cons_zero, List.set_cons_succ]
          refine wpAnyH_take (i := 6) (oi := { dst := some 14, op := Op.binOp BinOp.eql 3 (Operand.tmp 13) (Operand.const (Value.int IntKind.i64 0)) 3, type := 4, pos := "ref.go:94", after := #[{ on := 5, ground := Ground.data }, { on := 4, ground := Ground.guard }], guard := some (4, true) }) (v := .bool false) rfl (by kernel_rfl) (by kernel_rfl) (by kernel_rfl) (fun _ _ _ h => h) (Or.inl ⟨by rfl, ?_⟩) (SK.out _ tV) ?_
          · rintro w ⟨d0, d2, e0, e2⟩
            go_simp; exact HLV.out
          simp only [Act.put, List.setIfInBounds_toArray, List.set_cons_zero, List.set_cons_succ]
          refine wpAnyH_take (i := 7) (oi := { dst := some 15, op := Op.move (Operand.tmp 14), type := 4, pos := "ref.go:94", after := #[{ on := 6, ground := Ground.data }, { on := 4, ground := Ground.chain }, { on := 4, ground := Ground.guard }], guard := some (4, true) }) (v := .bool false) rfl (by kernel_rfl) (by kernel_rfl) (by kernel_rfl) (fun _ _ _ h => h) (Or.inl ⟨by rfl, ?_⟩) (SK.out _ tV) ?_
          · rintro w ⟨d0, d2, e0, e2⟩
            go_simp
          simp only [Act.put, List.setIfInBounds_toArray, List.set_cons_zero, List.set_cons_succ]
          refine wpAnyH_take (i := 8) (oi := { dst := some 16, op := Op.move (Operand.tmp 0), type := 50, pos := "ref.go:94", after := #[{ on := 7, ground := Ground.guard }], guard := some (7, true) }) (v := undef) rfl (by kernel_rfl) (by kernel_rfl) (by kernel_rfl) (fun _ _ _ h => h) (Or.inr ⟨by rfl, rfl⟩) (SK.out _ tV) ?_
          simp only [Act.put, List.setIfInBounds_toArray, List.set_cons_zero, List.set_cons_succ]
          refine wpAnyH_take (i := 9) (oi := { dst := some 17, op := Op.move (Operand.tmp 7), type := 3, pos := "ref.go:94", after := #[{ on := 7, ground := Ground.guard }], guard := some (7, true) }) (v := undef) rfl (by kernel_rfl) (by kernel_rfl) (by kernel_rfl) (fun _ _ _ h => h) (Or.inr ⟨by rfl, rfl⟩) (SK.out _ tV) ?_
          simp only [Act.put, List.setIfInBounds_toArray, List.set_cons_zero, List.set_cons_succ]
          refine wpAnyH_take (i := 10) (oi := { dst := some 18, op := Op.indexAddr 50 (Operand.tmp 16) (Operand.tmp 17), type := 0, pos := "ref.go:94", after := #[{ on := 8, ground := Ground.data }, { on := 9, ground := Ground.data }, { on := 7, ground := Ground.guard }], guard := some (7, true) }) (v := undef) rfl (by kernel_rfl) (by kernel_rfl) (by kernel_rfl) (fun _ _ _ h => h) (Or.inr ⟨by rfl, rfl⟩) (SK.out _ tV) ?_
          simp only [Act.put, List.setIfInBounds_toArray, List.set_cons_zero, List.set_cons_succ]
          refine wpAnyH_take (i := 11) (oi := { dst := some 19, op := Op.fieldAddr 37 (Operand.tmp 18) 0, type := 0, pos := "ref.go:94", after := #[{ on := 10, ground := Ground.data }, { on := 7, ground := Ground.guard }], guard := some (7, true) }) (v := undef) rfl (by kernel_rfl) (by kernel_rfl) (by kernel_rfl) (fun _ _ _ h => h) (Or.inr ⟨by rfl, rfl⟩) (SK.out _ tV) ?_
          simp only [Act.put, List.setIfInBounds_toArray, List.set_cons_zero, List.set_cons_succ]
          refine wpAnyH_take (i := 12) (oi := { dst := some 20, op := Op.load 23 (Operand.tmp 19), type := 23, pos := "ref.go:94", after := #[{ on := 11, ground := Ground.data }, { on := 7, ground := Ground.guard }], guard := some (7, true) }) (v := undef) rfl (by kernel_rfl) (by kernel_rfl) (by kernel_rfl) (fun _ _ _ h => h) (Or.inr ⟨by rfl, rfl⟩) (SK.out _ tV) ?_
          simp only [Act.put, List.setIfInBounds_toArray, List.set_cons_zero, List.set_cons_succ]
          refine wpAnyH_take (i := 13) (oi := { dst := some 21, op := Op.fieldAddr 37 (Operand.tmp 4) 0, type := 0, pos := "ref.go:94", after := #[{ on := 7, ground := Ground.guard }], guard := some (7, true) }) (v := undef) rfl (by kernel_rfl) (by kernel_rfl) (by kernel_rfl) (fun _ _ _ h => h) (Or.inr ⟨by rfl, rfl⟩) (SK.out _ tV) ?_
          simp only [Act.put, List.setIfInBounds_toArray, List.set_cons_zero, List.set_cons_succ]
          refine wpAnyH_take (i := 14) (oi := { dst := some 22, op := Op.load 23 (Operand.tmp 21), type := 23, pos := "ref.go:94", after := #[{ on := 13, ground := Ground.data }, { on := 7, ground := Ground.guard }], guard := some (7, true) }) (v := undef) rfl (by kernel_rfl) (by kernel_rfl) (by kernel_rfl) (fun _ _ _ h => h) (Or.inr ⟨by rfl, rfl⟩) (SK.out _ tV) ?_
          simp only [Act.put, List.setIfInBounds_toArray, List.set_cons_zero, List.set_cons_succ]
          refine wpAnyH_take (i := 15) (oi := { dst := some 23, op := Op.binOp BinOp.lss 23 (Operand.tmp 20) (Operand.tmp 22) 23, type := 4, pos := "ref.go:94", after := #[{ on := 12, ground := Ground.data }, { on := 14, ground := Ground.data }, { on := 7, ground := Ground.guard }], guard := some (7, true) }) (v := undef) rfl (by kernel_rfl) (by kernel_rfl) (by kernel_rfl) (fun _ _ _ h => h) (Or.inr ⟨by rfl, rfl⟩) (SK.out _ tV) ?_
          simp only [Act.put, List.setIfInBounds_toArray, List.set_cons_zero, List.set_cons_succ]
          refine wpAnyH_take (i := 16) (oi := { dst := some 24, op := Op.pick (Operand.tmp 15) (Operand.tmp 23) (Operand.const (Value.bool false)), type := 4, pos := "ref.go:94", after := #[{ on := 7, ground := Ground.data }, { on := 15, ground := Ground.data }, { on := 4, ground := Ground.guard }], guard := some (4, true) }) (v := .bool false) rfl (by kernel_rfl) (by kernel_rfl) (by kernel_rfl) (fun _ _ _ h => h) (Or.inl ⟨by rfl, ?_⟩) (SK.out _ tV) ?_
          · rintro w ⟨d0, d2, e0, e2⟩
            go_simp
          simp only [Act.put, List.setIfInBounds_toArray, List.set_cons_zero, List.set_cons_succ]
          refine wpAnyH_take (i := 17) (oi := { dst := some 25, op := Op.move (Operand.tmp 24), type := 4, pos := "ref.go:94", after := #[{ on := 16, ground := Ground.data }, { on := 7, ground := Ground.chain }, { on := 4, ground := Ground.guard }], guard := some (4, true) }) (v := .bool false) rfl (by kernel_rfl) (by kernel_rfl) (by kernel_rfl) (fun _ _ _ h => h) (Or.inl ⟨by rfl, ?_⟩) (SK.out _ tV) ?_
          · rintro w ⟨d0, d2, e0, e2⟩
            go_simp
          simp only [Act.put, List.setIfInBounds_toArray, List.set_cons_zero, List.set_cons_succ]
          refine wpAnyH_take (i := 18) (oi := { dst := some 26, op := Op.move (Operand.tmp 2), type := 3, pos := "ref.go:94", after := #[{ on := 17, ground := Ground.guard }], guard := some (17, false) }) (v := .int .i64 ((lev : Nat) : Int)) rfl (by kernel_rfl) (by kernel_rfl) (by kernel_rfl) (fun _ _ _ h => h) (Or.inl ⟨by rfl, ?_⟩) (SK.out _ tV) ?_
          · rintro w ⟨d0, d2, e0, e2⟩
            go_simp
          simp only [Act.put, List.setIfInBounds_toArray, List.set_cons_zero, List.set_cons_succ]
          refine wpAnyH_take (i := 19) (oi := { dst := some 27, op := Op.binOp BinOp.gtr 3 (Operand.tmp 26) (Operand.const (Value.int IntKind.i64 0)) 3, type := 4, pos := "ref.go:94", after := #[{ on := 18, ground := Ground.data }, { on := 17, ground := Ground.guard }], guard := some (17, false) }) (v := .bool true) rfl (by kernel_rfl) (by kernel_rfl) (by kernel_rfl) (fun _ _ _ h => h) (Or.inl ⟨by rfl, ?_⟩) (SK.out _ tV) ?_
          · rintro w ⟨d0, d2, e0, e2⟩
            go_simp; exact HLP.out
          simp only [Act.put, List.setIfInBounds_toArray, List.set_cons_zero, List.set_cons_succ]
          refine wpAnyH_take (i := 20) (oi := { dst := some 28, op := Op.move (Operand.tmp 27), type := 4, pos := "ref.go:94", after := #[{ on := 19, ground := Ground.data }, { on := 17, ground := Ground.chain }, { on := 17, ground := Ground.guard }], guard := some (17, false) }) (v := .bool true) rfl (by kernel_rfl) (by kernel_rfl) (by kernel_rfl) (fun _ _ _ h => h) (Or.inl ⟨by rfl, ?_⟩) (SK.out _ tV) ?_
          · rintro w ⟨d0, d2, e0, e2⟩
            go_simp
          simp only [Act.put, List.setIfInBounds_toArray, List.set_cons_zero, List.set_cons_succ]
          refine wpAnyH_take (i := 21) (oi := { dst := some 29, op := Op.move (Operand.tmp 0), type := 50, pos := "ref.go:94", after := #[{ on := 20, ground := Ground.guard }], guard := some (20, true) }) (v := .slice (some ⟨b, off, none⟩) n c) rfl (by kernel_rfl) (by kernel_rfl) (by kernel_rfl) (fun _ _ _ h => h) (Or.inl ⟨by rfl, ?_⟩) (SK.out _ tV) ?_
          · rintro w ⟨d0, d2, e0, e2⟩
            go_simp
          simp only [Act.put, List.setIfInBounds_toArray, List.set_cons_zero, List.set_cons_succ]
          refine wpAnyH_take (i := 22) (oi := { dst := some 30, op := Op.move (Operand.tmp 7), type := 3, pos := "ref.go:94", after := #[{ on := 20, ground := Ground.guard }], guard := some (20, true) }) (v := .int .i64 ((k : Nat) : Int)) rfl (by kernel_rfl) (by kernel_rfl) (by kernel_rfl) (fun _ _ _ h => h) (Or.inl ⟨by rfl, ?_⟩) (SK.out _ tV) ?_
          · rintro w ⟨d0, d2, e0, e2⟩
            go_simp
          simp only [Act.put, List.setIfInBounds_toArray, List.set_cons_zero, List.set_cons_succ]
          refine wpAnyH_take (i := 23) (oi := { dst := some 31, op := Op.indexAddr 50 (Operand.tmp 29) (Operand.tmp 30), type := 0, pos := "ref.go:94", after := #[{ on := 21, ground := Ground.data }, { on := 22, ground := Ground.data }, { on := 20, ground := Ground.guard }], guard := some (20, true) }) (v := .pointer (some ⟨b, off + k * 6, none⟩)) rfl (by kernel_rfl) (by kernel_rfl) (by kernel_rfl) (fun _ _ _ h => h) (Or.inl ⟨by rfl, ?_⟩) (SK.out _ tV) ?_
          · rintro w ⟨d0, d2, e0, e2⟩
            go_simp; exact fun h => absurd h HKL.out
          simp only [Act.put, List.setIfInBounds_toArray, List.set_cons_zero, List.set_cons_succ]
          refine wpAnyH_take (i := 24) (oi := { dst := some 32, op := Op.fieldAddr 37 (Operand.tmp 31) 2, type := 0, pos := "ref.go:94", after := #[{ on := 23, ground := Ground.data }, { on := 20, ground := Ground.guard }], guard := some (20, true) }) (v := .pointer (some ⟨b, off + k * 6 + 2, none⟩)) rfl (by kernel_rfl) (by kernel_rfl) (by kernel_rfl) (fun _ _ _ h => h) (Or.inl ⟨by rfl, ?_⟩) (SK.out _ tV) ?_
          · rintro w ⟨d0, d2, e0, e2⟩
            go_simp
          simp only [Act.put, List.setIfInBounds_toArray, List.set_cons_zero, List.set_cons_succ]
          refine wpAnyH_take (i := 25) (oi := { dst := some 33, op := Op.load 35 (Operand.tmp 32), type := 35, pos := "ref.go:94", after := #[{ on := 24, ground := Ground.data }, { on := 20, ground := Ground.guard }], guard := some (20, true) }) (v := .slice la2 L3 lc2) rfl (by kernel_rfl) (by kernel_rfl) (by kernel_rfl) (fun _ _ _ h => h) (Or.inl ⟨by rfl, ?_⟩) (SK.out _ tV) ?_
          · rintro w ⟨d0, d2, e0, e2⟩
            go_simp
          simp only [Act.put, List.setIfInBounds_toArray, List.set_cons_zero, List.set_cons_succ]
          refine wpAnyH_take (i := 26) (oi := { dst := some 34, op := Op.fieldAddr 37 (Operand.tmp 4) 2, type := 0, pos := "ref.go:94", after := #[{ on := 20, ground := Ground.guard }], guard := some (20, true) }) (v := .pointer (some ⟨G, 2, none⟩)) rfl (by kernel_rfl) (by kernel_rfl) (by kernel_rfl) (fun _ _ _ h => h) (Or.inl ⟨by rfl, ?_⟩) (SK.out _ tV) ?_
          · rintro w ⟨d0, d2, e0, e2⟩
            go_simp
          simp only [Act.put, List.setIfInBounds_toArray, List.set_cons_zero, List.set_cons_succ]
          refine wpAnyH_take (i := 27) (oi := { dst := some 35, op := Op.load 35 (Operand.tmp 34), type := 35, pos := "ref.go:94", after := #[{ on := 26, ground := Ground.data }, { on := 20, ground := Ground.guard }], guard := some (20, true) }) (v := .slice la L1 lc) rfl (by kernel_rfl) (by kernel_rfl) (by kernel_rfl) (fun _ _ _ h => h) (Or.inl ⟨by rfl, ?_⟩) (SK.out _ tV) ?_
          · rintro w ⟨d0, d2, e0, e2⟩
            go_simp
          simp only [Act.put, List.setIfInBounds_toArray, List.set_cons_zero, List.set_cons_succ]
          refine wpAnyH_ready (rs := [28]) (by kernel_rfl) (by simp) ?_
          refine AllReadyH.cons rfl (fun K hK => ?_) AllReadyH.nil
          go_simp
          refine (CB.out _ tV).mono ?_
          rintro oo Vn ⟨rfl, tC⟩
          have tN := tC
          have tV := tV.trans tN
          clear tC
          clear tN
          go_simp
          refine hK.out _ _ (SK.out _ tV) (fun _ => ?_)
          clear hK K
          refine wpAnyH_take (i := 29) (oi := { dst := some 37, op := Op.pick (Operand.tmp 28) (Operand.tmp 36) (Operand.const (Value.bool false)), type := 4, pos := "ref.go:94", after := #[{ on := 20, ground := Ground.data }, { on := 28, ground := Ground.data }, { on := 17, ground := Ground.guard }], guard := some (17, false) }) (v := .bool true) rfl (by kernel_rfl) (by kernel_rfl) (by kernel_rfl) (fun _ _ _ h => h) (Or.inl ⟨by rfl, ?_⟩) (SK.out _ tV) ?_
          · rintro w ⟨d0, d2, e0, e2⟩
            go_simp
          simp only [Act.put, List.setIfInBounds_toArray, List.set_cons_zero, List.set_cons_succ]
          refine wpAnyH_take (i := 30) (oi := { dst := some 38, op := Op.pick (Operand.tmp 25) (Operand.const (Value.bool true)) (Operand.tmp 37), type := 4, pos := "ref.go:94", after := #[{ on := 17, ground := Ground.data }, { on := 29, ground := Ground.data }, { on := 4, ground := Ground.guard }], guard := some (4, true) }) (v := .bool true) rfl (by kernel_rfl) (by kernel_rfl) (by kernel_rfl) (fun _ _ _ h => h) (Or.inl ⟨by rfl, ?_⟩) (SK.out _ tV) ?_
          · rintro w ⟨d0, d2, e0, e2⟩
            go_simp
          simp only [Act.put, List.setIfInBounds_toArray, List.set_cons_zero, List.set_cons_succ]
          refine wpAnyH_take (i := 31) (oi := { dst := some 39, op := Op.pick (Operand.tmp 12) (Operand.tmp 38) (Operand.const (Value.bool false)), type := 4, pos := "ref.go:94", after := #[{ on := 4, ground := Ground.data }, { on := 30, ground := Ground.data }], guard := none }) (v := .bool true) rfl (by kernel_rfl) (by kernel_rfl) (by kernel_rfl) (fun _ _ _ h => h) (Or.inl ⟨by rfl, ?_⟩) (SK.out _ tV) ?_
          · rintro w ⟨d0, d2, e0, e2⟩
            go_simp
          simp only [Act.put, List.setIfInBounds_toArray, List.set_cons_zero, List.set_cons_succ]
          refine wpAnyH_done (by kernel_rfl) ?_ _
          have TU := hide tV
          clear tV
          go_wp2_with fail
          go_roundw
          case rel =>
            refine ⟨k + 1, by go_num, by have := HKN.out; omega, ?_, HB0.out.trans TU.out⟩
            rw [HTK.out]
            intro x' hx'
            rcases List.mem_append.1 hx' with h | h
            · exact HLTS.out x' h
            · rw [List.mem_singleton.1 h]; exact HC.out
          case measure => have := HKN.out; simp [intOf]; omega
        · have HC := hide (show ¬ cmpF lev x.f ⟨no, sz, ls, ms, en, sq⟩ < 0 by rw [HCF.out, if_neg HLV.out]; exact hno)
          rw [show decide (cmpB x.f.least ls < 0) = false by simpa using hno] at CB
          clear hno
          go_upto_region 2 with (fail)
          refine wp_region_held_drew (S := fun u => u.cell? ⟨G, 0, none⟩ = some (.int .u64 (no : Nat)) ∧ u.cell? ⟨G, 2, none⟩ = some (.slice la L1 lc) ∧ u.cell? ⟨b, off + k * 6, none⟩ = some (.int .u64 (no2 : Nat)) ∧ u.cell? ⟨b, off + k * 6 + 2, none⟩ = some (.slice la2 L3 lc2)) (by kernel_rfl) (SK.out _ tV) (fun _ => ?_)
          change wpAnyH _ _ _ _ _ 32 (Array.replicate 32 false) _ _
          refine wpAnyH_take (i := 0) (oi := { dst := some 8, op := Op.move (Operand.tmp 7), type := 3, pos := "ref.go:94", after := #[], guard := none }) (v := .int .i64 ((k : Nat) : Int)) rfl (by kernel_rfl) (by kernel_rfl) (by kernel_rfl) (fun _ _ _ h => h) (Or.inl ⟨by rfl, ?_⟩) (SK.out _ tV) ?_
          · rintro w ⟨d0, d2, e0, e2⟩
            go_simp
          simp only [Act.put, List.setIfInBounds_toArray, List.set_cons_zero, List.set_cons_succ]
          refine wpAnyH_take (i := 1) (oi := { dst := some 9, op := Op.move (Operand.tmp 0), type := 50, pos := "ref.go:94", after := #[], guard := none }) (v := .slice (some ⟨b, off, none⟩) n c) rfl (by kernel_rfl) (by kernel_rfl) (by kernel_rfl) (fun _ _ _ h => h) (Or.inl ⟨by rfl, ?_⟩) (SK.out _ tV) ?_
          · rintro w ⟨d0, d2, e0, e2⟩
            go_simp
          simp only [Act.put, List.setIfInBounds_toArray, List.set_cons_zero, List.set_cons_succ]
          refine wpAnyH_take (i := 2) (oi := { dst := some 10, op := Op.call { callee := Callee.builtin Builtin.len, args := #[Operand.tmp 9], argTypes := #[50] }, type := 3, pos := "ref.go:94", after := #[{ on := 1, ground := Ground.data }], guard := none }) (v := .int .i64 ((n : Nat) : Int)) rfl (by kernel_rfl) (by kernel_rfl) (by kernel_rfl) (fun _ _ _ h => h) (Or.inl ⟨by rfl, ?_⟩) (SK.out _ tV) ?_
          · rintro w ⟨d0, d2, e0, e2⟩
            go_simp
          simp only [Act.put, List.setIfInBounds_toArray, List.set_cons_zero, List.set_cons_succ]
          refine wpAnyH_take (i := 3) (oi := { dst := some 11, op := Op.binOp BinOp.lss 3 (Operand.tmp 8) (Operand.tmp 10) 3, type := 4, pos := "ref.go:94", after := #[{ on := 0, ground := Ground.data }, { on := 2, ground := Ground.data }], guard := none }) (v := .bool true) rfl (by kernel_rfl) (by kernel_rfl) (by kernel_rfl) (fun _ _ _ h => h) (Or.inl ⟨by rfl, ?_⟩) (SK.out _ tV) ?_
          · rintro w ⟨d0, d2, e0, e2⟩
            go_simp; exact HKN.out
          simp only [Act.put, List.setIfInBounds_toArray, List.set_cons_zero, List.set_cons_succ]
          refine wpAnyH_take (i := 4) (oi := { dst := some 12, op := Op.move (Operand.tmp 11), type := 4, pos := "ref.go:94", after := #[{ on := 3, ground := Ground.data }], guard := none }) (v := .bool true) rfl (by kernel_rfl) (by kernel_rfl) (by kernel_rfl) (fun _ _ _ h => h) (Or.inl ⟨by rfl, ?_⟩) (SK.out _ tV) ?_
          · rintro w ⟨d0, d2, e0, e2⟩
            go_simp
          simp only [Act.put, List.setIfInBounds_toArray, List.set_cons_zero, List.set_cons_succ]
          refine wpAnyH_take (i := 5) (oi := { dst := some 13, op := Op.move (Operand.tmp 2), type := 3, pos := "ref.go:94", after := #[{ on := 4, ground := Ground.guard }], guard := some (4, true) }) (v := .int .i64 ((lev : Nat) : Int)) rfl (by kernel_rfl) (by kernel_rfl) (by kernel_rfl) (fun _ _ _ h => h) (Or.inl ⟨by rfl, ?_⟩) (SK.out _ tV) ?_
          · rintro w ⟨d0, d2, e0, e2⟩
            go_simp
          simp only [Act.put, List.setIfInBounds_toArray, List.set_cons_zero, List.set_cons_succ]
          refine wpAnyH_take (i := 6) (oi := { dst := some 14, op := Op.binOp BinOp.eql 3 (Operand.tmp 13) (Operand.const (Value.int IntKind.i64 0)) 3, type := 4, pos := "ref.go:94", after := #[{ on := 5, ground := Ground.data }, { on := 4, ground := Ground.guard }], guard := some (4, true) }) (v := .bool false) rfl (by kernel_rfl) (by kernel_rfl) (by kernel_rfl) (fun _ _ _ h => h) (Or.inl ⟨by rfl, ?_⟩) (SK.out _ tV) ?_
          · rintro w ⟨d0, d2, e0, e2⟩
            go_simp; exact HLV.out
          simp only [Act.put, List.setIfInBounds_toArray, List.set_cons_zero, List.set_cons_succ]
          refine wpAnyH_take (i := 7) (oi := { dst := some 15, op := Op.move (Operand.tmp 14), type := 4, pos := "ref.go:94", after := #[{ on := 6, ground := Ground.data }, { on := 4, ground := Ground.chain }, { on := 4, ground := Ground.guard }], guard := some (4, true) }) (v := .bool false) rfl (by kernel_rfl) (by kernel_rfl) (by kernel_rfl) (fun _ _ _ h => h) (Or.inl ⟨by rfl, ?_⟩) (SK.out _ tV) ?_
          · rintro w ⟨d0, d2, e0, e2⟩
            go_simp
          simp only [Act.put, List.setIfInBounds_toArray, List.set_cons_zero, List.set_cons_succ]
          refine wpAnyH_take (i := 8) (oi := { dst := some 16, op := Op.move (Operand.tmp 0), type := 50, pos := "ref.go:94", after := #[{ on := 7, ground := Ground.guard }], guard := some (7, true) }) (v := undef) rfl (by kernel_rfl) (by kernel_rfl) (by kernel_rfl) (fun _ _ _ h => h) (Or.inr ⟨by rfl, rfl⟩) (SK.out _ tV) ?_
          simp only [Act.put, List.setIfInBounds_toArray, List.set_cons_zero, List.set_cons_succ]
          refine wpAnyH_take (i := 9) (oi := { dst := some 17, op := Op.move (Operand.tmp 7), type := 3, pos := "ref.go:94", after := #[{ on := 7, ground := Ground.guard }], guard := some (7, true) }) (v := undef) rfl (by kernel_rfl) (by kernel_rfl) (by kernel_rfl) (fun _ _ _ h => h) (Or.inr ⟨by rfl, rfl⟩) (SK.out _ tV) ?_
          simp only [Act.put, List.setIfInBounds_toArray, List.set_cons_zero, List.set_cons_succ]
          refine wpAnyH_take (i := 10) (oi := { dst := some 18, op := Op.indexAddr 50 (Operand.tmp 16) (Operand.tmp 17), type := 0, pos := "ref.go:94", after := #[{ on := 8, ground := Ground.data }, { on := 9, ground := Ground.data }, { on := 7, ground := Ground.guard }], guard := some (7, true) }) (v := undef) rfl (by kernel_rfl) (by kernel_rfl) (by kernel_rfl) (fun _ _ _ h => h) (Or.inr ⟨by rfl, rfl⟩) (SK.out _ tV) ?_
          simp only [Act.put, List.setIfInBounds_toArray, List.set_cons_zero, List.set_cons_succ]
          refine wpAnyH_take (i := 11) (oi := { dst := some 19, op := Op.fieldAddr 37 (Operand.tmp 18) 0, type := 0, pos := "ref.go:94", after := #[{ on := 10, ground := Ground.data }, { on := 7, ground := Ground.guard }], guard := some (7, true) }) (v := undef) rfl (by kernel_rfl) (by kernel_rfl) (by kernel_rfl) (fun _ _ _ h => h) (Or.inr ⟨by rfl, rfl⟩) (SK.out _ tV) ?_
          simp only [Act.put, List.setIfInBounds_toArray, List.set_cons_zero, List.set_cons_succ]
          refine wpAnyH_take (i := 12) (oi := { dst := some 20, op := Op.load 23 (Operand.tmp 19), type := 23, pos := "ref.go:94", after := #[{ on := 11, ground := Ground.data }, { on := 7, ground := Ground.guard }], guard := some (7, true) }) (v := undef) rfl (by kernel_rfl) (by kernel_rfl) (by kernel_rfl) (fun _ _ _ h => h) (Or.inr ⟨by rfl, rfl⟩) (SK.out _ tV) ?_
          simp only [Act.put, List.setIfInBounds_toArray, List.set_cons_zero, List.set_cons_succ]
          refine wpAnyH_take (i := 13) (oi := { dst := some 21, op := Op.fieldAddr 37 (Operand.tmp 4) 0, type := 0, pos := "ref.go:94", after := #[{ on := 7, ground := Ground.guard }], guard := some (7, true) }) (v := undef) rfl (by kernel_rfl) (by kernel_rfl) (by kernel_rfl) (fun _ _ _ h => h) (Or.inr ⟨by rfl, rfl⟩) (SK.out _ tV) ?_
          simp only [Act.put, List.setIfInBounds_toArray, List.set_cons_zero, List.set_cons_succ]
          refine wpAnyH_take (i := 14) (oi := { dst := some 22, op := Op.load 23 (Operand.tmp 21), type := 23, pos := "ref.go:94", after := #[{ on := 13, ground := Ground.data }, { on := 7, ground := Ground.guard }], guard := some (7, true) }) (v := undef) rfl (by kernel_rfl) (by kernel_rfl) (by kernel_rfl) (fun _ _ _ h => h) (Or.inr ⟨by rfl, rfl⟩) (SK.out _ tV) ?_
          simp only [Act.put, List.setIfInBounds_toArray, List.set_cons_zero, List.set_cons_succ]
          refine wpAnyH_take (i := 15) (oi := { dst := some 23, op := Op.binOp BinOp.lss 23 (Operand.tmp 20) (Operand.tmp 22) 23, type := 4, pos := "ref.go:94", after := #[{ on := 12, ground := Ground.data }, { on := 14, ground := Ground.data }, { on := 7, ground := Ground.guard }], guard := some (7, true) }) (v := undef) rfl (by kernel_rfl) (by kernel_rfl) (by kernel_rfl) (fun _ _ _ h => h) (Or.inr ⟨by rfl, rfl⟩) (SK.out _ tV) ?_
          simp only [Act.put, List.setIfInBounds_toArray, List.set_cons_zero, List.set_cons_succ]
          refine wpAnyH_take (i := 16) (oi := { dst := some 24, op := Op.pick (Operand.tmp 15) (Operand.tmp 23) (Operand.const (Value.bool false)), type := 4, pos := "ref.go:94", after := #[{ on := 7, ground := Ground.data }, { on := 15, ground := Ground.data }, { on := 4, ground := Ground.guard }], guard := some (4, true) }) (v := .bool false) rfl (by kernel_rfl) (by kernel_rfl) (by kernel_rfl) (fun _ _ _ h => h) (Or.inl ⟨by rfl, ?_⟩) (SK.out _ tV) ?_
          · rintro w ⟨d0, d2, e0, e2⟩
            go_simp
          simp only [Act.put, List.setIfInBounds_toArray, List.set_cons_zero, List.set_cons_succ]
          refine wpAnyH_take (i := 17) (oi := { dst := some 25, op := Op.move (Operand.tmp 24), type := 4, pos := "ref.go:94", after := #[{ on := 16, ground := Ground.data }, { on := 7, ground := Ground.chain }, { on := 4, ground := Ground.guard }], guard := some (4, true) }) (v := .bool false) rfl (by kernel_rfl) (by kernel_rfl) (by kernel_rfl) (fun _ _ _ h => h) (Or.inl ⟨by rfl, ?_⟩) (SK.out _ tV) ?_
          · rintro w ⟨d0, d2, e0, e2⟩
            go_simp
          simp only [Act.put, List.setIfInBounds_toArray, List.set_cons_zero, List.set_cons_succ]
          refine wpAnyH_take (i := 18) (oi := { dst := some 26, op := Op.move (Operand.tmp 2), type := 3, pos := "ref.go:94", after := #[{ on := 17, ground := Ground.guard }], guard := some (17, false) }) (v := .int .i64 ((lev : Nat) : Int)) rfl (by kernel_rfl) (by kernel_rfl) (by kernel_rfl) (fun _ _ _ h => h) (Or.inl ⟨by rfl, ?_⟩) (SK.out _ tV) ?_
          · rintro w ⟨d0, d2, e0, e2⟩
            go_simp
          simp only [Act.put, List.setIfInBounds_toArray, List.set_cons_zero, List.set_cons_succ]
          refine wpAnyH_take (i := 19) (oi := { dst := some 27, op := Op.binOp BinOp.gtr 3 (Operand.tmp 26) (Operand.const (Value.int IntKind.i64 0)) 3, type := 4, pos := "ref.go:94", after := #[{ on := 18, ground := Ground.data }, { on := 17, ground := Ground.guard }], guard := some (17, false) }) (v := .bool true) rfl (by kernel_rfl) (by kernel_rfl) (by kernel_rfl) (fun _ _ _ h => h) (Or.inl ⟨by rfl, ?_⟩) (SK.out _ tV) ?_
          · rintro w ⟨d0, d2, e0, e2⟩
            go_simp; exact HLP.out
          simp only [Act.put, List.setIfInBounds_toArray, List.set_cons_zero, List.set_cons_succ]
          refine wpAnyH_take (i := 20) (oi := { dst := some 28, op := Op.move (Operand.tmp 27), type := 4, pos := "ref.go:94", after := #[{ on := 19, ground := Ground.data }, { on := 17, ground := Ground.chain }, { on := 17, ground := Ground.guard }], guard := some (17, false) }) (v := .bool true) rfl (by kernel_rfl) (by kernel_rfl) (by kernel_rfl) (fun _ _ _ h => h) (Or.inl ⟨by rfl, ?_⟩) (SK.out _ tV) ?_
          · rintro w ⟨d0, d2, e0, e2⟩
            go_simp
          simp only [Act.put, List.setIfInBounds_toArray, List.set_cons_zero, List.set_cons_succ]
          refine wpAnyH_take (i := 21) (oi := { dst := some 29, op := Op.move (Operand.tmp 0), type := 50, pos := "ref.go:94", after := #[{ on := 20, ground := Ground.guard }], guard := some (20, true) }) (v := .slice (some ⟨b, off, none⟩) n c) rfl (by kernel_rfl) (by kernel_rfl) (by kernel_rfl) (fun _ _ _ h => h) (Or.inl ⟨by rfl, ?_⟩) (SK.out _ tV) ?_
          · rintro w ⟨d0, d2, e0, e2⟩
            go_simp
          simp only [Act.put, List.setIfInBounds_toArray, List.set_cons_zero, List.set_cons_succ]
          refine wpAnyH_take (i := 22) (oi := { dst := some 30, op := Op.move (Operand.tmp 7), type := 3, pos := "ref.go:94", after := #[{ on := 20, ground := Ground.guard }], guard := some (20, true) }) (v := .int .i64 ((k : Nat) : Int)) rfl (by kernel_rfl) (by kernel_rfl) (by kernel_rfl) (fun _ _ _ h => h) (Or.inl ⟨by rfl, ?_⟩) (SK.out _ tV) ?_
          · rintro w ⟨d0, d2, e0, e2⟩
            go_simp
          simp only [Act.put, List.setIfInBounds_toArray, List.set_cons_zero, List.set_cons_succ]
          refine wpAnyH_take (i := 23) (oi := { dst := some 31, op := Op.indexAddr 50 (Operand.tmp 29) (Operand.tmp 30), type := 0, pos := "ref.go:94", after := #[{ on := 21, ground := Ground.data }, { on := 22, ground := Ground.data }, { on := 20, ground := Ground.guard }], guard := some (20, true) }) (v := .pointer (some ⟨b, off + k * 6, none⟩)) rfl (by kernel_rfl) (by kernel_rfl) (by kernel_rfl) (fun _ _ _ h => h) (Or.inl ⟨by rfl, ?_⟩) (SK.out _ tV) ?_
          · rintro w ⟨d0, d2, e0, e2⟩
            go_simp; exact fun h => absurd h HKL.out
          simp only [Act.put, List.setIfInBounds_toArray, List.set_cons_zero, List.set_cons_succ]
          refine wpAnyH_take (i := 24) (oi := { dst := some 32, op := Op.fieldAddr 37 (Operand.tmp 31) 2, type := 0, pos := "ref.go:94", after := #[{ on := 23, ground := Ground.data }, { on := 20, ground := Ground.guard }], guard := some (20, true) }) (v := .pointer (some ⟨b, off + k * 6 + 2, none⟩)) rfl (by kernel_rfl) (by kernel_rfl) (by kernel_rfl) (fun _ _ _ h => h) (Or.inl ⟨by rfl, ?_⟩) (SK.out _ tV) ?_
          · rintro w ⟨d0, d2, e0, e2⟩
            go_simp
          simp only [Act.put, List.setIfInBounds_toArray, List.set_cons_zero, List.set_cons_succ]
          refine wpAnyH_take (i := 25) (oi := { dst := some 33, op := Op.load 35 (Operand.tmp 32), type := 35, pos := "ref.go:94", after := #[{ on := 24, ground := Ground.data }, { on := 20, ground := Ground.guard }], guard := some (20, true) }) (v := .slice la2 L3 lc2) rfl (by kernel_rfl) (by kernel_rfl) (by kernel_rfl) (fun _ _ _ h => h) (Or.inl ⟨by rfl, ?_⟩) (SK.out _ tV) ?_
          · rintro w ⟨d0, d2, e0, e2⟩
            go_simp
          simp only [Act.put, List.setIfInBounds_toArray, List.set_cons_zero, List.set_cons_succ]
          refine wpAnyH_take (i := 26) (oi := { dst := some 34, op := Op.fieldAddr 37 (Operand.tmp 4) 2, type := 0, pos := "ref.go:94", after := #[{ on := 20, ground := Ground.guard }], guard := some (20, true) }) (v := .pointer (some ⟨G, 2, none⟩)) rfl (by kernel_rfl) (by kernel_rfl) (by kernel_rfl) (fun _ _ _ h => h) (Or.inl ⟨by rfl, ?_⟩) (SK.out _ tV) ?_
          · rintro w ⟨d0, d2, e0, e2⟩
            go_simp
          simp only [Act.put, List.setIfInBounds_toArray, List.set_cons_zero, List.set_cons_succ]
          refine wpAnyH_take (i := 27) (oi := { dst := some 35, op := Op.load 35 (Operand.tmp 34), type := 35, pos := "ref.go:94", after := #[{ on := 26, ground := Ground.data }, { on := 20, ground := Ground.guard }], guard := some (20, true) }) (v := .slice la L1 lc) rfl (by kernel_rfl) (by kernel_rfl) (by kernel_rfl) (fun _ _ _ h => h) (Or.inl ⟨by rfl, ?_⟩) (SK.out _ tV) ?_
          · rintro w ⟨d0, d2, e0, e2⟩
            go_simp
          simp only [Act.put, List.setIfInBounds_toArray, List.set_cons_zero, List.set_cons_succ]
          refine wpAnyH_ready (rs := [28]) (by kernel_rfl) (by simp) ?_
          refine AllReadyH.cons rfl (fun K hK => ?_) AllReadyH.nil
          go_simp
          refine (CB.out _ tV).mono ?_
          rintro oo Vn ⟨rfl, tC⟩
          have tN := tC
          have tV := tV.trans tN
          clear tC
          clear tN
          go_simp
          refine hK.out _ _ (SK.out _ tV) (fun _ => ?_)
          clear hK K
          refine wpAnyH_take (i := 29) (oi := { dst := some 37, op := Op.pick (Operand.tmp 28) (Operand.tmp 36) (Operand.const (Value.bool false)), type := 4, pos := "ref.go:94", after := #[{ on := 20, ground := Ground.data }, { on := 28, ground := Ground.data }, { on := 17, ground := Ground.guard }], guard := some (17, false) }) (v := .bool false) rfl (by kernel_rfl) (by kernel_rfl) (by kernel_rfl) (fun _ _ _ h => h) (Or.inl ⟨by rfl, ?_⟩) (SK.out _ tV) ?_
          · rintro w ⟨d0, d2, e0, e2⟩
            go_simp
          simp only [Act.put, List.setIfInBounds_toArray, List.set_cons_zero, List.set_cons_succ]
          refine wpAnyH_take (i := 30) (oi := { dst := some 38, op := Op.pick (Operand.tmp 25) (Operand.const (Value.bool true)) (Operand.tmp 37), type := 4, pos := "ref.go:94", after := #[{ on := 17, ground := Ground.data }, { on := 29, ground := Ground.data }, { on := 4, ground := Ground.guard }], guard := some (4, true) }) (v := .bool false) rfl (by kernel_rfl) (by kernel_rfl) (by kernel_rfl) (fun _ _ _ h => h) (Or.inl ⟨by rfl, ?_⟩) (SK.out _ tV) ?_
          · rintro w ⟨d0, d2, e0, e2⟩
            go_simp
          simp only [Act.put, List.setIfInBounds_toArray, List.set_cons_zero, List.set_cons_succ]
          refine wpAnyH_take (i := 31) (oi := { dst := some 39, op := Op.pick (Operand.tmp 12) (Operand.tmp 38) (Operand.const (Value.bool false)), type := 4, pos := "ref.go:94", after := #[{ on := 4, ground := Ground.data }, { on := 30, ground := Ground.data }], guard := none }) (v := .bool false) rfl (by kernel_rfl) (by kernel_rfl) (by kernel_rfl) (fun _ _ _ h => h) (Or.inl ⟨by rfl, ?_⟩) (SK.out _ tV) ?_
          · rintro w ⟨d0, d2, e0, e2⟩
            go_simp
          simp only [Act.put, List.setIfInBounds_toArray, List.set_cons_zero, List.set_cons_succ]
          refine wpAnyH_done (by kernel_rfl) ?_ _
          have TU := hide tV
          clear tV
          have HCK := hide (show ¬ c < k by have := HNC.out; have := HKN.out; omega)
          have HCN := hide (show ¬ c = k by have := HNC.out; have := HKN.out; omega)
          have HP2 := hide (show ∀ x', l[k]? = some x' → ¬ cmpF lev x'.f ⟨no, sz, ls, ms, en, sq⟩ < 0 from fun x' hx' => by rw [HX.out] at hx'; cases hx'; exact HC.out)
          go_upto_region 4 with (fail)
          have SK4 := hide (fun (u : World) (t : Turns (fun j => w0.heap.size ≤ j) w0 u) => show (fun u => u.cell? ⟨G, 0, none⟩ = some (.int .u64 (no : Nat)) ∧ u.cell? ⟨G, 1, none⟩ = some (.int .i64 sz) ∧ u.cell? ⟨G, 2, none⟩ = some (.slice la L1 lc) ∧ u.cell? ⟨G, 3, none⟩ = some (.slice ma L2 mc) ∧ u.cell? ⟨G, 4, none⟩ = some (.int .i64 en) ∧ u.cell? ⟨G, 5, none⟩ = some (.int .u64 (sq : Nat))) u from ⟨cell_of_row u G 0 _ 37 (0, 0) ((turns_new t).heap R0.out (fun x => x)), cell_of_row u G 1 _ 37 (0, 0) ((turns_new t).heap R0.out (fun x => x)), cell_of_row u G 2 _ 37 (0, 0) ((turns_new t).heap R0.out (fun x => x)), cell_of_row u G 3 _ 37 (0, 0) ((turns_new t).heap R0.out (fun x => x)), cell_of_row u G 4 _ 37 (0, 0) ((turns_new t).heap R0.out (fun x => x)), cell_of_row u G 5 _ 37 (0, 0) ((turns_new t).heap R0.out (fun x => x))⟩)
          have tV : Turns (fun j => w0.heap.size ≤ j) w0 _ := ((HB0.out.trans TU.out).drew).mono fun _ _ (x : False) => x.elim
          refine wp_region_held_drew (S := fun u => u.cell? ⟨G, 0, none⟩ = some (.int .u64 (no : Nat)) ∧ u.cell? ⟨G, 1, none⟩ = some (.int .i64 sz) ∧ u.cell? ⟨G, 2, none⟩ = some (.slice la L1 lc) ∧ u.cell? ⟨G, 3, none⟩ = some (.slice ma L2 mc) ∧ u.cell? ⟨G, 4, none⟩ = some (.int .i64 en) ∧ u.cell? ⟨G, 5, none⟩ = some (.int .u64 (sq : Nat))) (by kernel_rfl) (SK4.out _ tV) (fun _ => ?_)
          change wpAnyH _ _ _ _ _ 13 (Array.replicate 13 false) _ _
          refine wpAnyH_take (i := 1) (oi := { dst := some 43, op := Op.move (Operand.tmp 0), type := 50, pos := "ref.go:97", after := #[], guard := none }) (v := .slice (some ⟨b, off, none⟩) n c) rfl (by kernel_rfl) (by kernel_rfl) (by kernel_rfl) (fun _ _ _ h => h) (Or.inl ⟨by rfl, ?_⟩) (SK4.out _ tV) ?_
          · rintro w ⟨d0, d1, d2, d3, d4, d5⟩
            go_simp
          simp only [Act.put, List.setIfInBounds_toArray, List.set_cons_zero, List.set_cons_succ]
          refine wpAnyH_take (i := 2) (oi := { dst := some 44, op := Op.move (Operand.tmp 7), type := 3, pos := "ref.go:97", after := #[], guard := none }) (v := .int .i64 ((k : Nat) : Int)) rfl (by kernel_rfl) (by kernel_rfl) (by kernel_rfl) (fun _ _ _ h => h) (Or.inl ⟨by rfl, ?_⟩) (SK4.out _ tV) ?_
          · rintro w ⟨d0, d1, d2, d3, d4, d5⟩
            go_simp
          simp only [Act.put, List.setIfInBounds_toArray, List.set_cons_zero, List.set_cons_succ]
          refine wpAnyH_take (i := 3) (oi := { dst := some 45, op := Op.slice 50 (Operand.tmp 43) none (some (Operand.tmp 44)) none, type := 50, pos := "ref.go:97", after := #[{ on := 1, ground := Ground.data }, { on := 2, ground := Ground.data }], guard := none }) (v := .slice (some ⟨b, off, none⟩) k c) rfl (by kernel_rfl) (by kernel_rfl) (by kernel_rfl) (fun _ _ _ h => h) (Or.inl ⟨by rfl, ?_⟩) (SK4.out _ tV) ?_
          · rintro w ⟨d0, d1, d2, d3, d4, d5⟩
            go_simp; exact fun h => absurd h HCK.out
          simp only [Act.put, List.setIfInBounds_toArray, List.set_cons_zero, List.set_cons_succ]
          refine wpAnyH_take (i := 5) (oi := { dst := some 47, op := Op.load 37 (Operand.tmp 4), type := 37, pos := "ref.go:97", after := #[], guard := none }) (v := .agg #[.int .u64 (no : Nat), .int .i64 sz, .slice la L1 lc, .slice ma L2 mc, .int .i64 en, .int .u64 (sq : Nat)]) rfl (by kernel_rfl) (by kernel_rfl) (by kernel_rfl) (fun _ _ _ h => h) (Or.inl ⟨by rfl, ?_⟩) (SK4.out _ tV) ?_
          · rintro w ⟨d0, d1, d2, d3, d4, d5⟩
            go_simp
          simp only [Act.put, List.setIfInBounds_toArray, List.set_cons_zero, List.set_cons_succ]
          refine wpAnyH_take (i := 8) (oi := { dst := some 50, op := Op.move (Operand.tmp 0), type := 50, pos := "ref.go:97", after := #[], guard := none }) (v := .slice (some ⟨b, off, none⟩) n c) rfl (by kernel_rfl) (by kernel_rfl) (by kernel_rfl) (fun _ _ _ h => h) (Or.inl ⟨by rfl, ?_⟩) (SK4.out _ tV) ?_
          · rintro w ⟨d0, d1, d2, d3, d4, d5⟩
            go_simp
          simp only [Act.put, List.setIfInBounds_toArray, List.set_cons_zero, List.set_cons_succ]
          refine wpAnyH_take (i := 9) (oi := { dst := some 51, op := Op.move (Operand.tmp 7), type := 3, pos := "ref.go:97", after := #[], guard := none }) (v := .int .i64 ((k : Nat) : Int)) rfl (by kernel_rfl) (by kernel_rfl) (by kernel_rfl) (fun _ _ _ h => h) (Or.inl ⟨by rfl, ?_⟩) (SK4.out _ tV) ?_
          · rintro w ⟨d0, d1, d2, d3, d4, d5⟩
            go_simp
          simp only [Act.put, List.setIfInBounds_toArray, List.set_cons_zero, List.set_cons_succ]
          refine wpAnyH_take (i := 10) (oi := { dst := some 52, op := Op.slice 50 (Operand.tmp 50) (some (Operand.tmp 51)) none none, type := 50, pos := "ref.go:97", after := #[{ on := 8, ground := Ground.data }, { on := 9, ground := Ground.data }], guard := none }) (v := .slice (some ⟨b, off + k * 6, none⟩) (n - k) (c - k)) rfl (by kernel_rfl) (by kernel_rfl) (by kernel_rfl) (fun _ _ _ h => h) (Or.inl ⟨by rfl, ?_⟩) (SK4.out _ tV) ?_
          · rintro w ⟨d0, d1, d2, d3, d4, d5⟩
            go_simp; exact fun h => absurd h HCN.out
          simp only [Act.put, List.setIfInBounds_toArray, List.set_cons_zero, List.set_cons_succ]
          have HKL2 := hide (show k ≤ l.length by have := HL.out; omega)
          have SR1 := hide (fun (u : World) (t : Turns (fun j => w0.heap.size ≤ j) w0 u) => show Src Try.prog Try.t37.size 50 (.slice (some ⟨b, off, none⟩) k c) k (flCells (l.take k)) u from by
            have q := src_of_fils (c := c) (fils_take (H.out.quiet (TA.out.trans (turns_new t))) k)
            rwa [List.length_take, Nat.min_eq_left HKL2.out] at q)
          have SR3 := hide (fun (u : World) (t : Turns (fun j => w0.heap.size ≤ j) w0 u) => show Src Try.prog Try.t37.size 50 (.slice (some ⟨b, off + k * 6, none⟩) (n - k) (c - k)) (n - k) (flCells (l.drop k)) u from by
            have q := src_of_fils (a := (some ⟨b, off + k * 6, none⟩)) (R := l.drop k) (w := u) (c := c - k) (fils_drop (H.out.quiet (TA.out.trans (turns_new t))) k)
            rwa [List.length_drop, ← HL.out] at q)
          have HYC := hide (show Obj.cells (Tf.cells ⟨la, lc, ma, mc, ⟨no, sz, ls, ms, en, sq⟩⟩).toArray 37 (0, 0) = Obj.cells #[.int .u64 (no : Nat), .int .i64 sz, .slice la L1 lc, .slice ma L2 mc, .int .i64 en, .int .u64 (sq : Nat)] 37 (0, 0) by simp only [Tf.cells, Tf.lv, Tf.mv, HL1.out, HL2.out])
          have hk1 := HKL2.out
          generalize Vn.drew = U0 at *
          refine wpAnyH_ready (rs := [0, 6]) (by kernel_rfl) (by simp) ?_
          refine AllReadyH.cons rfl (fun K hK => ?_) (AllReadyH.cons rfl (fun K hK => ?_) AllReadyH.nil)
          · obtain ⟨uA, huA⟩ : ∃ uu, uu = U0.alloc (.cells #[] 37) := ⟨_, rfl⟩
            have tuA : Turns (fun _ => False) U0 uA := by rw [huA]; exact (Turns.refl _ _).alloc _
            have buA : w0.heap.size ≤ U0.heap.size := tV.size
            have luA : U0.heap.size < uA.heap.size := by rw [huA]; simp
            have rA : FRow uA w0.heap.size U0.heap.size 0 [] := by rw [huA]; exact frow_emp _ _ buA
            have tV := tV.trans (tuA.mono (S' := fun j => w0.heap.size ≤ j) fun _ _ (x : False) => x.elim)
            go_simp
            rw [← huA]
            refine hK.out _ _ (SK4.out _ tV) (fun _ => ?_)
            clear hK K huA
            refine wpAnyH_ready (rs := [4, 6]) (by kernel_rfl) (by simp) ?_
            refine AllReadyH.cons rfl (fun K hK => ?_) (AllReadyH.cons rfl (fun K hK => ?_) AllReadyH.nil)
            · obtain ⟨g1, n1, c1, w1, hr1, hn1, hf1, ht1, hq1⟩ := append_frow uA w0.heap.size (U0.heap.size) (0) ([]) rA tV.size (.slice (some ⟨b, off, none⟩) k c) (k) (l.take k) (SR1.out _ tV) (by rw [List.length_take]; omega) (by have := HL.out; simp; omega)
              have HN1 := hide hn1
              clear hn1
              have tV := tV.trans (ht1.mono (S' := fun j => w0.heap.size ≤ j) fun k _ e => by rw [e]; exact (rA).hB)
              refine step_append_run rfl _ _ 50 rfl (.slice (some ⟨U0.heap.size, 0, none⟩) 0 0) (.slice (some ⟨b, off, none⟩) k c) rfl rfl _ _ (hr1 _) 46 rfl ?_
              refine hK.out _ _ (SK4.out _ tV) (fun _ => ?_)
              clear hK K
              simp only [Act.put, List.setIfInBounds_toArray, List.set_cons_zero, List.set_cons_succ]
              have lg1 := hf1.lt
              refine wpAnyH_ready (rs := [6]) (by kernel_rfl) (by simp) ?_
              refine AllReadyH.cons rfl (fun K hK => ?_) AllReadyH.nil
              obtain ⟨uY, huY⟩ : ∃ uu, uu = w1.alloc (.cells #[.int .u64 (no : Nat), .int .i64 sz, .slice la L1 lc, .slice ma L2 mc, .int .i64 en, .int .u64 (sq : Nat)] 37) := ⟨_, rfl⟩
              have tuY : Turns (fun _ => False) w1 uY := by rw [huY]; exact (Turns.refl _ _).alloc _
              have buY : w0.heap.size ≤ w1.heap.size := tV.size
              have luY : w1.heap.size < uY.heap.size := by rw [huY]; simp
              have rY : uY.heap[w1.heap.size]? = some (Obj.cells (Tf.cells ⟨la, lc, ma, mc, ⟨no, sz, ls, ms, en, sq⟩⟩).toArray 37 (0, 0)) := by rw [HYC.out, huY]; exact heap_alloc_new _ _
              have tV := tV.trans (tuY.mono (S' := fun j => w0.heap.size ≤ j) fun _ _ (x : False) => x.elim)
              go_simp
              rw [← huY]
              refine hK.out _ _ (SK4.out _ tV) (fun _ => ?_)
              clear hK K huY
              have hf1 := hf1.turns tuY (fun x => x)
              refine wpAnyH_ready (rs := [7]) (by kernel_rfl) (by simp) ?_
              refine AllReadyH.cons rfl (fun K hK => ?_) AllReadyH.nil
              obtain ⟨g2, n2, c2, w2, hr2, hn2, hf2, ht2, hq2⟩ := append_frow uY w0.heap.size (g1) (c1) ([] ++ l.take k) hf1 tV.size (.slice (some ⟨w1.heap.size, 0, none⟩) 1 1) (1) ([⟨la, lc, ma, mc, ⟨no, sz, ls, ms, en, sq⟩⟩]) (src_one rY) (rfl) (by have := HL.out; simp; omega)
              have HN2 := hide hn2
              clear hn2
              rw [← HN1.out] at hr2
              have tV := tV.trans (ht2.mono (S' := fun j => w0.heap.size ≤ j) fun k _ e => by rw [e]; exact (hf1).hB)
              refine step_append_run rfl _ _ 50 rfl (.slice (some ⟨g1, 0, none⟩) n1 c1) (.slice (some ⟨w1.heap.size, 0, none⟩) 1 1) rfl rfl _ _ (hr2 _) 49 rfl ?_
              refine hK.out _ _ (SK4.out _ tV) (fun _ => ?_)
              clear hK K
              simp only [Act.put, List.setIfInBounds_toArray, List.set_cons_zero, List.set_cons_succ]
              have lg2 := hf2.lt
              refine wpAnyH_ready (rs := [11]) (by kernel_rfl) (by simp) ?_
              refine AllReadyH.cons rfl (fun K hK => ?_) AllReadyH.nil
              obtain ⟨g3, n3, c3, w3, hr3, hn3, hf3, ht3, hq3⟩ := append_frow w2 w0.heap.size (g2) (c2) ([] ++ l.take k ++ [⟨la, lc, ma, mc, ⟨no, sz, ls, ms, en, sq⟩⟩]) hf2 tV.size (.slice (some ⟨b, off + k * 6, none⟩) (n - k) (c - k)) (n - k) (l.drop k) (SR3.out _ tV) (by rw [List.length_drop]; have := HL.out; omega) (by have := HL.out; simp; omega)
              have HN3 := hide hn3
              clear hn3
              rw [← HN2.out] at hr3
              have tV := tV.trans (ht3.mono (S' := fun j => w0.heap.size ≤ j) fun k _ e => by rw [e]; exact (hf2).hB)
              refine step_append_run rfl _ _ 50 rfl (.slice (some ⟨g2, 0, none⟩) n2 c2) (.slice (some ⟨b, off + k * 6, none⟩) (n - k) (c - k)) rfl rfl _ _ (hr3 _) 53 rfl ?_
              refine hK.out _ _ (SK4.out _ tV) (fun _ => ?_)
              clear hK K
              simp only [Act.put, List.setIfInBounds_toArray, List.set_cons_zero, List.set_cons_succ]
              have lg3 := hf3.lt
              refine wpAnyH_take (i := 12) (oi := { dst := some 6, op := Op.assign (Operand.tmp 53), type := 50, pos := "ref.go:97", after := #[{ on := 11, ground := Ground.data }, { on := 11, ground := Ground.chain }, { on := 0, ground := Ground.phase }, { on := 1, ground := Ground.phase }, { on := 2, ground := Ground.phase }, { on := 3, ground := Ground.phase }, { on := 4, ground := Ground.phase }, { on := 5, ground := Ground.phase }, { on := 6, ground := Ground.phase }, { on := 7, ground := Ground.phase }, { on := 8, ground := Ground.phase }, { on := 9, ground := Ground.phase }, { on := 10, ground := Ground.phase }, { on := 11, ground := Ground.phase }], guard := none }) (v := .slice (some ⟨g3, 0, none⟩) n3 c3) rfl (by kernel_rfl) (by kernel_rfl) (by kernel_rfl) (fun _ _ _ h => h) (Or.inl ⟨by rfl, ?_⟩) (SK4.out _ tV) ?_
              · rintro w ⟨d0, d1, d2, d3, d4, d5⟩
                go_simp
              simp only [Act.put, List.setIfInBounds_toArray, List.set_cons_zero, List.set_cons_succ]
              refine wpAnyH_done (by kernel_rfl) ?_ _
              have HF3 := hide hf3
              have TZ := hide tV
              clear hf3 tV hr1 hr2 hr3 hf1 hf2 ht1 ht2 ht3 hq1 hq2 hq3 rA rY
              go_wp2_with fail
              go_ret
              have e3 : [] ++ l.take k ++ [⟨la, lc, ma, mc, ⟨no, sz, ls, ms, en, sq⟩⟩] ++ l.drop k = l.take k ++ ⟨la, lc, ma, mc, ⟨no, sz, ls, ms, en, sq⟩⟩ :: l.drop k := by simp
              have h3 := HF3.out
              have h4 := HN3.out
              rw [e3] at h3 h4
              have h5 : n3 = l.length + 1 := by have := HL.out; rw [h4]; simp; omega
              have h6 := HG.out
              have h7 := TA.out.size
              have h8 := h3.hB
              exact ⟨k, some ⟨g3, 0, none⟩, c3, by rw [h5]; rfl, HKL2.out, .inr ⟨g3, rfl, by omega, h3.le, h3.row⟩, HLTS.out, HP2.out, TA.out.trans (turns_new TZ.out)⟩
            · obtain ⟨uY, huY⟩ : ∃ uu, uu = uA.alloc (.cells #[.int .u64 (no : Nat), .int .i64 sz, .slice la L1 lc, .slice ma L2 mc, .int .i64 en, .int .u64 (sq : Nat)] 37) := ⟨_, rfl⟩
              have tuY : Turns (fun _ => False) uA uY := by rw [huY]; exact (Turns.refl _ _).alloc _
              have buY : w0.heap.size ≤ uA.heap.size := tV.size
              have luY : uA.heap.size < uY.heap.size := by rw [huY]; simp
              have rY : uY.heap[uA.heap.size]? = some (Obj.cells (Tf.cells ⟨la, lc, ma, mc, ⟨no, sz, ls, ms, en, sq⟩⟩).toArray 37 (0, 0)) := by rw [HYC.out, huY]; exact heap_alloc_new _ _
              have tV := tV.trans (tuY.mono (S' := fun j => w0.heap.size ≤ j) fun _ _ (x : False) => x.elim)
              go_simp
              rw [← huY]
              refine hK.out _ _ (SK4.out _ tV) (fun _ => ?_)
              clear hK K huY
              have rA := rA.turns tuY (fun x => x)
              refine wpAnyH_ready (rs := [4]) (by kernel_rfl) (by simp) ?_
              refine AllReadyH.cons rfl (fun K hK => ?_) AllReadyH.nil
              obtain ⟨g1, n1, c1, w1, hr1, hn1, hf1, ht1, hq1⟩ := append_frow uY w0.heap.size (U0.heap.size) (0) ([]) rA tV.size (.slice (some ⟨b, off, none⟩) k c) (k) (l.take k) (SR1.out _ tV) (by rw [List.length_take]; omega) (by have := HL.out; simp; omega)
              have HN1 := hide hn1
              clear hn1
              have tV := tV.trans (ht1.mono (S' := fun j => w0.heap.size ≤ j) fun k _ e => by rw [e]; exact (rA).hB)
              refine step_append_run rfl _ _ 50 rfl (.slice (some ⟨U0.heap.size, 0, none⟩) 0 0) (.slice (some ⟨b, off, none⟩) k c) rfl rfl _ _ (hr1 _) 46 rfl ?_
              refine hK.out _ _ (SK4.out _ tV) (fun _ => ?_)
              clear hK K
              simp only [Act.put, List.setIfInBounds_toArray, List.set_cons_zero, List.set_cons_succ]
              have lg1 := hf1.lt
              have rY := ht1.heap rY (by omega)
              refine wpAnyH_ready (rs := [7]) (by kernel_rfl) (by simp) ?_
              refine AllReadyH.cons rfl (fun K hK => ?_) AllReadyH.nil
              obtain ⟨g2, n2, c2, w2, hr2, hn2, hf2, ht2, hq2⟩ := append_frow w1 w0.heap.size (g1) (c1) ([] ++ l.take k) hf1 tV.size (.slice (some ⟨uA.heap.size, 0, none⟩) 1 1) (1) ([⟨la, lc, ma, mc, ⟨no, sz, ls, ms, en, sq⟩⟩]) (src_one rY) (rfl) (by have := HL.out; simp; omega)
              have HN2 := hide hn2
              clear hn2
              rw [← HN1.out] at hr2
              have tV := tV.trans (ht2.mono (S' := fun j => w0.heap.size ≤ j) fun k _ e => by rw [e]; exact (hf1).hB)
              refine step_append_run rfl _ _ 50 rfl (.slice (some ⟨g1, 0, none⟩) n1 c1) (.slice (some ⟨uA.heap.size, 0, none⟩) 1 1) rfl rfl _ _ (hr2 _) 49 rfl ?_
              refine hK.out _ _ (SK4.out _ tV) (fun _ => ?_)
              clear hK K
              simp only [Act.put, List.setIfInBounds_toArray, List.set_cons_zero, List.set_cons_succ]
              have lg2 := hf2.lt
              refine wpAnyH_ready (rs := [11]) (by kernel_rfl) (by simp) ?_
              refine AllReadyH.cons rfl (fun K hK => ?_) AllReadyH.nil
              obtain ⟨g3, n3, c3, w3, hr3, hn3, hf3, ht3, hq3⟩ := append_frow w2 w0.heap.size (g2) (c2) ([] ++ l.take k ++ [⟨la, lc, ma, mc, ⟨no, sz, ls, ms, en, sq⟩⟩]) hf2 tV.size (.slice (some ⟨b, off + k * 6, none⟩) (n - k) (c - k)) (n - k) (l.drop k) (SR3.out _ tV) (by rw [List.length_drop]; have := HL.out; omega) (by have := HL.out; simp; omega)
              have HN3 := hide hn3
              clear hn3
              rw [← HN2.out] at hr3
              have tV := tV.trans (ht3.mono (S' := fun j => w0.heap.size ≤ j) fun k _ e => by rw [e]; exact (hf2).hB)
              refine step_append_run rfl _ _ 50 rfl (.slice (some ⟨g2, 0, none⟩) n2 c2) (.slice (some ⟨b, off + k * 6, none⟩) (n - k) (c - k)) rfl rfl _ _ (hr3 _) 53 rfl ?_
              refine hK.out _ _ (SK4.out _ tV) (fun _ => ?_)
              clear hK K
              simp only [Act.put, List.setIfInBounds_toArray, List.set_cons_zero, List.set_cons_succ]
              have lg3 := hf3.lt
              refine wpAnyH_take (i := 12) (oi := { dst := some 6, op := Op.assign (Operand.tmp 53), type := 50, pos := "ref.go:97", after := #[{ on := 11, ground := Ground.data }, { on := 11, ground := Ground.chain }, { on := 0, ground := Ground.phase }, { on := 1, ground := Ground.phase }, { on := 2, ground := Ground.phase }, { on := 3, ground := Ground.phase }, { on := 4, ground := Ground.phase }, { on := 5, ground := Ground.phase }, { on := 6, ground := Ground.phase }, { on := 7, ground := Ground.phase }, { on := 8, ground := Ground.phase }, { on := 9, ground := Ground.phase }, { on := 10, ground := Ground.phase }, { on := 11, ground := Ground.phase }], guard := none }) (v := .slice (some ⟨g3, 0, none⟩) n3 c3) rfl (by kernel_rfl) (by kernel_rfl) (by kernel_rfl) (fun _ _ _ h => h) (Or.inl ⟨by rfl, ?_⟩) (SK4.out _ tV) ?_
              · rintro w ⟨d0, d1, d2, d3, d4, d5⟩
                go_simp
              simp only [Act.put, List.setIfInBounds_toArray, List.set_cons_zero, List.set_cons_succ]
              refine wpAnyH_done (by kernel_rfl) ?_ _
              have HF3 := hide hf3
              have TZ := hide tV
              clear hf3 tV hr1 hr2 hr3 hf1 hf2 ht1 ht2 ht3 hq1 hq2 hq3 rA rY
              go_wp2_with fail
              go_ret
              have e3 : [] ++ l.take k ++ [⟨la, lc, ma, mc, ⟨no, sz, ls, ms, en, sq⟩⟩] ++ l.drop k = l.take k ++ ⟨la, lc, ma, mc, ⟨no, sz, ls, ms, en, sq⟩⟩ :: l.drop k := by simp
              have h3 := HF3.out
              have h4 := HN3.out
              rw [e3] at h3 h4
              have h5 : n3 = l.length + 1 := by have := HL.out; rw [h4]; simp; omega
              have h6 := HG.out
              have h7 := TA.out.size
              have h8 := h3.hB
              exact ⟨k, some ⟨g3, 0, none⟩, c3, by rw [h5]; rfl, HKL2.out, .inr ⟨g3, rfl, by omega, h3.le, h3.row⟩, HLTS.out, HP2.out, TA.out.trans (turns_new TZ.out)⟩
          · obtain ⟨uY, huY⟩ : ∃ uu, uu = U0.alloc (.cells #[.int .u64 (no : Nat), .int .i64 sz, .slice la L1 lc, .slice ma L2 mc, .int .i64 en, .int .u64 (sq : Nat)] 37) := ⟨_, rfl⟩
            have tuY : Turns (fun _ => False) U0 uY := by rw [huY]; exact (Turns.refl _ _).alloc _
            have buY : w0.heap.size ≤ U0.heap.size := tV.size
            have luY : U0.heap.size < uY.heap.size := by rw [huY]; simp
            have rY : uY.heap[U0.heap.size]? = some (Obj.cells (Tf.cells ⟨la, lc, ma, mc, ⟨no, sz, ls, ms, en, sq⟩⟩).toArray 37 (0, 0)) := by rw [HYC.out, huY]; exact heap_alloc_new _ _
            have tV := tV.trans (tuY.mono (S' := fun j => w0.heap.size ≤ j) fun _ _ (x : False) => x.elim)
            go_simp
            rw [← huY]
            refine hK.out _ _ (SK4.out _ tV) (fun _ => ?_)
            clear hK K huY
            refine wpAnyH_ready (rs := [0]) (by kernel_rfl) (by simp) ?_
            refine AllReadyH.cons rfl (fun K hK => ?_) AllReadyH.nil
            obtain ⟨uA, huA⟩ : ∃ uu, uu = uY.alloc (.cells #[] 37) := ⟨_, rfl⟩
            have tuA : Turns (fun _ => False) uY uA := by rw [huA]; exact (Turns.refl _ _).alloc _
            have buA : w0.heap.size ≤ uY.heap.size := tV.size
            have luA : uY.heap.size < uA.heap.size := by rw [huA]; simp
            have rA : FRow uA w0.heap.size uY.heap.size 0 [] := by rw [huA]; exact frow_emp _ _ buA
            have tV := tV.trans (tuA.mono (S' := fun j => w0.heap.size ≤ j) fun _ _ (x : False) => x.elim)
            go_simp
            rw [← huA]
            refine hK.out _ _ (SK4.out _ tV) (fun _ => ?_)
            clear hK K huA
            have rY := tuA.heap rY (fun x => x)
            refine wpAnyH_ready (rs := [4]) (by kernel_rfl) (by simp) ?_
            refine AllReadyH.cons rfl (fun K hK => ?_) AllReadyH.nil
            obtain ⟨g1, n1, c1, w1, hr1, hn1, hf1, ht1, hq1⟩ := append_frow uA w0.heap.size (uY.heap.size) (0) ([]) rA tV.size (.slice (some ⟨b, off, none⟩) k c) (k) (l.take k) (SR1.out _ tV) (by rw [List.length_take]; omega) (by have := HL.out; simp; omega)
            have HN1 := hide hn1
            clear hn1
            have tV := tV.trans (ht1.mono (S' := fun j => w0.heap.size ≤ j) fun k _ e => by rw [e]; exact (rA).hB)
            refine step_append_run rfl _ _ 50 rfl (.slice (some ⟨uY.heap.size, 0, none⟩) 0 0) (.slice (some ⟨b, off, none⟩) k c) rfl rfl _ _ (hr1 _) 46 rfl ?_
            refine hK.out _ _ (SK4.out _ tV) (fun _ => ?_)
            clear hK K
            simp only [Act.put, List.setIfInBounds_toArray, List.set_cons_zero, List.set_cons_succ]
            have lg1 := hf1.lt
            have rY := ht1.heap rY (by omega)
            refine wpAnyH_ready (rs := [7]) (by kernel_rfl) (by simp) ?_
            refine AllReadyH.cons rfl (fun K hK => ?_) AllReadyH.nil
            obtain ⟨g2, n2, c2, w2, hr2, hn2, hf2, ht2, hq2⟩ := append_frow w1 w0.heap.size (g1) (c1) ([] ++ l.take k) hf1 tV.size (.slice (some ⟨U0.heap.size, 0, none⟩) 1 1) (1) ([⟨la, lc, ma, mc, ⟨no, sz, ls, ms, en, sq⟩⟩]) (src_one rY) (rfl) (by have := HL.out; simp; omega)
            have HN2 := hide hn2
            clear hn2
            rw [← HN1.out] at hr2
            have tV := tV.trans (ht2.mono (S' := fun j => w0.heap.size ≤ j) fun k _ e => by rw [e]; exact (hf1).hB)
            refine step_append_run rfl _ _ 50 rfl (.slice (some ⟨g1, 0, none⟩) n1 c1) (.slice (some ⟨U0.heap.size, 0, none⟩) 1 1) rfl rfl _ _ (hr2 _) 49 rfl ?_
            refine hK.out _ _ (SK4.out _ tV) (fun _ => ?_)
            clear hK K
            simp only [Act.put, List.setIfInBounds_toArray, List.set_cons_zero, List.set_cons_succ]
            have lg2 := hf2.lt
            refine wpAnyH_ready (rs := [11]) (by kernel_rfl) (by simp) ?_
            refine AllReadyH.cons rfl (fun K hK => ?_) AllReadyH.nil
            obtain ⟨g3, n3, c3, w3, hr3, hn3, hf3, ht3, hq3⟩ := append_frow w2 w0.heap.size (g2) (c2) ([] ++ l.take k ++ [⟨la, lc, ma, mc, ⟨no, sz, ls, ms, en, sq⟩⟩]) hf2 tV.size (.slice (some ⟨b, off + k * 6, none⟩) (n - k) (c - k)) (n - k) (l.drop k) (SR3.out _ tV) (by rw [List.length_drop]; have := HL.out; omega) (by have := HL.out; simp; omega)
            have HN3 := hide hn3
            clear hn3
            rw [← HN2.out] at hr3
            have tV := tV.trans (ht3.mono (S' := fun j => w0.heap.size ≤ j) fun k _ e => by rw [e]; exact (hf2).hB)
            refine step_append_run rfl _ _ 50 rfl (.slice (some ⟨g2, 0, none⟩) n2 c2) (.slice (some ⟨b, off + k * 6, none⟩) (n - k) (c - k)) rfl rfl _ _ (hr3 _) 53 rfl ?_
            refine hK.out _ _ (SK4.out _ tV) (fun _ => ?_)
            clear hK K
            simp only [Act.put, List.setIfInBounds_toArray, List.set_cons_zero, List.set_cons_succ]
            have lg3 := hf3.lt
            refine wpAnyH_take (i := 12) (oi := { dst := some 6, op := Op.assign (Operand.tmp 53), type := 50, pos := "ref.go:97", after := #[{ on := 11, ground := Ground.data }, { on := 11, ground := Ground.chain }, { on := 0, ground := Ground.phase }, { on := 1, ground := Ground.phase }, { on := 2, ground := Ground.phase }, { on := 3, ground := Ground.phase }, { on := 4, ground := Ground.phase }, { on := 5, ground := Ground.phase }, { on := 6, ground := Ground.phase }, { on := 7, ground := Ground.phase }, { on := 8, ground := Ground.phase }, { on := 9, ground := Ground.phase }, { on := 10, ground := Ground.phase }, { on := 11, ground := Ground.phase }], guard := none }) (v := .slice (some ⟨g3, 0, none⟩) n3 c3) rfl (by kernel_rfl) (by kernel_rfl) (by kernel_rfl) (fun _ _ _ h => h) (Or.inl ⟨by rfl, ?_⟩) (SK4.out _ tV) ?_
            · rintro w ⟨d0, d1, d2, d3, d4, d5⟩
              go_simp
            simp only [Act.put, List.setIfInBounds_toArray, List.set_cons_zero, List.set_cons_succ]
            refine wpAnyH_done (by kernel_rfl) ?_ _
            have HF3 := hide hf3
            have TZ := hide tV
            clear hf3 tV hr1 hr2 hr3 hf1 hf2 ht1 ht2 ht3 hq1 hq2 hq3 rA rY
            go_wp2_with fail
            go_ret
            have e3 : [] ++ l.take k ++ [⟨la, lc, ma, mc, ⟨no, sz, ls, ms, en, sq⟩⟩] ++ l.drop k = l.take k ++ ⟨la, lc, ma, mc, ⟨no, sz, ls, ms, en, sq⟩⟩ :: l.drop k := by simp
            have h3 := HF3.out
            have h4 := HN3.out
            rw [e3] at h3 h4
            have h5 : n3 = l.length + 1 := by have := HL.out; rw [h4]; simp; omega
            have h6 := HG.out
            have h7 := TA.out.size
            have h8 := h3.hB
            exact ⟨k, some ⟨g3, 0, none⟩, c3, by rw [h5]; rfl, HKL2.out, .inr ⟨g3, rfl, by omega, h3.le, h3.row⟩, HLTS.out, HP2.out, TA.out.trans (turns_new TZ.out)⟩
    · have HKN := hide (show n ≤ k by omega)
      have HP2 := hide (show ∀ x', l[k]? = some x' → ¬ cmpF lev x'.f ⟨no, sz, ls, ms, en, sq⟩ < 0 from fun x' hx' => by have := HL.out; have := (List.getElem?_eq_some_iff.1 hx').1; omega)
      clear hkn f0 f2
      go_upto_region 2 with (fail)
      refine wp_region_held_drew (S := fun _ => True) (by kernel_rfl) trivial (fun _ => ?_)
      change wpAnyH _ _ _ _ _ 32 (Array.replicate 32 false) _ _
      refine wpAnyH_take (i := 0) (oi := { dst := some 8, op := Op.move (Operand.tmp 7), type := 3, pos := "ref.go:94", after := #[], guard := none }) (v := .int .i64 ((k : Nat) : Int)) rfl (by kernel_rfl) (by kernel_rfl) (by kernel_rfl) (fun _ _ _ h => h) (Or.inl ⟨by rfl, ?_⟩) trivial ?_
      · rintro w -
        go_simp
      simp only [Act.put, List.setIfInBounds_toArray, List.set_cons_zero, List.set_cons_succ]
      refine wpAnyH_take (i := 1) (oi := { dst := some 9, op := Op.move (Operand.tmp 0), type := 50, pos := "ref.go:94", after := #[], guard := none }) (v := .slice a n c) rfl (by kernel_rfl) (by kernel_rfl) (by kernel_rfl) (fun _ _ _ h => h) (Or.inl ⟨by rfl, ?_⟩) trivial ?_
      · rintro w -
        go_simp
      simp only [Act.put, List.setIfInBounds_toArray, List.set_cons_zero, List.set_cons_succ]
      refine wpAnyH_take (i := 2) (oi := { dst := some 10, op := Op.call { callee := Callee.builtin Builtin.len, args := #[Operand.tmp 9], argTypes := #[50] }, type := 3, pos := "ref.go:94", after := #[{ on := 1, ground := Ground.data }], guard := none }) (v := .int .i64 ((n : Nat) : Int)) rfl (by kernel_rfl) (by kernel_rfl) (by kernel_rfl) (fun _ _ _ h => h) (Or.inl ⟨by rfl, ?_⟩) trivial ?_
      · rintro w -
        go_simp
      simp only [Act.put, List.setIfInBounds_toArray, List.set_cons_zero, List.set_cons_succ]
      refine wpAnyH_take (i := 3) (oi := { dst := some 11, op := Op.binOp BinOp.lss 3 (Operand.tmp 8) (Operand.tmp 10) 3, type := 4, pos := "ref.go:94", after := #[{ on := 0, ground := Ground.data }, { on := 2, ground := Ground.data }], guard := none }) (v := .bool false) rfl (by kernel_rfl) (by kernel_rfl) (by kernel_rfl) (fun _ _ _ h => h) (Or.inl ⟨by rfl, ?_⟩) trivial ?_
      · rintro w -
        go_simp; exact HKN.out
      simp only [Act.put, List.setIfInBounds_toArray, List.set_cons_zero, List.set_cons_succ]
      refine wpAnyH_take (i := 4) (oi := { dst := some 12, op := Op.move (Operand.tmp 11), type := 4, pos := "ref.go:94", after := #[{ on := 3, ground := Ground.data }], guard := none }) (v := .bool false) rfl (by kernel_rfl) (by kernel_rfl) (by kernel_rfl) (fun _ _ _ h => h) (Or.inl ⟨by rfl, ?_⟩) trivial ?_
      · rintro w -
        go_simp
      simp only [Act.put, List.setIfInBounds_toArray, List.set_cons_zero, List.set_cons_succ]
      refine wpAnyH_take (i := 5) (oi := { dst := some 13, op := Op.move (Operand.tmp 2), type := 3, pos := "ref.go:94", after := #[{ on := 4, ground := Ground.guard }], guard := some (4, true) }) (v := undef) rfl (by kernel_rfl) (by kernel_rfl) (by kernel_rfl) (fun _ _ _ h => h) (Or.inr ⟨by rfl, rfl⟩) trivial ?_
      simp only [Act.put, List.setIfInBounds_toArray, List.set_cons_zero, List.set_cons_succ]
      refine wpAnyH_take (i := 6) (oi := { dst := some 14, op := Op.binOp BinOp.eql 3 (Operand.tmp 13) (Operand.const (Value.int IntKind.i64 0)) 3, type := 4, pos := "ref.go:94", after := #[{ on := 5, ground := Ground.data }, { on := 4, ground := Ground.guard }], guard := some (4, true) }) (v := undef) rfl (by kernel_rfl) (by kernel_rfl) (by kernel_rfl) (fun _ _ _ h => h) (Or.inr ⟨by rfl, rfl⟩) trivial ?_
      simp only [Act.put, List.setIfInBounds_toArray, List.set_cons_zero, List.set_cons_succ]
      refine wpAnyH_take (i := 7) (oi := { dst := some 15, op := Op.move (Operand.tmp 14), type := 4, pos := "ref.go:94", after := #[{ on := 6, ground := Ground.data }, { on := 4, ground := Ground.chain }, { on := 4, ground := Ground.guard }], guard := some (4, true) }) (v := undef) rfl (by kernel_rfl) (by kernel_rfl) (by kernel_rfl) (fun _ _ _ h => h) (Or.inr ⟨by rfl, rfl⟩) trivial ?_
      simp only [Act.put, List.setIfInBounds_toArray, List.set_cons_zero, List.set_cons_succ]
      refine wpAnyH_take (i := 8) (oi := { dst := some 16, op := Op.move (Operand.tmp 0), type := 50, pos := "ref.go:94", after := #[{ on := 7, ground := Ground.guard }], guard := some (7, true) }) (v := undef) rfl (by kernel_rfl) (by kernel_rfl) (by kernel_rfl) (fun _ _ _ h => h) (Or.inr ⟨by rfl, rfl⟩) trivial ?_
      simp only [Act.put, List.setIfInBounds_toArray, List.set_cons_zero, List.set_cons_succ]
      refine wpAnyH_take (i := 9) (oi := { dst := some 17, op := Op.move (Operand.tmp 7), type := 3, pos := "ref.go:94", after := #[{ on := 7, ground := Ground.guard }], guard := some (7, true) }) (v := undef) rfl (by kernel_rfl) (by kernel_rfl) (by kernel_rfl) (fun _ _ _ h => h) (Or.inr ⟨by rfl, rfl⟩) trivial ?_
      simp only [Act.put, List.setIfInBounds_toArray, List.set_cons_zero, List.set_cons_succ]
      refine wpAnyH_take (i := 10) (oi := { dst := some 18, op := Op.indexAddr 50 (Operand.tmp 16) (Operand.tmp 17), type := 0, pos := "ref.go:94", after := #[{ on := 8, ground := Ground.data }, { on := 9, ground := Ground.data }, { on := 7, ground := Ground.guard }], guard := some (7, true) }) (v := undef) rfl (by kernel_rfl) (by kernel_rfl) (by kernel_rfl) (fun _ _ _ h => h) (Or.inr ⟨by rfl, rfl⟩) trivial ?_
      simp only [Act.put, List.setIfInBounds_toArray, List.set_cons_zero, List.set_cons_succ]
      refine wpAnyH_take (i := 11) (oi := { dst := some 19, op := Op.fieldAddr 37 (Operand.tmp 18) 0, type := 0, pos := "ref.go:94", after := #[{ on := 10, ground := Ground.data }, { on := 7, ground := Ground.guard }], guard := some (7, true) }) (v := undef) rfl (by kernel_rfl) (by kernel_rfl) (by kernel_rfl) (fun _ _ _ h => h) (Or.inr ⟨by rfl, rfl⟩) trivial ?_
      simp only [Act.put, List.setIfInBounds_toArray, List.set_cons_zero, List.set_cons_succ]
      refine wpAnyH_take (i := 12) (oi := { dst := some 20, op := Op.load 23 (Operand.tmp 19), type := 23, pos := "ref.go:94", after := #[{ on := 11, ground := Ground.data }, { on := 7, ground := Ground.guard }], guard := some (7, true) }) (v := undef) rfl (by kernel_rfl) (by kernel_rfl) (by kernel_rfl) (fun _ _ _ h => h) (Or.inr ⟨by rfl, rfl⟩) trivial ?_
      simp only [Act.put, List.setIfInBounds_toArray, List.set_cons_zero, List.set_cons_succ]
      refine wpAnyH_take (i := 13) (oi := { dst := some 21, op := Op.fieldAddr 37 (Operand.tmp 4) 0, type := 0, pos := "ref.go:94", after := #[{ on := 7, ground := Ground.guard }], guard := some (7, true) }) (v := undef) rfl (by kernel_rfl) (by kernel_rfl) (by kernel_rfl) (fun _ _ _ h => h) (Or.inr ⟨by rfl, rfl⟩) trivial ?_
      simp only [Act.put, List.setIfInBounds_toArray, List.set_cons_zero, List.set_cons_succ]
      refine wpAnyH_take (i := 14) (oi := { dst := some 22, op := Op.load 23 (Operand.tmp 21), type := 23, pos := "ref.go:94", after := #[{ on := 13, ground := Ground.data }, { on := 7, ground := Ground.guard }], guard := some (7, true) }) (v := undef) rfl (by kernel_rfl) (by kernel_rfl) (by kernel_rfl) (fun _ _ _ h => h) (Or.inr ⟨by rfl, rfl⟩) trivial ?_
      simp only [Act.put, List.setIfInBounds_toArray, List.set_cons_zero, List.set_cons_succ]
      refine wpAnyH_take (i := 15) (oi := { dst := some 23, op := Op.binOp BinOp.lss 23 (Operand.tmp 20) (Operand.tmp 22) 23, type := 4, pos := "ref.go:94", after := #[{ on := 12, ground := Ground.data }, { on := 14, ground := Ground.data }, { on := 7, ground := Ground.guard }], guard := some (7, true) }) (v := undef) rfl (by kernel_rfl) (by kernel_rfl) (by kernel_rfl) (fun _ _ _ h => h) (Or.inr ⟨by rfl, rfl⟩) trivial ?_
      simp only [Act.put, List.setIfInBounds_toArray, List.set_cons_zero, List.set_cons_succ]
      refine wpAnyH_take (i := 16) (oi := { dst := some 24, op := Op.pick (Operand.tmp 15) (Operand.tmp 23) (Operand.const (Value.bool false)), type := 4, pos := "ref.go:94", after := #[{ on := 7, ground := Ground.data }, { on := 15, ground := Ground.data }, { on := 4, ground := Ground.guard }], guard := some (4, true) }) (v := undef) rfl (by kernel_rfl) (by kernel_rfl) (by kernel_rfl) (fun _ _ _ h => h) (Or.inr ⟨by rfl, rfl⟩) trivial ?_
      simp only [Act.put, List.setIfInBounds_toArray, List.set_cons_zero, List.set_cons_succ]
      refine wpAnyH_take (i := 17) (oi := { dst := some 25, op := Op.move (Operand.tmp 24), type := 4, pos := "ref.go:94", after := #[{ on := 16, ground := Ground.data }, { on := 7, ground := Ground.chain }, { on := 4, ground := Ground.guard }], guard := some (4, true) }) (v := undef) rfl (by kernel_rfl) (by kernel_rfl) (by kernel_rfl) (fun _ _ _ h => h) (Or.inr ⟨by rfl, rfl⟩) trivial ?_
      simp only [Act.put, List.setIfInBounds_toArray, List.set_cons_zero, List.set_cons_succ]
      refine wpAnyH_take (i := 18) (oi := { dst := some 26, op := Op.move (Operand.tmp 2), type := 3, pos := "ref.go:94", after := #[{ on := 17, ground := Ground.guard }], guard := some (17, false) }) (v := undef) rfl (by kernel_rfl) (by kernel_rfl) (by kernel_rfl) (fun _ _ _ h => h) (Or.inr ⟨by rfl, rfl⟩) trivial ?_
      simp only [Act.put, List.setIfInBounds_toArray, List.set_cons_zero, List.set_cons_succ]
      refine wpAnyH_take (i := 19) (oi := { dst := some 27, op := Op.binOp BinOp.gtr 3 (Operand.tmp 26) (Operand.const (Value.int IntKind.i64 0)) 3, type := 4, pos := "ref.go:94", after := #[{ on := 18, ground := Ground.data }, { on := 17, ground := Ground.guard }], guard := some (17, false) }) (v := undef) rfl (by kernel_rfl) (by kernel_rfl) (by kernel_rfl) (fun _ _ _ h => h) (Or.inr ⟨by rfl, rfl⟩) trivial ?_
      simp only [Act.put, List.setIfInBounds_toArray, List.set_cons_zero, List.set_cons_succ]
      refine wpAnyH_take (i := 20) (oi := { dst := some 28, op := Op.move (Operand.tmp 27), type := 4, pos := "ref.go:94", after := #[{ on := 19, ground := Ground.data }, { on := 17, ground := Ground.chain }, { on := 17, ground := Ground.guard }], guard := some (17, false) }) (v := undef) rfl (by kernel_rfl) (by kernel_rfl) (by kernel_rfl) (fun _ _ _ h => h) (Or.inr ⟨by rfl, rfl⟩) trivial ?_
      simp only [Act.put, List.setIfInBounds_toArray, List.set_cons_zero, List.set_cons_succ]
      refine wpAnyH_take (i := 21) (oi := { dst := some 29, op := Op.move (Operand.tmp 0), type := 50, pos := "ref.go:94", after := #[{ on := 20, ground := Ground.guard }], guard := some (20, true) }) (v := undef) rfl (by kernel_rfl) (by kernel_rfl) (by kernel_rfl) (fun _ _ _ h => h) (Or.inr ⟨by rfl, rfl⟩) trivial ?_
      simp only [Act.put, List.setIfInBounds_toArray, List.set_cons_zero, List.set_cons_succ]
      refine wpAnyH_take (i := 22) (oi := { dst := some 30, op := Op.move (Operand.tmp 7), type := 3, pos := "ref.go:94", after := #[{ on := 20, ground := Ground.guard }], guard := some (20, true) }) (v := undef) rfl (by kernel_rfl) (by kernel_rfl) (by kernel_rfl) (fun _ _ _ h => h) (Or.inr ⟨by rfl, rfl⟩) trivial ?_
      simp only [Act.put, List.setIfInBounds_toArray, List.set_cons_zero, List.set_cons_succ]
      refine wpAnyH_take (i := 23) (oi := { dst := some 31, op := Op.indexAddr 50 (Operand.tmp 29) (Operand.tmp 30), type := 0, pos := "ref.go:94", after := #[{ on := 21, ground := Ground.data }, { on := 22, ground := Ground.data }, { on := 20, ground := Ground.guard }], guard := some (20, true) }) (v := undef) rfl (by kernel_rfl) (by kernel_rfl) (by kernel_rfl) (fun _ _ _ h => h) (Or.inr ⟨by rfl, rfl⟩) trivial ?_
      simp only [Act.put, List.setIfInBounds_toArray, List.set_cons_zero, List.set_cons_succ]
      refine wpAnyH_take (i := 24) (oi := { dst := some 32, op := Op.fieldAddr 37 (Operand.tmp 31) 2, type := 0, pos := "ref.go:94", after := #[{ on := 23, ground := Ground.data }, { on := 20, ground := Ground.guard }], guard := some (20, true) }) (v := undef) rfl (by kernel_rfl) (by kernel_rfl) (by kernel_rfl) (fun _ _ _ h => h) (Or.inr ⟨by rfl, rfl⟩) trivial ?_
      simp only [Act.put, List.setIfInBounds_toArray, List.set_cons_zero, List.set_cons_succ]
      refine wpAnyH_take (i := 25) (oi := { dst := some 33, op := Op.load 35 (Operand.tmp 32), type := 35, pos := "ref.go:94", after := #[{ on := 24, ground := Ground.data }, { on := 20, ground := Ground.guard }], guard := some (20, true) }) (v := undef) rfl (by kernel_rfl) (by kernel_rfl) (by kernel_rfl) (fun _ _ _ h => h) (Or.inr ⟨by rfl, rfl⟩) trivial ?_
      simp only [Act.put, List.setIfInBounds_toArray, List.set_cons_zero, List.set_cons_succ]
      refine wpAnyH_take (i := 26) (oi := { dst := some 34, op := Op.fieldAddr 37 (Operand.tmp 4) 2, type := 0, pos := "ref.go:94", after := #[{ on := 20, ground := Ground.guard }], guard := some (20, true) }) (v := undef) rfl (by kernel_rfl) (by kernel_rfl) (by kernel_rfl) (fun _ _ _ h => h) (Or.inr ⟨by rfl, rfl⟩) trivial ?_
      simp only [Act.put, List.setIfInBounds_toArray, List.set_cons_zero, List.set_cons_succ]
      refine wpAnyH_take (i := 27) (oi := { dst := some 35, op := Op.load 35 (Operand.tmp 34), type := 35, pos := "ref.go:94", after := #[{ on := 26, ground := Ground.data }, { on := 20, ground := Ground.guard }], guard := some (20, true) }) (v := undef) rfl (by kernel_rfl) (by kernel_rfl) (by kernel_rfl) (fun _ _ _ h => h) (Or.inr ⟨by rfl, rfl⟩) trivial ?_
      simp only [Act.put, List.setIfInBounds_toArray, List.set_cons_zero, List.set_cons_succ]
      refine wpAnyH_take (i := 28) (oi := { dst := some 36, op := Op.call { callee := Callee.value (Operand.func 48), args := #[Operand.tmp 33, Operand.tmp 35], argTypes := #[35, 35] }, type := 4, pos := "ref.go:94", after := #[{ on := 25, ground := Ground.data }, { on := 27, ground := Ground.data }, { on := 20, ground := Ground.chain }, { on := 20, ground := Ground.guard }], guard := some (20, true) }) (v := undef) rfl (by kernel_rfl) (by kernel_rfl) (by kernel_rfl) (fun _ _ _ h => h) (Or.inr ⟨by rfl, rfl⟩) trivial ?_
      simp only [Act.put, List.setIfInBounds_toArray, List.set_cons_zero, List.set_cons_succ]
      refine wpAnyH_take (i := 29) (oi := { dst := some 37, op := Op.pick (Operand.tmp 28) (Operand.tmp 36) (Operand.const (Value.bool false)), type := 4, pos := "ref.go:94", after := #[{ on := 20, ground := Ground.data }, { on := 28, ground := Ground.data }, { on := 17, ground := Ground.guard }], guard := some (17, false) }) (v := undef) rfl (by kernel_rfl) (by kernel_rfl) (by kernel_rfl) (fun _ _ _ h => h) (Or.inr ⟨by rfl, rfl⟩) trivial ?_
      simp only [Act.put, List.setIfInBounds_toArray, List.set_cons_zero, List.set_cons_succ]
      refine wpAnyH_take (i := 30) (oi := { dst := some 38, op := Op.pick (Operand.tmp 25) (Operand.const (Value.bool true)) (Operand.tmp 37), type := 4, pos := "ref.go:94", after := #[{ on := 17, ground := Ground.data }, { on := 29, ground := Ground.data }, { on := 4, ground := Ground.guard }], guard := some (4, true) }) (v := undef) rfl (by kernel_rfl) (by kernel_rfl) (by kernel_rfl) (fun _ _ _ h => h) (Or.inr ⟨by rfl, rfl⟩) trivial ?_
      simp only [Act.put, List.setIfInBounds_toArray, List.set_cons_zero, List.set_cons_succ]
      refine wpAnyH_take (i := 31) (oi := { dst := some 39, op := Op.pick (Operand.tmp 12) (Operand.tmp 38) (Operand.const (Value.bool false)), type := 4, pos := "ref.go:94", after := #[{ on := 4, ground := Ground.data }, { on := 30, ground := Ground.data }], guard := none }) (v := .bool false) rfl (by kernel_rfl) (by kernel_rfl) (by kernel_rfl) (fun _ _ _ h => h) (Or.inl ⟨by rfl, ?_⟩) trivial ?_
      · rintro w -
        go_simp
      simp only [Act.put, List.setIfInBounds_toArray, List.set_cons_zero, List.set_cons_succ]
      refine wpAnyH_done (by kernel_rfl) ?_ _
      have TU := hide ((Turns.refl (fun _ => False) wr).drew)
      have HCK := hide (show ¬ c < k by have := HNC.out; omega)
      rcases HPL.out with rfl | ⟨b, off, rfl⟩
      · skip
        go_upto_region 4 with (fail)
        have SK4 := hide (fun (u : World) (t : Turns (fun j => w0.heap.size ≤ j) w0 u) => show (fun u => u.cell? ⟨G, 0, none⟩ = some (.int .u64 (no : Nat)) ∧ u.cell? ⟨G, 1, none⟩ = some (.int .i64 sz) ∧ u.cell? ⟨G, 2, none⟩ = some (.slice la L1 lc) ∧ u.cell? ⟨G, 3, none⟩ = some (.slice ma L2 mc) ∧ u.cell? ⟨G, 4, none⟩ = some (.int .i64 en) ∧ u.cell? ⟨G, 5, none⟩ = some (.int .u64 (sq : Nat))) u from ⟨cell_of_row u G 0 _ 37 (0, 0) ((turns_new t).heap R0.out (fun x => x)), cell_of_row u G 1 _ 37 (0, 0) ((turns_new t).heap R0.out (fun x => x)), cell_of_row u G 2 _ 37 (0, 0) ((turns_new t).heap R0.out (fun x => x)), cell_of_row u G 3 _ 37 (0, 0) ((turns_new t).heap R0.out (fun x => x)), cell_of_row u G 4 _ 37 (0, 0) ((turns_new t).heap R0.out (fun x => x)), cell_of_row u G 5 _ 37 (0, 0) ((turns_new t).heap R0.out (fun x => x))⟩)
        have tV : Turns (fun j => w0.heap.size ≤ j) w0 _ := ((HB0.out.trans TU.out).drew).mono fun _ _ (x : False) => x.elim
        refine wp_region_held_drew (S := fun u => u.cell? ⟨G, 0, none⟩ = some (.int .u64 (no : Nat)) ∧ u.cell? ⟨G, 1, none⟩ = some (.int .i64 sz) ∧ u.cell? ⟨G, 2, none⟩ = some (.slice la L1 lc) ∧ u.cell? ⟨G, 3, none⟩ = some (.slice ma L2 mc) ∧ u.cell? ⟨G, 4, none⟩ = some (.int .i64 en) ∧ u.cell? ⟨G, 5, none⟩ = some (.int .u64 (sq : Nat))) (by kernel_rfl) (SK4.out _ tV) (fun _ => ?_)
        change wpAnyH _ _ _ _ _ 13 (Array.replicate 13 false) _ _
        refine wpAnyH_take (i := 1) (oi := { dst := some 43, op := Op.move (Operand.tmp 0), type := 50, pos := "ref.go:97", after := #[], guard := none }) (v := .slice none n c) rfl (by kernel_rfl) (by kernel_rfl) (by kernel_rfl) (fun _ _ _ h => h) (Or.inl ⟨by rfl, ?_⟩) (SK4.out _ tV) ?_
        · rintro w ⟨d0, d1, d2, d3, d4, d5⟩
          go_simp
        simp only [Act.put, List.setIfInBounds_toArray, List.set_cons_zero, List.set_cons_succ]
        refine wpAnyH_take (i := 2) (oi := { dst := some 44, op := Op.move (Operand.tmp 7), type := 3, pos := "ref.go:97", after := #[], guard := none }) (v := .int .i64 ((k : Nat) : Int)) rfl (by kernel_rfl) (by kernel_rfl) (by kernel_rfl) (fun _ _ _ h => h) (Or.inl ⟨by rfl, ?_⟩) (SK4.out _ tV) ?_
        · rintro w ⟨d0, d1, d2, d3, d4, d5⟩
          go_simp
        simp only [Act.put, List.setIfInBounds_toArray, List.set_cons_zero, List.set_cons_succ]
        refine wpAnyH_take (i := 3) (oi := { dst := some 45, op := Op.slice 50 (Operand.tmp 43) none (some (Operand.tmp 44)) none, type := 50, pos := "ref.go:97", after := #[{ on := 1, ground := Ground.data }, { on := 2, ground := Ground.data }], guard := none }) (v := .slice none k c) rfl (by kernel_rfl) (by kernel_rfl) (by kernel_rfl) (fun _ _ _ h => h) (Or.inl ⟨by rfl, ?_⟩) (SK4.out _ tV) ?_
        · rintro w ⟨d0, d1, d2, d3, d4, d5⟩
          go_simp; exact fun h => absurd h HCK.out
        simp only [Act.put, List.setIfInBounds_toArray, List.set_cons_zero, List.set_cons_succ]
        refine wpAnyH_take (i := 5) (oi := { dst := some 47, op := Op.load 37 (Operand.tmp 4), type := 37, pos := "ref.go:97", after := #[], guard := none }) (v := .agg #[.int .u64 (no : Nat), .int .i64 sz, .slice la L1 lc, .slice ma L2 mc, .int .i64 en, .int .u64 (sq : Nat)]) rfl (by kernel_rfl) (by kernel_rfl) (by kernel_rfl) (fun _ _ _ h => h) (Or.inl ⟨by rfl, ?_⟩) (SK4.out _ tV) ?_
        · rintro w ⟨d0, d1, d2, d3, d4, d5⟩
          go_simp
        simp only [Act.put, List.setIfInBounds_toArray, List.set_cons_zero, List.set_cons_succ]
        refine wpAnyH_take (i := 8) (oi := { dst := some 50, op := Op.move (Operand.tmp 0), type := 50, pos := "ref.go:97", after := #[], guard := none }) (v := .slice none n c) rfl (by kernel_rfl) (by kernel_rfl) (by kernel_rfl) (fun _ _ _ h => h) (Or.inl ⟨by rfl, ?_⟩) (SK4.out _ tV) ?_
        · rintro w ⟨d0, d1, d2, d3, d4, d5⟩
          go_simp
        simp only [Act.put, List.setIfInBounds_toArray, List.set_cons_zero, List.set_cons_succ]
        refine wpAnyH_take (i := 9) (oi := { dst := some 51, op := Op.move (Operand.tmp 7), type := 3, pos := "ref.go:97", after := #[], guard := none }) (v := .int .i64 ((k : Nat) : Int)) rfl (by kernel_rfl) (by kernel_rfl) (by kernel_rfl) (fun _ _ _ h => h) (Or.inl ⟨by rfl, ?_⟩) (SK4.out _ tV) ?_
        · rintro w ⟨d0, d1, d2, d3, d4, d5⟩
          go_simp
        simp only [Act.put, List.setIfInBounds_toArray, List.set_cons_zero, List.set_cons_succ]
        refine wpAnyH_take (i := 10) (oi := { dst := some 52, op := Op.slice 50 (Operand.tmp 50) (some (Operand.tmp 51)) none none, type := 50, pos := "ref.go:97", after := #[{ on := 8, ground := Ground.data }, { on := 9, ground := Ground.data }], guard := none }) (v := .slice none (n - k) (c - k)) rfl (by kernel_rfl) (by kernel_rfl) (by kernel_rfl) (fun _ _ _ h => h) (Or.inl ⟨by rfl, ?_⟩) (SK4.out _ tV) ?_
        · rintro w ⟨d0, d1, d2, d3, d4, d5⟩
          go_simp; skip
        simp only [Act.put, List.setIfInBounds_toArray, List.set_cons_zero, List.set_cons_succ]
        have HDN := hide (show l.drop k = [] from List.drop_eq_nil_of_le (by have := HL.out; have := HKN.out; omega))
        have HKL2 := hide (show k ≤ l.length by have := HL.out; omega)
        have SR1 := hide (fun (u : World) (t : Turns (fun j => w0.heap.size ≤ j) w0 u) => show Src Try.prog Try.t37.size 50 (.slice none k c) k (flCells (l.take k)) u from by
          have q := src_of_fils (c := c) (fils_take (H.out.quiet (TA.out.trans (turns_new t))) k)
          rwa [List.length_take, Nat.min_eq_left HKL2.out] at q)
        have SR3 := hide (fun (u : World) (t : Turns (fun j => w0.heap.size ≤ j) w0 u) => show Src Try.prog Try.t37.size 50 (.slice none (n - k) (c - k)) (n - k) (flCells (l.drop k)) u from by
          have q := src_of_fils (a := none) (R := l.drop k) (w := u) (c := c - k) (fun j x hx => by rw [HDN.out] at hx; simp at hx)
          rwa [List.length_drop, ← HL.out] at q)
        have HYC := hide (show Obj.cells (Tf.cells ⟨la, lc, ma, mc, ⟨no, sz, ls, ms, en, sq⟩⟩).toArray 37 (0, 0) = Obj.cells #[.int .u64 (no : Nat), .int .i64 sz, .slice la L1 lc, .slice ma L2 mc, .int .i64 en, .int .u64 (sq : Nat)] 37 (0, 0) by simp only [Tf.cells, Tf.lv, Tf.mv, HL1.out, HL2.out])
        have hk1 := HKL2.out
        generalize wr.drew.drew = U0 at *
        refine wpAnyH_ready (rs := [0, 6]) (by kernel_rfl) (by simp) ?_
        refine AllReadyH.cons rfl (fun K hK => ?_) (AllReadyH.cons rfl (fun K hK => ?_) AllReadyH.nil)
        · obtain ⟨uA, huA⟩ : ∃ uu, uu = U0.alloc (.cells #[] 37) := ⟨_, rfl⟩
          have tuA : Turns (fun _ => False) U0 uA := by rw [huA]; exact (Turns.refl _ _).alloc _
          have buA : w0.heap.size ≤ U0.heap.size := tV.size
          have luA : U0.heap.size < uA.heap.size := by rw [huA]; simp
          have rA : FRow uA w0.heap.size U0.heap.size 0 [] := by rw [huA]; exact frow_emp _ _ buA
          have tV := tV.trans (tuA.mono (S' := fun j => w0.heap.size ≤ j) fun _ _ (x : False) => x.elim)
          go_simp
          rw [← huA]
          refine hK.out _ _ (SK4.out _ tV) (fun _ => ?_)
          clear hK K huA
          refine wpAnyH_ready (rs := [4, 6]) (by kernel_rfl) (by simp) ?_
          refine AllReadyH.cons rfl (fun K hK => ?_) (AllReadyH.cons rfl (fun K hK => ?_) AllReadyH.nil)
          · obtain ⟨g1, n1, c1, w1, hr1, hn1, hf1, ht1, hq1⟩ := append_frow uA w0.heap.size (U0.heap.size) (0) ([]) rA tV.size (.slice none k c) (k) (l.take k) (SR1.out _ tV) (by rw [List.length_take]; omega) (by have := HL.out; simp; omega)
            have HN1 := hide hn1
            clear hn1
            have tV := tV.trans (ht1.mono (S' := fun j => w0.heap.size ≤ j) fun k _ e => by rw [e]; exact (rA).hB)
            refine step_append_run rfl _ _ 50 rfl (.slice (some ⟨U0.heap.size, 0, none⟩) 0 0) (.slice none k c) rfl rfl _ _ (hr1 _) 46 rfl ?_
            refine hK.out _ _ (SK4.out _ tV) (fun _ => ?_)
            clear hK K
            simp only [Act.put, List.setIfInBounds_toArray, List.set_cons_zero, List.set_cons_succ]
            have lg1 := hf1.lt
            refine wpAnyH_ready (rs := [6]) (by kernel_rfl) (by simp) ?_
            refine AllReadyH.cons rfl (fun K hK => ?_) AllReadyH.nil
            obtain ⟨uY, huY⟩ : ∃ uu, uu = w1.alloc (.cells #[.int .u64 (no : Nat), .int .i64 sz, .slice la L1 lc, .slice ma L2 mc, .int .i64 en, .int .u64 (sq : Nat)] 37) := ⟨_, rfl⟩
            have tuY : Turns (fun _ => False) w1 uY := by rw [huY]; exact (Turns.refl _ _).alloc _
            have buY : w0.heap.size ≤ w1.heap.size := tV.size
            have luY : w1.heap.size < uY.heap.size := by rw [huY]; simp
            have rY : uY.heap[w1.heap.size]? = some (Obj.cells (Tf.cells ⟨la, lc, ma, mc, ⟨no, sz, ls, ms, en, sq⟩⟩).toArray 37 (0, 0)) := by rw [HYC.out, huY]; exact heap_alloc_new _ _
            have tV := tV.trans (tuY.mono (S' := fun j => w0.heap.size ≤ j) fun _ _ (x : False) => x.elim)
            go_simp
            rw [← huY]
            refine hK.out _ _ (SK4.out _ tV) (fun _ => ?_)
            clear hK K huY
            have hf1 := hf1.turns tuY (fun x => x)
            refine wpAnyH_ready (rs := [7]) (by kernel_rfl) (by simp) ?_
            refine AllReadyH.cons rfl (fun K hK => ?_) AllReadyH.nil
            obtain ⟨g2, n2, c2, w2, hr2, hn2, hf2, ht2, hq2⟩ := append_frow uY w0.heap.size (g1) (c1) ([] ++ l.take k) hf1 tV.size (.slice (some ⟨w1.heap.size, 0, none⟩) 1 1) (1) ([⟨la, lc, ma, mc, ⟨no, sz, ls, ms, en, sq⟩⟩]) (src_one rY) (rfl) (by have := HL.out; simp; omega)
            have HN2 := hide hn2
            clear hn2
            rw [← HN1.out] at hr2
            have tV := tV.trans (ht2.mono (S' := fun j => w0.heap.size ≤ j) fun k _ e => by rw [e]; exact (hf1).hB)
            refine step_append_run rfl _ _ 50 rfl (.slice (some ⟨g1, 0, none⟩) n1 c1) (.slice (some ⟨w1.heap.size, 0, none⟩) 1 1) rfl rfl _ _ (hr2 _) 49 rfl ?_
            refine hK.out _ _ (SK4.out _ tV) (fun _ => ?_)
            clear hK K
            simp only [Act.put, List.setIfInBounds_toArray, List.set_cons_zero, List.set_cons_succ]
            have lg2 := hf2.lt
            refine wpAnyH_ready (rs := [11]) (by kernel_rfl) (by simp) ?_
            refine AllReadyH.cons rfl (fun K hK => ?_) AllReadyH.nil
            obtain ⟨g3, n3, c3, w3, hr3, hn3, hf3, ht3, hq3⟩ := append_frow w2 w0.heap.size (g2) (c2) ([] ++ l.take k ++ [⟨la, lc, ma, mc, ⟨no, sz, ls, ms, en, sq⟩⟩]) hf2 tV.size (.slice none (n - k) (c - k)) (n - k) (l.drop k) (SR3.out _ tV) (by rw [List.length_drop]; have := HL.out; omega) (by have := HL.out; simp; omega)
            have HN3 := hide hn3
            clear hn3
            rw [← HN2.out] at hr3
            have tV := tV.trans (ht3.mono (S' := fun j => w0.heap.size ≤ j) fun k _ e => by rw [e]; exact (hf2).hB)
            refine step_append_run rfl _ _ 50 rfl (.slice (some ⟨g2, 0, none⟩) n2 c2) (.slice none (n - k) (c - k)) rfl rfl _ _ (hr3 _) 53 rfl ?_
            refine hK.out _ _ (SK4.out _ tV) (fun _ => ?_)
            clear hK K
            simp only [Act.put, List.setIfInBounds_toArray, List.set_cons_zero, List.set_cons_succ]
            have lg3 := hf3.lt
            refine wpAnyH_take (i := 12) (oi := { dst := some 6, op := Op.assign (Operand.tmp 53), type := 50, pos := "ref.go:97", after := #[{ on := 11, ground := Ground.data }, { on := 11, ground := Ground.chain }, { on := 0, ground := Ground.phase }, { on := 1, ground := Ground.phase }, { on := 2, ground := Ground.phase }, { on := 3, ground := Ground.phase }, { on := 4, ground := Ground.phase }, { on := 5, ground := Ground.phase }, { on := 6, ground := Ground.phase }, { on := 7, ground := Ground.phase }, { on := 8, ground := Ground.phase }, { on := 9, ground := Ground.phase }, { on := 10, ground := Ground.phase }, { on := 11, ground := Ground.phase }], guard := none }) (v := .slice (some ⟨g3, 0, none⟩) n3 c3) rfl (by kernel_rfl) (by kernel_rfl) (by kernel_rfl) (fun _ _ _ h => h) (Or.inl ⟨by rfl, ?_⟩) (SK4.out _ tV) ?_
            · rintro w ⟨d0, d1, d2, d3, d4, d5⟩
              go_simp
            simp only [Act.put, List.setIfInBounds_toArray, List.set_cons_zero, List.set_cons_succ]
            refine wpAnyH_done (by kernel_rfl) ?_ _
            have HF3 := hide hf3
            have TZ := hide tV
            clear hf3 tV hr1 hr2 hr3 hf1 hf2 ht1 ht2 ht3 hq1 hq2 hq3 rA rY
            go_wp2_with fail
            go_ret
            have e3 : [] ++ l.take k ++ [⟨la, lc, ma, mc, ⟨no, sz, ls, ms, en, sq⟩⟩] ++ l.drop k = l.take k ++ ⟨la, lc, ma, mc, ⟨no, sz, ls, ms, en, sq⟩⟩ :: l.drop k := by simp
            have h3 := HF3.out
            have h4 := HN3.out
            rw [e3] at h3 h4
            have h5 : n3 = l.length + 1 := by have := HL.out; rw [h4]; simp; omega
            have h6 := HG.out
            have h7 := TA.out.size
            have h8 := h3.hB
            exact ⟨k, some ⟨g3, 0, none⟩, c3, by rw [h5]; rfl, HKL2.out, .inr ⟨g3, rfl, by omega, h3.le, h3.row⟩, HLTS.out, HP2.out, TA.out.trans (turns_new TZ.out)⟩
          · obtain ⟨uY, huY⟩ : ∃ uu, uu = uA.alloc (.cells #[.int .u64 (no : Nat), .int .i64 sz, .slice la L1 lc, .slice ma L2 mc, .int .i64 en, .int .u64 (sq : Nat)] 37) := ⟨_, rfl⟩
            have tuY : Turns (fun _ => False) uA uY := by rw [huY]; exact (Turns.refl _ _).alloc _
            have buY : w0.heap.size ≤ uA.heap.size := tV.size
            have luY : uA.heap.size < uY.heap.size := by rw [huY]; simp
            have rY : uY.heap[uA.heap.size]? = some (Obj.cells (Tf.cells ⟨la, lc, ma, mc, ⟨no, sz, ls, ms, en, sq⟩⟩).toArray 37 (0, 0)) := by rw [HYC.out, huY]; exact heap_alloc_new _ _
            have tV := tV.trans (tuY.mono (S' := fun j => w0.heap.size ≤ j) fun _ _ (x : False) => x.elim)
            go_simp
            rw [← huY]
            refine hK.out _ _ (SK4.out _ tV) (fun _ => ?_)
            clear hK K huY
            have rA := rA.turns tuY (fun x => x)
            refine wpAnyH_ready (rs := [4]) (by kernel_rfl) (by simp) ?_
            refine AllReadyH.cons rfl (fun K hK => ?_) AllReadyH.nil
            obtain ⟨g1, n1, c1, w1, hr1, hn1, hf1, ht1, hq1⟩ := append_frow uY w0.heap.size (U0.heap.size) (0) ([]) rA tV.size (.slice none k c) (k) (l.take k) (SR1.out _ tV) (by rw [List.length_take]; omega) (by have := HL.out; simp; omega)
            have HN1 := hide hn1
            clear hn1
            have tV := tV.trans (ht1.mono (S' := fun j => w0.heap.size ≤ j) fun k _ e => by rw [e]; exact (rA).hB)
            refine step_append_run rfl _ _ 50 rfl (.slice (some ⟨U0.heap.size, 0, none⟩) 0 0) (.slice none k c) rfl rfl _ _ (hr1 _) 46 rfl ?_
            refine hK.out _ _ (SK4.out _ tV) (fun _ => ?_)
            clear hK K
            simp only [Act.put, List.setIfInBounds_toArray, List.set_cons_zero, List.set_cons_succ]
            have lg1 := hf1.lt
            have rY := ht1.heap rY (by omega)
            refine wpAnyH_ready (rs := [7]) (by kernel_rfl) (by simp) ?_
            refine AllReadyH.cons rfl (fun K hK => ?_) AllReadyH.nil
            obtain ⟨g2, n2, c2, w2, hr2, hn2, hf2, ht2, hq2⟩ := append_frow w1 w0.heap.size (g1) (c1) ([] ++ l.take k) hf1 tV.size (.slice (some ⟨uA.heap.size, 0, none⟩) 1 1) (1) ([⟨la, lc, ma, mc, ⟨no, sz, ls, ms, en, sq⟩⟩]) (src_one rY) (rfl) (by have := HL.out; simp; omega)
            have HN2 := hide hn2
            clear hn2
            rw [← HN1.out] at hr2
            have tV := tV.trans (ht2.mono (S' := fun j => w0.heap.size ≤ j) fun k _ e => by rw [e]; exact (hf1).hB)
            refine step_append_run rfl _ _ 50 rfl (.slice (some ⟨g1, 0, none⟩) n1 c1) (.slice (some ⟨uA.heap.size, 0, none⟩) 1 1) rfl rfl _ _ (hr2 _) 49 rfl ?_
            refine hK.out _ _ (SK4.out _ tV) (fun _ => ?_)
            clear hK K
            simp only [Act.put, List.setIfInBounds_toArray, List.set_cons_zero, List.set_cons_succ]
            have lg2 := hf2.lt
            refine wpAnyH_ready (rs := [11]) (by kernel_rfl) (by simp) ?_
            refine AllReadyH.cons rfl (fun K hK => ?_) AllReadyH.nil
            obtain ⟨g3, n3, c3, w3, hr3, hn3, hf3, ht3, hq3⟩ := append_frow w2 w0.heap.size (g2) (c2) ([] ++ l.take k ++ [⟨la, lc, ma, mc, ⟨no, sz, ls, ms, en, sq⟩⟩]) hf2 tV.size (.slice none (n - k) (c - k)) (n - k) (l.drop k) (SR3.out _ tV) (by rw [List.length_drop]; have := HL.out; omega) (by have := HL.out; simp; omega)
            have HN3 := hide hn3
            clear hn3
            rw [← HN2.out] at hr3
            have tV := tV.trans (ht3.mono (S' := fun j => w0.heap.size ≤ j) fun k _ e => by rw [e]; exact (hf2).hB)
            refine step_append_run rfl _ _ 50 rfl (.slice (some ⟨g2, 0, none⟩) n2 c2) (.slice none (n - k) (c - k)) rfl rfl _ _ (hr3 _) 53 rfl ?_
            refine hK.out _ _ (SK4.out _ tV) (fun _ => ?_)
            clear hK K
            simp only [Act.put, List.setIfInBounds_toArray, List.set_cons_zero, List.set_cons_succ]
            have lg3 := hf3.lt
            refine wpAnyH_take (i := 12) (oi := { dst := some 6, op := Op.assign (Operand.tmp 53), type := 50, pos := "ref.go:97", after := #[{ on := 11, ground := Ground.data }, { on := 11, ground := Ground.chain }, { on := 0, ground := Ground.phase }, { on := 1, ground := Ground.phase }, { on := 2, ground := Ground.phase }, { on := 3, ground := Ground.phase }, { on := 4, ground := Ground.phase }, { on := 5, ground := Ground.phase }, { on := 6, ground := Ground.phase }, { on := 7, ground := Ground.phase }, { on := 8, ground := Ground.phase }, { on := 9, ground := Ground.phase }, { on := 10, ground := Ground.phase }, { on := 11, ground := Ground.phase }], guard := none }) (v := .slice (some ⟨g3, 0, none⟩) n3 c3) rfl (by kernel_rfl) (by kernel_rfl) (by kernel_rfl) (fun _ _ _ h => h) (Or.inl ⟨by rfl, ?_⟩) (SK4.out _ tV) ?_
            · rintro w ⟨d0, d1, d2, d3, d4, d5⟩
              go_simp
            simp only [Act.put, List.setIfInBounds_toArray, List.set_cons_zero, List.set_cons_succ]
            refine wpAnyH_done (by kernel_rfl) ?_ _
            have HF3 := hide hf3
            have TZ := hide tV
            clear hf3 tV hr1 hr2 hr3 hf1 hf2 ht1 ht2 ht3 hq1 hq2 hq3 rA rY
            go_wp2_with fail
            go_ret
            have e3 : [] ++ l.take k ++ [⟨la, lc, ma, mc, ⟨no, sz, ls, ms, en, sq⟩⟩] ++ l.drop k = l.take k ++ ⟨la, lc, ma, mc, ⟨no, sz, ls, ms, en, sq⟩⟩ :: l.drop k := by simp
            have h3 := HF3.out
            have h4 := HN3.out
            rw [e3] at h3 h4
            have h5 : n3 = l.length + 1 := by have := HL.out; rw [h4]; simp; omega
            have h6 := HG.out
            have h7 := TA.out.size
            have h8 := h3.hB
            exact ⟨k, some ⟨g3, 0, none⟩, c3, by rw [h5]; rfl, HKL2.out, .inr ⟨g3, rfl, by omega, h3.le, h3.row⟩, HLTS.out, HP2.out, TA.out.trans (turns_new TZ.out)⟩
        · obtain ⟨uY, huY⟩ : ∃ uu, uu = U0.alloc (.cells #[.int .u64 (no : Nat), .int .i64 sz, .slice la L1 lc, .slice ma L2 mc, .int .i64 en, .int .u64 (sq : Nat)] 37) := ⟨_, rfl⟩
          have tuY : Turns (fun _ => False) U0 uY := by rw [huY]; exact (Turns.refl _ _).alloc _
          have buY : w0.heap.size ≤ U0.heap.size := tV.size
          have luY : U0.heap.size < uY.heap.size := by rw [huY]; simp
          have rY : uY.heap[U0.heap.size]? = some (Obj.cells (Tf.cells ⟨la, lc, ma, mc, ⟨no, sz, ls, ms, en, sq⟩⟩).toArray 37 (0, 0)) := by rw [HYC.out, huY]; exact heap_alloc_new _ _
          have tV := tV.trans (tuY.mono (S' := fun j => w0.heap.size ≤ j) fun _ _ (x : False) => x.elim)
          go_simp
          rw [← huY]
          refine hK.out _ _ (SK4.out _ tV) (fun _ => ?_)
          clear hK K huY
          refine wpAnyH_ready (rs := [0]) (by kernel_rfl) (by simp) ?_
          refine AllReadyH.cons rfl (fun K hK => ?_) AllReadyH.nil
          obtain ⟨uA, huA⟩ : ∃ uu, uu = uY.alloc (.cells #[] 37) := ⟨_, rfl⟩
          have tuA : Turns (fun _ => False) uY uA := by rw [huA]; exact (Turns.refl _ _).alloc _
          have buA : w0.heap.size ≤ uY.heap.size := tV.size
          have luA : uY.heap.size < uA.heap.size := by rw [huA]; simp
          have rA : FRow uA w0.heap.size uY.heap.size 0 [] := by rw [huA]; exact frow_emp _ _ buA
          have tV := tV.trans (tuA.mono (S' := fun j => w0.heap.size ≤ j) fun _ _ (x : False) => x.elim)
          go_simp
          rw [← huA]
          refine hK.out _ _ (SK4.out _ tV) (fun _ => ?_)
          clear hK K huA
          have rY := tuA.heap rY (fun x => x)
          refine wpAnyH_ready (rs := [4]) (by kernel_rfl) (by simp) ?_
          refine AllReadyH.cons rfl (fun K hK => ?_) AllReadyH.nil
          obtain ⟨g1, n1, c1, w1, hr1, hn1, hf1, ht1, hq1⟩ := append_frow uA w0.heap.size (uY.heap.size) (0) ([]) rA tV.size (.slice none k c) (k) (l.take k) (SR1.out _ tV) (by rw [List.length_take]; omega) (by have := HL.out; simp; omega)
          have HN1 := hide hn1
          clear hn1
          have tV := tV.trans (ht1.mono (S' := fun j => w0.heap.size ≤ j) fun k _ e => by rw [e]; exact (rA).hB)
          refine step_append_run rfl _ _ 50 rfl (.slice (some ⟨uY.heap.size, 0, none⟩) 0 0) (.slice none k c) rfl rfl _ _ (hr1 _) 46 rfl ?_
          refine hK.out _ _ (SK4.out _ tV) (fun _ => ?_)
          clear hK K
          simp only [Act.put, List.setIfInBounds_toArray, List.set_cons_zero, List.set_cons_succ]
          have lg1 := hf1.lt
          have rY := ht1.heap rY (by omega)
          refine wpAnyH_ready (rs := [7]) (by kernel_rfl) (by simp) ?_
          refine AllReadyH.cons rfl (fun K hK => ?_) AllReadyH.nil
          obtain ⟨g2, n2, c2, w2, hr2, hn2, hf2, ht2, hq2⟩ := append_frow w1 w0.heap.size (g1) (c1) ([] ++ l.take k) hf1 tV.size (.slice (some ⟨U0.heap.size, 0, none⟩) 1 1) (1) ([⟨la, lc, ma, mc, ⟨no, sz, ls, ms, en, sq⟩⟩]) (src_one rY) (rfl) (by have := HL.out; simp; omega)
          have HN2 := hide hn2
          clear hn2
          rw [← HN1.out] at hr2
          have tV := tV.trans (ht2.mono (S' := fun j => w0.heap.size ≤ j) fun k _ e => by rw [e]; exact (hf1).hB)
          refine step_append_run rfl _ _ 50 rfl (.slice (some ⟨g1, 0, none⟩) n1 c1) (.slice (some ⟨U0.heap.size, 0, none⟩) 1 1) rfl rfl _ _ (hr2 _) 49 rfl ?_
          refine hK.out _ _ (SK4.out _ tV) (fun _ => ?_)
          clear hK K
          simp only [Act.put, List.setIfInBounds_toArray, List.set_cons_zero, List.set_cons_succ]
          have lg2 := hf2.lt
          refine wpAnyH_ready (rs := [11]) (by kernel_rfl) (by simp) ?_
          refine AllReadyH.cons rfl (fun K hK => ?_) AllReadyH.nil
          obtain ⟨g3, n3, c3, w3, hr3, hn3, hf3, ht3, hq3⟩ := append_frow w2 w0.heap.size (g2) (c2) ([] ++ l.take k ++ [⟨la, lc, ma, mc, ⟨no, sz, ls, ms, en, sq⟩⟩]) hf2 tV.size (.slice none (n - k) (c - k)) (n - k) (l.drop k) (SR3.out _ tV) (by rw [List.length_drop]; have := HL.out; omega) (by have := HL.out; simp; omega)
          have HN3 := hide hn3
          clear hn3
          rw [← HN2.out] at hr3
          have tV := tV.trans (ht3.mono (S' := fun j => w0.heap.size ≤ j) fun k _ e => by rw [e]; exact (hf2).hB)
          refine step_append_run rfl _ _ 50 rfl (.slice (some ⟨g2, 0, none⟩) n2 c2) (.slice none (n - k) (c - k)) rfl rfl _ _ (hr3 _) 53 rfl ?_
          refine hK.out _ _ (SK4.out _ tV) (fun _ => ?_)
          clear hK K
          simp only [Act.put, List.setIfInBounds_toArray, List.set_cons_zero, List.set_cons_succ]
          have lg3 := hf3.lt
          refine wpAnyH_take (i := 12) (oi := { dst := some 6, op := Op.assign (Operand.tmp 53), type := 50, pos := "ref.go:97", after := #[{ on := 11, ground := Ground.data }, { on := 11, ground := Ground.chain }, { on := 0, ground := Ground.phase }, { on := 1, ground := Ground.phase }, { on := 2, ground := Ground.phase }, { on := 3, ground := Ground.phase }, { on := 4, ground := Ground.phase }, { on := 5, ground := Ground.phase }, { on := 6, ground := Ground.phase }, { on := 7, ground := Ground.phase }, { on := 8, ground := Ground.phase }, { on := 9, ground := Ground.phase }, { on := 10, ground := Ground.phase }, { on := 11, ground := Ground.phase }], guard := none }) (v := .slice (some ⟨g3, 0, none⟩) n3 c3) rfl (by kernel_rfl) (by kernel_rfl) (by kernel_rfl) (fun _ _ _ h => h) (Or.inl ⟨by rfl, ?_⟩) (SK4.out _ tV) ?_
          · rintro w ⟨d0, d1, d2, d3, d4, d5⟩
            go_simp
          simp only [Act.put, List.setIfInBounds_toArray, List.set_cons_zero, List.set_cons_succ]
          refine wpAnyH_done (by kernel_rfl) ?_ _
          have HF3 := hide hf3
          have TZ := hide tV
          clear hf3 tV hr1 hr2 hr3 hf1 hf2 ht1 ht2 ht3 hq1 hq2 hq3 rA rY
          go_wp2_with fail
          go_ret
          have e3 : [] ++ l.take k ++ [⟨la, lc, ma, mc, ⟨no, sz, ls, ms, en, sq⟩⟩] ++ l.drop k = l.take k ++ ⟨la, lc, ma, mc, ⟨no, sz, ls, ms, en, sq⟩⟩ :: l.drop k := by simp
          have h3 := HF3.out
          have h4 := HN3.out
          rw [e3] at h3 h4
          have h5 : n3 = l.length + 1 := by have := HL.out; rw [h4]; simp; omega
          have h6 := HG.out
          have h7 := TA.out.size
          have h8 := h3.hB
          exact ⟨k, some ⟨g3, 0, none⟩, c3, by rw [h5]; rfl, HKL2.out, .inr ⟨g3, rfl, by omega, h3.le, h3.row⟩, HLTS.out, HP2.out, TA.out.trans (turns_new TZ.out)⟩
      · skip
        go_upto_region 4 with (fail)
        have SK4 := hide (fun (u : World) (t : Turns (fun j => w0.heap.size ≤ j) w0 u) => show (fun u => u.cell? ⟨G, 0, none⟩ = some (.int .u64 (no : Nat)) ∧ u.cell? ⟨G, 1, none⟩ = some (.int .i64 sz) ∧ u.cell? ⟨G, 2, none⟩ = some (.slice la L1 lc) ∧ u.cell? ⟨G, 3, none⟩ = some (.slice ma L2 mc) ∧ u.cell? ⟨G, 4, none⟩ = some (.int .i64 en) ∧ u.cell? ⟨G, 5, none⟩ = some (.int .u64 (sq : Nat))) u from ⟨cell_of_row u G 0 _ 37 (0, 0) ((turns_new t).heap R0.out (fun x => x)), cell_of_row u G 1 _ 37 (0, 0) ((turns_new t).heap R0.out (fun x => x)), cell_of_row u G 2 _ 37 (0, 0) ((turns_new t).heap R0.out (fun x => x)), cell_of_row u G 3 _ 37 (0, 0) ((turns_new t).heap R0.out (fun x => x)), cell_of_row u G 4 _ 37 (0, 0) ((turns_new t).heap R0.out (fun x => x)), cell_of_row u G 5 _ 37 (0, 0) ((turns_new t).heap R0.out (fun x => x))⟩)
        have tV : Turns (fun j => w0.heap.size ≤ j) w0 _ := ((HB0.out.trans TU.out).drew).mono fun _ _ (x : False) => x.elim
        refine wp_region_held_drew (S := fun u => u.cell? ⟨G, 0, none⟩ = some (.int .u64 (no : Nat)) ∧ u.cell? ⟨G, 1, none⟩ = some (.int .i64 sz) ∧ u.cell? ⟨G, 2, none⟩ = some (.slice la L1 lc) ∧ u.cell? ⟨G, 3, none⟩ = some (.slice ma L2 mc) ∧ u.cell? ⟨G, 4, none⟩ = some (.int .i64 en) ∧ u.cell? ⟨G, 5, none⟩ = some (.int .u64 (sq : Nat))) (by kernel_rfl) (SK4.out _ tV) (fun _ => ?_)
        change wpAnyH _ _ _ _ _ 13 (Array.replicate 13 false) _ _
        refine wpAnyH_take (i := 1) (oi := { dst := some 43, op := Op.move (Operand.tmp 0), type := 50, pos := "ref.go:97", after := #[], guard := none }) (v := .slice (some ⟨b, off, none⟩) n c) rfl (by kernel_rfl) (by kernel_rfl) (by kernel_rfl) (fun _ _ _ h => h) (Or.inl ⟨by rfl, ?_⟩) (SK4.out _ tV) ?_
        · rintro w ⟨d0, d1, d2, d3, d4, d5⟩
          go_simp
        simp only [Act.put, List.setIfInBounds_toArray, List.set_cons_zero, List.set_cons_succ]
        refine wpAnyH_take (i := 2) (oi := { dst := some 44, op := Op.move (Operand.tmp 7), type := 3, pos := "ref.go:97", after := #[], guard := none }) (v := .int .i64 ((k : Nat) : Int)) rfl (by kernel_rfl) (by kernel_rfl) (by kernel_rfl) (fun _ _ _ h => h) (Or.inl ⟨by rfl, ?_⟩) (SK4.out _ tV) ?_
        · rintro w ⟨d0, d1, d2, d3, d4, d5⟩
          go_simp
        simp only [Act.put, List.setIfInBounds_toArray, List.set_cons_zero, List.set_cons_succ]
        refine wpAnyH_take (i := 3) (oi := { dst := some 45, op := Op.slice 50 (Operand.tmp 43) none (some (Operand.tmp 44)) none, type := 50, pos := "ref.go:97", after := #[{ on := 1, ground := Ground.data }, { on := 2, ground := Ground.data }], guard := none }) (v := .slice (some ⟨b, off, none⟩) k c) rfl (by kernel_rfl) (by kernel_rfl) (by kernel_rfl) (fun _ _ _ h => h) (Or.inl ⟨by rfl, ?_⟩) (SK4.out _ tV) ?_
        · rintro w ⟨d0, d1, d2, d3, d4, d5⟩
          go_simp; exact fun h => absurd h HCK.out
        simp only [Act.put, List.setIfInBounds_toArray, List.set_cons_zero, List.set_cons_succ]
        refine wpAnyH_take (i := 5) (oi := { dst := some 47, op := Op.load 37 (Operand.tmp 4), type := 37, pos := "ref.go:97", after := #[], guard := none }) (v := .agg #[.int .u64 (no : Nat), .int .i64 sz, .slice la L1 lc, .slice ma L2 mc, .int .i64 en, .int .u64 (sq : Nat)]) rfl (by kernel_rfl) (by kernel_rfl) (by kernel_rfl) (fun _ _ _ h => h) (Or.inl ⟨by rfl, ?_⟩) (SK4.out _ tV) ?_
        · rintro w ⟨d0, d1, d2, d3, d4, d5⟩
          go_simp
        simp only [Act.put, List.setIfInBounds_toArray, List.set_cons_zero, List.set_cons_succ]
        refine wpAnyH_take (i := 8) (oi := { dst := some 50, op := Op.move (Operand.tmp 0), type := 50, pos := "ref.go:97", after := #[], guard := none }) (v := .slice (some ⟨b, off, none⟩) n c) rfl (by kernel_rfl) (by kernel_rfl) (by kernel_rfl) (fun _ _ _ h => h) (Or.inl ⟨by rfl, ?_⟩) (SK4.out _ tV) ?_
        · rintro w ⟨d0, d1, d2, d3, d4, d5⟩
          go_simp
        simp only [Act.put, List.setIfInBounds_toArray, List.set_cons_zero, List.set_cons_succ]
        refine wpAnyH_take (i := 9) (oi := { dst := some 51, op := Op.move (Operand.tmp 7), type := 3, pos := "ref.go:97", after := #[], guard := none }) (v := .int .i64 ((k : Nat) : Int)) rfl (by kernel_rfl) (by kernel_rfl) (by kernel_rfl) (fun _ _ _ h => h) (Or.inl ⟨by rfl, ?_⟩) (SK4.out _ tV) ?_
        · rintro w ⟨d0, d1, d2, d3, d4, d5⟩
          go_simp
        simp only [Act.put, List.setIfInBounds_toArray, List.set_cons_zero, List.set_cons_succ]
        refine wpAnyH_take (i := 10) (oi := { dst := some 52, op := Op.slice 50 (Operand.tmp 50) (some (Operand.tmp 51)) none none, type := 50, pos := "ref.go:97", after := #[{ on := 8, ground := Ground.data }, { on := 9, ground := Ground.data }], guard := none }) (v := .slice (if c = k then some ⟨b, off, none⟩ else some ⟨b, off + k * 6, none⟩) (n - k) (c - k)) rfl (by kernel_rfl) (by kernel_rfl) (by kernel_rfl) (fun _ _ _ h => h) (Or.inl ⟨by rfl, ?_⟩) (SK4.out _ tV) ?_
        · rintro w ⟨d0, d1, d2, d3, d4, d5⟩
          go_simp; skip
        simp only [Act.put, List.setIfInBounds_toArray, List.set_cons_zero, List.set_cons_succ]
        generalize (if c = k then some (⟨b, off, none⟩ : Addr) else some ⟨b, off + k * 6, none⟩) = da at *
        have HDN := hide (show l.drop k = [] from List.drop_eq_nil_of_le (by have := HL.out; have := HKN.out; omega))
        have HKL2 := hide (show k ≤ l.length by have := HL.out; omega)
        have SR1 := hide (fun (u : World) (t : Turns (fun j => w0.heap.size ≤ j) w0 u) => show Src Try.prog Try.t37.size 50 (.slice (some ⟨b, off, none⟩) k c) k (flCells (l.take k)) u from by
          have q := src_of_fils (c := c) (fils_take (H.out.quiet (TA.out.trans (turns_new t))) k)
          rwa [List.length_take, Nat.min_eq_left HKL2.out] at q)
        have SR3 := hide (fun (u : World) (t : Turns (fun j => w0.heap.size ≤ j) w0 u) => show Src Try.prog Try.t37.size 50 (.slice da (n - k) (c - k)) (n - k) (flCells (l.drop k)) u from by
          have q := src_of_fils (a := da) (R := l.drop k) (w := u) (c := c - k) (fun j x hx => by rw [HDN.out] at hx; simp at hx)
          rwa [List.length_drop, ← HL.out] at q)
        have HYC := hide (show Obj.cells (Tf.cells ⟨la, lc, ma, mc, ⟨no, sz, ls, ms, en, sq⟩⟩).toArray 37 (0, 0) = Obj.cells #[.int .u64 (no : Nat), .int .i64 sz, .slice la L1 lc, .slice ma L2 mc, .int .i64 en, .int .u64 (sq : Nat)] 37 (0, 0) by simp only [Tf.cells, Tf.lv, Tf.mv, HL1.out, HL2.out])
        have hk1 := HKL2.out
        generalize wr.drew.drew = U0 at *
        refine wpAnyH_ready (rs := [0, 6]) (by kernel_rfl) (by simp) ?_
        refine AllReadyH.cons rfl (fun K hK => ?_) (AllReadyH.cons rfl (fun K hK => ?_) AllReadyH.nil)
        · obtain ⟨uA, huA⟩ : ∃ uu, uu = U0.alloc (.cells #[] 37) := ⟨_, rfl⟩
          have tuA : Turns (fun _ => False) U0 uA := by rw [huA]; exact (Turns.refl _ _).alloc _
          have buA : w0.heap.size ≤ U0.heap.size := tV.size
          have luA : U0.heap.size < uA.heap.size := by rw [huA]; simp
          have rA : FRow uA w0.heap.size U0.heap.size 0 [] := by rw [huA]; exact frow_emp _ _ buA
          have tV := tV.trans (tuA.mono (S' := fun j => w0.heap.size ≤ j) fun _ _ (x : False) => x.elim)
          go_simp
          rw [← huA]
          refine hK.out _ _ (SK4.out _ tV) (fun _ => ?_)
          clear hK K huA
          refine wpAnyH_ready (rs := [4, 6]) (by kernel_rfl) (by simp) ?_
          refine AllReadyH.cons rfl (fun K hK => ?_) (AllReadyH.cons rfl (fun K hK => ?_) AllReadyH.nil)
          · obtain ⟨g1, n1, c1, w1, hr1, hn1, hf1, ht1, hq1⟩ := append_frow uA w0.heap.size (U0.heap.size) (0) ([]) rA tV.size (.slice (some ⟨b, off, none⟩) k c) (k) (l.take k) (SR1.out _ tV) (by rw [List.length_take]; omega) (by have := HL.out; simp; omega)
            have HN1 := hide hn1
            clear hn1
            have tV := tV.trans (ht1.mono (S' := fun j => w0.heap.size ≤ j) fun k _ e => by rw [e]; exact (rA).hB)
            refine step_append_run rfl _ _ 50 rfl (.slice (some ⟨U0.heap.size, 0, none⟩) 0 0) (.slice (some ⟨b, off, none⟩) k c) rfl rfl _ _ (hr1 _) 46 rfl ?_
            refine hK.out _ _ (SK4.out _ tV) (fun _ => ?_)
            clear hK K
            simp only [Act.put, List.setIfInBounds_toArray, List.set_cons_zero, List.set_cons_succ]
            have lg1 := hf1.lt
            refine wpAnyH_ready (rs := [6]) (by kernel_rfl) (by simp) ?_
            refine AllReadyH.cons rfl (fun K hK => ?_) AllReadyH.nil
            obtain ⟨uY, huY⟩ : ∃ uu, uu = w1.alloc (.cells #[.int .u64 (no : Nat), .int .i64 sz, .slice la L1 lc, .slice ma L2 mc, .int .i64 en, .int .u64 (sq : Nat)] 37) := ⟨_, rfl⟩
            have tuY : Turns (fun _ => False) w1 uY := by rw [huY]; exact (Turns.refl _ _).alloc _
            have buY : w0.heap.size ≤ w1.heap.size := tV.size
            have luY : w1.heap.size < uY.heap.size := by rw [huY]; simp
            have rY : uY.heap[w1.heap.size]? = some (Obj.cells (Tf.cells ⟨la, lc, ma, mc, ⟨no, sz, ls, ms, en, sq⟩⟩).toArray 37 (0, 0)) := by rw [HYC.out, huY]; exact heap_alloc_new _ _
            have tV := tV.trans (tuY.mono (S' := fun j => w0.heap.size ≤ j) fun _ _ (x : False) => x.elim)
            go_simp
            rw [← huY]
            refine hK.out _ _ (SK4.out _ tV) (fun _ => ?_)
            clear hK K huY
            have hf1 := hf1.turns tuY (fun x => x)
            refine wpAnyH_ready (rs := [7]) (by kernel_rfl) (by simp) ?_
            refine AllReadyH.cons rfl (fun K hK => ?_) AllReadyH.nil
            obtain ⟨g2, n2, c2, w2, hr2, hn2, hf2, ht2, hq2⟩ := append_frow uY w0.heap.size (g1) (c1) ([] ++ l.take k) hf1 tV.size (.slice (some ⟨w1.heap.size, 0, none⟩) 1 1) (1) ([⟨la, lc, ma, mc, ⟨no, sz, ls, ms, en, sq⟩⟩]) (src_one rY) (rfl) (by have := HL.out; simp; omega)
            have HN2 := hide hn2
            clear hn2
            rw [← HN1.out] at hr2
            have tV := tV.trans (ht2.mono (S' := fun j => w0.heap.size ≤ j) fun k _ e => by rw [e]; exact (hf1).hB)
            refine step_append_run rfl _ _ 50 rfl (.slice (some ⟨g1, 0, none⟩) n1 c1) (.slice (some ⟨w1.heap.size, 0, none⟩) 1 1) rfl rfl _ _ (hr2 _) 49 rfl ?_
            refine hK.out _ _ (SK4.out _ tV) (fun _ => ?_)
            clear hK K
            simp only [Act.put, List.setIfInBounds_toArray, List.set_cons_zero, List.set_cons_succ]
            have lg2 := hf2.lt
            refine wpAnyH_ready (rs := [11]) (by kernel_rfl) (by simp) ?_
            refine AllReadyH.cons rfl (fun K hK => ?_) AllReadyH.nil
            obtain ⟨g3, n3, c3, w3, hr3, hn3, hf3, ht3, hq3⟩ := append_frow w2 w0.heap.size (g2) (c2) ([] ++ l.take k ++ [⟨la, lc, ma, mc, ⟨no, sz, ls, ms, en, sq⟩⟩]) hf2 tV.size (.slice da (n - k) (c - k)) (n - k) (l.drop k) (SR3.out _ tV) (by rw [List.length_drop]; have := HL.out; omega) (by have := HL.out; simp; omega)
            have HN3 := hide hn3
            clear hn3
            rw [← HN2.out] at hr3
            have tV := tV.trans (ht3.mono (S' := fun j => w0.heap.size ≤ j) fun k _ e => by rw [e]; exact (hf2).hB)
            refine step_append_run rfl _ _ 50 rfl (.slice (some ⟨g2, 0, none⟩) n2 c2) (.slice da (n - k) (c - k)) rfl rfl _ _ (hr3 _) 53 rfl ?_
            refine hK.out _ _ (SK4.out _ tV) (fun _ => ?_)
            clear hK K
            simp only [Act.put, List.setIfInBounds_toArray, List.set_cons_zero, List.set_cons_succ]
            have lg3 := hf3.lt
            refine wpAnyH_take (i := 12) (oi := { dst := some 6, op := Op.assign (Operand.tmp 53), type := 50, pos := "ref.go:97", after := #[{ on := 11, ground := Ground.data }, { on := 11, ground := Ground.chain }, { on := 0, ground := Ground.phase }, { on := 1, ground := Ground.phase }, { on := 2, ground := Ground.phase }, { on := 3, ground := Ground.phase }, { on := 4, ground := Ground.phase }, { on := 5, ground := Ground.phase }, { on := 6, ground := Ground.phase }, { on := 7, ground := Ground.phase }, { on := 8, ground := Ground.phase }, { on := 9, ground := Ground.phase }, { on := 10, ground := Ground.phase }, { on := 11, ground := Ground.phase }], guard := none }) (v := .slice (some ⟨g3, 0, none⟩) n3 c3) rfl (by kernel_rfl) (by kernel_rfl) (by kernel_rfl) (fun _ _ _ h => h) (Or.inl ⟨by rfl, ?_⟩) (SK4.out _ tV) ?_
            · rintro w ⟨d0, d1, d2, d3, d4, d5⟩
              go_simp
            simp only [Act.put, List.setIfInBounds_toArray, List.set_cons_zero, List.set_cons_succ]
            refine wpAnyH_done (by kernel_rfl) ?_ _
            have HF3 := hide hf3
            have TZ := hide tV
            clear hf3 tV hr1 hr2 hr3 hf1 hf2 ht1 ht2 ht3 hq1 hq2 hq3 rA rY
            go_wp2_with fail
            go_ret
            have e3 : [] ++ l.take k ++ [⟨la, lc, ma, mc, ⟨no, sz, ls, ms, en, sq⟩⟩] ++ l.drop k = l.take k ++ ⟨la, lc, ma, mc, ⟨no, sz, ls, ms, en, sq⟩⟩ :: l.drop k := by simp
            have h3 := HF3.out
            have h4 := HN3.out
            rw [e3] at h3 h4
            have h5 : n3 = l.length + 1 := by have := HL.out; rw [h4]; simp; omega
            have h6 := HG.out
            have h7 := TA.out.size
            have h8 := h3.hB
            exact ⟨k, some ⟨g3, 0, none⟩, c3, by rw [h5]; rfl, HKL2.out, .inr ⟨g3, rfl, by omega, h3.le, h3.row⟩, HLTS.out, HP2.out, TA.out.trans (turns_new TZ.out)⟩
          · obtain ⟨uY, huY⟩ : ∃ uu, uu = uA.alloc (.cells #[.int .u64 (no : Nat), .int .i64 sz, .slice la L1 lc, .slice ma L2 mc, .int .i64 en, .int .u64 (sq : Nat)] 37) := ⟨_, rfl⟩
            have tuY : Turns (fun _ => False) uA uY := by rw [huY]; exact (Turns.refl _ _).alloc _
            have buY : w0.heap.size ≤ uA.heap.size := tV.size
            have luY : uA.heap.size < uY.heap.size := by rw [huY]; simp
            have rY : uY.heap[uA.heap.size]? = some (Obj.cells (Tf.cells ⟨la, lc, ma, mc, ⟨no, sz, ls, ms, en, sq⟩⟩).toArray 37 (0, 0)) := by rw [HYC.out, huY]; exact heap_alloc_new _ _
            have tV := tV.trans (tuY.mono (S' := fun j => w0.heap.size ≤ j) fun _ _ (x : False) => x.elim)
            go_simp
            rw [← huY]
            refine hK.out _ _ (SK4.out _ tV) (fun _ => ?_)
            clear hK K huY
            have rA := rA.turns tuY (fun x => x)
            refine wpAnyH_ready (rs := [4]) (by kernel_rfl) (by simp) ?_
            refine AllReadyH.cons rfl (fun K hK => ?_) AllReadyH.nil
            obtain ⟨g1, n1, c1, w1, hr1, hn1, hf1, ht1, hq1⟩ := append_frow uY w0.heap.size (U0.heap.size) (0) ([]) rA tV.size (.slice (some ⟨b, off, none⟩) k c) (k) (l.take k) (SR1.out _ tV) (by rw [List.length_take]; omega) (by have := HL.out; simp; omega)
            have HN1 := hide hn1
            clear hn1
            have tV := tV.trans (ht1.mono (S' := fun j => w0.heap.size ≤ j) fun k _ e => by rw [e]; exact (rA).hB)
            refine step_append_run rfl _ _ 50 rfl (.slice (some ⟨U0.heap.size, 0, none⟩) 0 0) (.slice (some ⟨b, off, none⟩) k c) rfl rfl _ _ (hr1 _) 46 rfl ?_
            refine hK.out _ _ (SK4.out _ tV) (fun _ => ?_)
            clear hK K
            simp only [Act.put, List.setIfInBounds_toArray, List.set_cons_zero, List.set_cons_succ]
            have lg1 := hf1.lt
            have rY := ht1.heap rY (by omega)
            refine wpAnyH_ready (rs := [7]) (by kernel_rfl) (by simp) ?_
            refine AllReadyH.cons rfl (fun K hK => ?_) AllReadyH.nil
            obtain ⟨g2, n2, c2, w2, hr2, hn2, hf2, ht2, hq2⟩ := append_frow w1 w0.heap.size (g1) (c1) ([] ++ l.take k) hf1 tV.size (.slice (some ⟨uA.heap.size, 0, none⟩) 1 1) (1) ([⟨la, lc, ma, mc, ⟨no, sz, ls, ms, en, sq⟩⟩]) (src_one rY) (rfl) (by have := HL.out; simp; omega)
            have HN2 := hide hn2
            clear hn2
            rw [← HN1.out] at hr2
            have tV := tV.trans (ht2.mono (S' := fun j => w0.heap.size ≤ j) fun k _ e => by rw [e]; exact (hf1).hB)
            refine step_append_run rfl _ _ 50 rfl (.slice (some ⟨g1, 0, none⟩) n1 c1) (.slice (some ⟨uA.heap.size, 0, none⟩) 1 1) rfl rfl _ _ (hr2 _) 49 rfl ?_
            refine hK.out _ _ (SK4.out _ tV) (fun _ => ?_)
            clear hK K
            simp only [Act.put, List.setIfInBounds_toArray, List.set_cons_zero, List.set_cons_succ]
            have lg2 := hf2.lt
            refine wpAnyH_ready (rs := [11]) (by kernel_rfl) (by simp) ?_
            refine AllReadyH.cons rfl (fun K hK => ?_) AllReadyH.nil
            obtain ⟨g3, n3, c3, w3, hr3, hn3, hf3, ht3, hq3⟩ := append_frow w2 w0.heap.size (g2) (c2) ([] ++ l.take k ++ [⟨la, lc, ma, mc, ⟨no, sz, ls, ms, en, sq⟩⟩]) hf2 tV.size (.slice da (n - k) (c - k)) (n - k) (l.drop k) (SR3.out _ tV) (by rw [List.length_drop]; have := HL.out; omega) (by have := HL.out; simp; omega)
            have HN3 := hide hn3
            clear hn3
            rw [← HN2.out] at hr3
            have tV := tV.trans (ht3.mono (S' := fun j => w0.heap.size ≤ j) fun k _ e => by rw [e]; exact (hf2).hB)
            refine step_append_run rfl _ _ 50 rfl (.slice (some ⟨g2, 0, none⟩) n2 c2) (.slice da (n - k) (c - k)) rfl rfl _ _ (hr3 _) 53 rfl ?_
            refine hK.out _ _ (SK4.out _ tV) (fun _ => ?_)
            clear hK K
            simp only [Act.put, List.setIfInBounds_toArray, List.set_cons_zero, List.set_cons_succ]
            have lg3 := hf3.lt
            refine wpAnyH_take (i := 12) (oi := { dst := some 6, op := Op.assign (Operand.tmp 53), type := 50, pos := "ref.go:97", after := #[{ on := 11, ground := Ground.data }, { on := 11, ground := Ground.chain }, { on := 0, ground := Ground.phase }, { on := 1, ground := Ground.phase }, { on := 2, ground := Ground.phase }, { on := 3, ground := Ground.phase }, { on := 4, ground := Ground.phase }, { on := 5, ground := Ground.phase }, { on := 6, ground := Ground.phase }, { on := 7, ground := Ground.phase }, { on := 8, ground := Ground.phase }, { on := 9, ground := Ground.phase }, { on := 10, ground := Ground.phase }, { on := 11, ground := Ground.phase }], guard := none }) (v := .slice (some ⟨g3, 0, none⟩) n3 c3) rfl (by kernel_rfl) (by kernel_rfl) (by kernel_rfl) (fun _ _ _ h => h) (Or.inl ⟨by rfl, ?_⟩) (SK4.out _ tV) ?_
            · rintro w ⟨d0, d1, d2, d3, d4, d5⟩
              go_simp
            simp only [Act.put, List.setIfInBounds_toArray, List.set_cons_zero, List.set_cons_succ]
            refine wpAnyH_done (by kernel_rfl) ?_ _
            have HF3 := hide hf3
            have TZ := hide tV
            clear hf3 tV hr1 hr2 hr3 hf1 hf2 ht1 ht2 ht3 hq1 hq2 hq3 rA rY
            go_wp2_with fail
            go_ret
            have e3 : [] ++ l.take k ++ [⟨la, lc, ma, mc, ⟨no, sz, ls, ms, en, sq⟩⟩] ++ l.drop k = l.take k ++ ⟨la, lc, ma, mc, ⟨no, sz, ls, ms, en, sq⟩⟩ :: l.drop k := by simp
            have h3 := HF3.out
            have h4 := HN3.out
            rw [e3] at h3 h4
            have h5 : n3 = l.length + 1 := by have := HL.out; rw [h4]; simp; omega
            have h6 := HG.out
            have h7 := TA.out.size
            have h8 := h3.hB
            exact ⟨k, some ⟨g3, 0, none⟩, c3, by rw [h5]; rfl, HKL2.out, .inr ⟨g3, rfl, by omega, h3.le, h3.row⟩, HLTS.out, HP2.out, TA.out.trans (turns_new TZ.out)⟩
        · obtain ⟨uY, huY⟩ : ∃ uu, uu = U0.alloc (.cells #[.int .u64 (no : Nat), .int .i64 sz, .slice la L1 lc, .slice ma L2 mc, .int .i64 en, .int .u64 (sq : Nat)] 37) := ⟨_, rfl⟩
          have tuY : Turns (fun _ => False) U0 uY := by rw [huY]; exact (Turns.refl _ _).alloc _
          have buY : w0.heap.size ≤ U0.heap.size := tV.size
          have luY : U0.heap.size < uY.heap.size := by rw [huY]; simp
          have rY : uY.heap[U0.heap.size]? = some (Obj.cells (Tf.cells ⟨la, lc, ma, mc, ⟨no, sz, ls, ms, en, sq⟩⟩).toArray 37 (0, 0)) := by rw [HYC.out, huY]; exact heap_alloc_new _ _
          have tV := tV.trans (tuY.mono (S' := fun j => w0.heap.size ≤ j) fun _ _ (x : False) => x.elim)
          go_simp
          rw [← huY]
          refine hK.out _ _ (SK4.out _ tV) (fun _ => ?_)
          clear hK K huY
          refine wpAnyH_ready (rs := [0]) (by kernel_rfl) (by simp) ?_
          refine AllReadyH.cons rfl (fun K hK => ?_) AllReadyH.nil
          obtain ⟨uA, huA⟩ : ∃ uu, uu = uY.alloc (.cells #[] 37) := ⟨_, rfl⟩
          have tuA : Turns (fun _ => False) uY uA := by rw [huA]; exact (Turns.refl _ _).alloc _
          have buA : w0.heap.size ≤ uY.heap.size := tV.size
          have luA : uY.heap.size < uA.heap.size := by rw [huA]; simp
          have rA : FRow uA w0.heap.size uY.heap.size 0 [] := by rw [huA]; exact frow_emp _ _ buA
          have tV := tV.trans (tuA.mono (S' := fun j => w0.heap.size ≤ j) fun _ _ (x : False) => x.elim)
          go_simp
          rw [← huA]
          refine hK.out _ _ (SK4.out _ tV) (fun _ => ?_)
          clear hK K huA
          have rY := tuA.heap rY (fun x => x)
          refine wpAnyH_ready (rs := [4]) (by kernel_rfl) (by simp) ?_
          refine AllReadyH.cons rfl (fun K hK => ?_) AllReadyH.nil
          obtain ⟨g1, n1, c1, w1, hr1, hn1, hf1, ht1, hq1⟩ := append_frow uA w0.heap.size (uY.heap.size) (0) ([]) rA tV.size (.slice (some ⟨b, off, none⟩) k c) (k) (l.take k) (SR1.out _ tV) (by rw [List.length_take]; omega) (by have := HL.out; simp; omega)
          have HN1 := hide hn1
          clear hn1
          have tV := tV.trans (ht1.mono (S' := fun j => w0.heap.size ≤ j) fun k _ e => by rw [e]; exact (rA).hB)
          refine step_append_run rfl _ _ 50 rfl (.slice (some ⟨uY.heap.size, 0, none⟩) 0 0) (.slice (some ⟨b, off, none⟩) k c) rfl rfl _ _ (hr1 _) 46 rfl ?_
          refine hK.out _ _ (SK4.out _ tV) (fun _ => ?_)
          clear hK K
          simp only [Act.put, List.setIfInBounds_toArray, List.set_cons_zero, List.set_cons_succ]
          have lg1 := hf1.lt
          have rY := ht1.heap rY (by omega)
          refine wpAnyH_ready (rs := [7]) (by kernel_rfl) (by simp) ?_
          refine AllReadyH.cons rfl (fun K hK => ?_) AllReadyH.nil
          obtain ⟨g2, n2, c2, w2, hr2, hn2, hf2, ht2, hq2⟩ := append_frow w1 w0.heap.size (g1) (c1) ([] ++ l.take k) hf1 tV.size (.slice (some ⟨U0.heap.size, 0, none⟩) 1 1) (1) ([⟨la, lc, ma, mc, ⟨no, sz, ls, ms, en, sq⟩⟩]) (src_one rY) (rfl) (by have := HL.out; simp; omega)
          have HN2 := hide hn2
          clear hn2
          rw [← HN1.out] at hr2
          have tV := tV.trans (ht2.mono (S' := fun j => w0.heap.size ≤ j) fun k _ e => by rw [e]; exact (hf1).hB)
          refine step_append_run rfl _ _ 50 rfl (.slice (some ⟨g1, 0, none⟩) n1 c1) (.slice (some ⟨U0.heap.size, 0, none⟩) 1 1) rfl rfl _ _ (hr2 _) 49 rfl ?_
          refine hK.out _ _ (SK4.out _ tV) (fun _ => ?_)
          clear hK K
          simp only [Act.put, List.setIfInBounds_toArray, List.set_cons_zero, List.set_cons_succ]
          have lg2 := hf2.lt
          refine wpAnyH_ready (rs := [11]) (by kernel_rfl) (by simp) ?_
          refine AllReadyH.cons rfl (fun K hK => ?_) AllReadyH.nil
          obtain ⟨g3, n3, c3, w3, hr3, hn3, hf3, ht3, hq3⟩ := append_frow w2 w0.heap.size (g2) (c2) ([] ++ l.take k ++ [⟨la, lc, ma, mc, ⟨no, sz, ls, ms, en, sq⟩⟩]) hf2 tV.size (.slice da (n - k) (c - k)) (n - k) (l.drop k) (SR3.out _ tV) (by rw [List.length_drop]; have := HL.out; omega) (by have := HL.out; simp; omega)
          have HN3 := hide hn3
          clear hn3
          rw [← HN2.out] at hr3
          have tV := tV.trans (ht3.mono (S' := fun j => w0.heap.size ≤ j) fun k _ e => by rw [e]; exact (hf2).hB)
          refine step_append_run rfl _ _ 50 rfl (.slice (some ⟨g2, 0, none⟩) n2 c2) (.slice da (n - k) (c - k)) rfl rfl _ _ (hr3 _) 53 rfl ?_
          refine hK.out _ _ (SK4.out _ tV) (fun _ => ?_)
          clear hK K
          simp only [Act.put, List.setIfInBounds_toArray, List.set_cons_zero, List.set_cons_succ]
          have lg3 := hf3.lt
          refine wpAnyH_take (i := 12) (oi := { dst := some 6, op := Op.assign (Operand.tmp 53), type := 50, pos := "ref.go:97", after := #[{ on := 11, ground := Ground.data }, { on := 11, ground := Ground.chain }, { on := 0, ground := Ground.phase }, { on := 1, ground := Ground.phase }, { on := 2, ground := Ground.phase }, { on := 3, ground := Ground.phase }, { on := 4, ground := Ground.phase }, { on := 5, ground := Ground.phase }, { on := 6, ground := Ground.phase }, { on := 7, ground := Ground.phase }, { on := 8, ground := Ground.phase }, { on := 9, ground := Ground.phase }, { on := 10, ground := Ground.phase }, { on := 11, ground := Ground.phase }], guard := none }) (v := .slice (some ⟨g3, 0, none⟩) n3 c3) rfl (by kernel_rfl) (by kernel_rfl) (by kernel_rfl) (fun _ _ _ h => h) (Or.inl ⟨by rfl, ?_⟩) (SK4.out _ tV) ?_
          · rintro w ⟨d0, d1, d2, d3, d4, d5⟩
            go_simp
          simp only [Act.put, List.setIfInBounds_toArray, List.set_cons_zero, List.set_cons_succ]
          refine wpAnyH_done (by kernel_rfl) ?_ _
          have HF3 := hide hf3
          have TZ := hide tV
          clear hf3 tV hr1 hr2 hr3 hf1 hf2 ht1 ht2 ht3 hq1 hq2 hq3 rA rY
          go_wp2_with fail
          go_ret
          have e3 : [] ++ l.take k ++ [⟨la, lc, ma, mc, ⟨no, sz, ls, ms, en, sq⟩⟩] ++ l.drop k = l.take k ++ ⟨la, lc, ma, mc, ⟨no, sz, ls, ms, en, sq⟩⟩ :: l.drop k := by simp
          have h3 := HF3.out
          have h4 := HN3.out
          rw [e3] at h3 h4
          have h5 : n3 = l.length + 1 := by have := HL.out; rw [h4]; simp; omega
          have h6 := HG.out
          have h7 := TA.out.size
          have h8 := h3.hB
          exact ⟨k, some ⟨g3, 0, none⟩, c3, by rw [h5]; rfl, HKL2.out, .inr ⟨g3, rfl, by omega, h3.le, h3.row⟩, HLTS.out, HP2.out, TA.out.trans (turns_new TZ.out)⟩
end Go.Proofs.Ytmmcikbedegigaa
