/-
  Entries of the batch of the chapter's example.
-/
import Derived.Test.YtpdlbepkkfoadaaSp
namespace Go.Proofs.Ytpdlbepkkfoadaa
open Go.RowKit
set_option maxRecDepth 100000
set_option maxHeartbeats 4000000
theorem nil_eql (a : Option Addr) (n c : Nat) (w : World) : (binOp .eql 22 (.slice a n c) (.slice none 0 0)).run Try.prog w = .ok (.bool a.isNone) w := by
  cases a <;> kernel_rfl
theorem clone_any (a : Option Addr) (n c : Nat) (bs : List (BitVec 8)) (w : World) (h : Bytes w (.slice a n c) bs) (hn : n ≤ 1000000) :
    Calls Try.prog 34 #[.slice a n c] w fun e w' => ∃ a' c', e = .returned (.slice a' n c') ∧ Bytes w' (.slice a' n c') bs ∧ n ≤ c' ∧ (∀ x, a' = some x → w.heap.size ≤ x.block) ∧ Below w.heap.size w w' := by
  have hl := h.len
  cases a with
  | none =>
    obtain rfl : n = 0 := by
      rcases Nat.eq_zero_or_pos n with h0 | h0
      · exact h0
      · obtain ⟨_, _, e⟩ := h.addr h0; cases e
    obtain rfl : bs = [] := List.eq_nil_of_length_eq_zero hl.symm
    clear h hl
    have he : (binOp .eql 22 (.slice none 0 c) (.slice none 0 0)).run Try.prog w = .ok (.bool true) w := nil_eql none 0 c w
    go_enter Try.func34, Try.ntmps34
    go_wp2_with fail
    go_ret
    exact ⟨none, 0, rfl, Bytes.empty _, Nat.le_refl _, fun x e => (by cases e), Below.refl _ _⟩
  | some ad =>
    have hb : Below w.heap.size w (w.alloc (.cells #[] 5)) := (Below.refl _ _).alloc (Nat.le_refl _) _
    obtain ⟨g, c2, w2, hr, hg, hrow, hb2, hc, _⟩ := append_bytes2 (w.alloc (.cells #[] 5)) w.heap.size (some ⟨w.heap.size, 0, none⟩) 0 0 [] rfl (.slice (some ad) n c) bs n hl (h.below hb) (by simp)
      (.inr ⟨_, rfl, Nat.le_refl _, Nat.le_refl _, #[], heap_alloc_new w _, Nat.le_refl _, fun k hk => by simp [cellsOf] at hk⟩) (by omega)
    rw [Nat.zero_add] at hr hc
    rw [List.nil_append] at hrow
    have HR := hide hr
    have HW := hide (RowB.bytes (c' := c2) hrow hl)
    have HB := hide (hb.trans hb2)
    clear hr hrow hb hb2 h hl
    have he : (binOp .eql 22 (.slice (some ad) n c) (.slice none 0 0)).run Try.prog w = .ok (.bool false) w := nil_eql (some ad) n c w
    go_enter Try.func34, Try.ntmps34
    go_wp2_with (at_builtin; refine wpList_append_run rfl _ _ 22 rfl (.slice (some ⟨w.heap.size, 0, none⟩) 0 0) (.slice (some ad) n c) rfl rfl _ _ (HR.out _) ?_)
    go_ret
    exact ⟨_, c2, rfl, HW.out, hc, fun x e => by cases e; exact hg, HB.out⟩
theorem info34 : Try.prog.info? 34 = some Try.t34 := by kernel_rfl
theorem sz34 : Try.t34.size = 4 := by kernel_rfl
theorem bytes34 : Try.t34.bytes = 64 := by kernel_rfl
theorem zero34 : Try.t34.zero = some (.agg #[.slice none 0 0, .int .u64 0, .int .i64 0, .slice none 0 0]) := by kernel_rfl
theorem made34 : madeCells (Value.agg #[.slice none 0 0, .int .u64 0, .int .i64 0, .slice none 0 0]).cells (Int.toNat 2 * 4) = #[.slice none 0 0, .int .u64 0, .int .i64 0, .slice none 0 0, .slice none 0 0, .int .u64 0, .int .i64 0, .slice none 0 0] := by kernel_rfl
theorem make47 (w : World) : (Instr.makeSlice 47 (.int .i64 2) (.int .i64 2)).run Try.prog w = .ok (.slice (some ⟨w.heap.size, 0, none⟩) 2 2) (w.alloc (.cells #[.slice none 0 0, .int .u64 0, .int .i64 0, .slice none 0 0, .slice none 0 0, .int .u64 0, .int .i64 0, .slice none 0 0] 34)) := by
  have hr := run_make (P := Try.prog) w 47 34 Try.t34 (.agg #[.slice none 0 0, .int .u64 0, .int .i64 0, .slice none 0 0]) Try.underlying47 info34 zero34 .i64 .i64 2 2 (by decide) (by decide) (by rw [bytes34]; decide) (by decide)
  rw [hr, sz34, made34]
  rfl
theorem smol_lives : Smol [(1, [97#8], [49#8]), (1, [97#8], [50#8])] := ⟨by decide, by decide⟩
theorem chk_lives : chk 1 [(1, [97#8], [49#8]), (1, [97#8], [50#8])] = 0 := by decide
theorem setLo {w : World} {G : Nat} {x0 x1 x2 x3 x4 x5 x6 x7 a b c d : Value} (h : Two w G x0 x1 x2 x3 x4 x5 x6 x7) :
    Two ((((w.setCell ⟨G, 0, none⟩ a).setCell ⟨G, 1, none⟩ b).setCell ⟨G, 2, none⟩ c).setCell ⟨G, 3, none⟩ d) G a b c d x4 x5 x6 x7 := by
  unfold Two at h ⊢
  have s0 := heap_setCell_same _ G 0 _ 34 a h
  simp only [List.setIfInBounds_toArray, List.set_cons_zero] at s0
  have s1 := heap_setCell_same _ G 1 _ 34 b s0
  simp only [List.setIfInBounds_toArray, List.set_cons_succ, List.set_cons_zero] at s1
  have s2 := heap_setCell_same _ G 2 _ 34 c s1
  simp only [List.setIfInBounds_toArray, List.set_cons_succ, List.set_cons_zero] at s2
  have s3 := heap_setCell_same _ G 3 _ 34 d s2
  simp only [List.setIfInBounds_toArray, List.set_cons_succ, List.set_cons_zero] at s3
  exact s3
theorem setHi {w : World} {G : Nat} {x0 x1 x2 x3 x4 x5 x6 x7 a b c d : Value} (h : Two w G x0 x1 x2 x3 x4 x5 x6 x7) :
    Two ((((w.setCell ⟨G, 4, none⟩ a).setCell ⟨G, 5, none⟩ b).setCell ⟨G, 6, none⟩ c).setCell ⟨G, 7, none⟩ d) G x0 x1 x2 x3 a b c d := by
  unfold Two at h ⊢
  have s0 := heap_setCell_same _ G 4 _ 34 a h
  simp only [List.setIfInBounds_toArray, List.set_cons_succ, List.set_cons_zero] at s0
  have s1 := heap_setCell_same _ G 5 _ 34 b s0
  simp only [List.setIfInBounds_toArray, List.set_cons_succ, List.set_cons_zero] at s1
  have s2 := heap_setCell_same _ G 6 _ 34 c s1
  simp only [List.setIfInBounds_toArray, List.set_cons_succ, List.set_cons_zero] at s2
  have s3 := heap_setCell_same _ G 7 _ 34 d s2
  simp only [List.setIfInBounds_toArray, List.set_cons_succ, List.set_cons_zero] at s3
  exact s3
theorem cell_other4 {w : World} {G : Nat} {i0 i1 i2 i3 : Nat} {v0 v1 v2 v3 v : Value} {p : Addr} (h : w.cell? p = some v) (hp : p.block ≠ G) : ((((w.setCell ⟨G, i0, none⟩ v0).setCell ⟨G, i1, none⟩ v1).setCell ⟨G, i2, none⟩ v2).setCell ⟨G, i3, none⟩ v3).cell? p = some v := by
  have ht := turns_cell (turns_cell (turns_cell (turns_cell (Turns.refl (fun j => j = G) w) i0 v0) i1 v1) i2 v2) i3 v3
  exact ht.cell h hp
theorem entries_lives (a : Option Addr) (c : Nat) (w : World) (h : Wrs w (.slice a 2 c) [(1, [97#8], [49#8]), (1, [97#8], [50#8])]) :
    Calls Try.prog 19 #[.agg #[.int .u64 1, .slice a 2 c]] w fun e w' => ∃ g, e = .returned (.tuple #[.slice (some ⟨g, 0, none⟩) 2 2, .int .i64 0]) ∧ w'.cell? ⟨g, 1, none⟩ = some (.int .u64 2) ∧ w'.cell? ⟨g, 5, none⟩ = some (.int .u64 1) ∧ Below w.heap.size w w' := by
  have hb0 := (Below.refl w.heap.size w).alloc (Nat.le_refl _) (.cells #[.int .u64 1, .slice a 2 c] 31)
  have HNEW := hide (heap_alloc_new w (.cells #[.int .u64 1, .slice a 2 c] 31))
  have H := hide (h.below hb0)
  have HB0 := hide hb0
  clear h hb0
  go_enter Try.func19, Try.ntmps19
  go_wp2_with fail
  refine (check_any 1 (by decide) a 2 c _ _ H.out smol_lives).mono ?_
  rintro e w1 ⟨rfl, b1⟩
  rw [chk_lives]
  have hnew1 := heap_keep b1 HNEW.out
  have f0 : w1.cell? ⟨w.heap.size, 0, none⟩ = some (.int .u64 1) := cell_of_row w1 _ 0 _ 31 (0, 0) hnew1
  have f1 : w1.cell? ⟨w.heap.size, 1, none⟩ = some (.slice a 2 c) := cell_of_row w1 _ 1 _ 31 (0, 0) hnew1
  have HN1 := hide hnew1
  have H1 := hide (H.out.below b1)
  have B1 := hide (HB0.out.trans (b1.mono HB0.out.size))
  clear b1 hnew1 HB0 HNEW H
  have hmk := make47 w1
  have n2 := heap_alloc_new w1 (.cells #[.slice none 0 0, .int .u64 0, .int .i64 0, .slice none 0 0, .slice none 0 0, .int .u64 0, .int .i64 0, .slice none 0 0] 34)
  have b2 := (Below.refl w1.heap.size w1).alloc (Nat.le_refl _) (.cells #[.slice none 0 0, .int .u64 0, .int .i64 0, .slice none 0 0, .slice none 0 0, .int .u64 0, .int .i64 0, .slice none 0 0] 34)
  generalize w1.alloc (.cells #[.slice none 0 0, .int .u64 0, .int .i64 0, .slice none 0 0, .slice none 0 0, .int .u64 0, .int .i64 0, .slice none 0 0] 34) = w2 at *
  have hnew2 := heap_keep b2 HN1.out
  have g0 : w2.cell? ⟨w.heap.size, 0, none⟩ = some (.int .u64 1) := cell_of_row w2 _ 0 _ 31 (0, 0) hnew2
  have g1 : w2.cell? ⟨w.heap.size, 1, none⟩ = some (.slice a 2 c) := cell_of_row w2 _ 1 _ 31 (0, 0) hnew2
  have HN2 := hide hnew2
  have N2 := hide n2
  have BB2 := hide b2
  have B2 := hide (B1.out.trans (b2.mono B1.out.size))
  have hlt : w.heap.size < w1.heap.size := lt_of_heap HN1.out
  have hlt2 : w1.heap.size < w2.heap.size := lt_of_heap n2
  clear n2 b2 hnew2
  go_wp2_with fail
  generalize hG : w1.heap.size = G at *
  have HG := hide hG
  clear hG
  clear hmk f0 f1 g0 g1
  go_loopw [20] (fun i wr => ∃ k : Nat, i = .int .i64 (k : Nat) ∧ k ≤ 2 ∧ Turns (fun j => j = G) w2 wr ∧ ∃ (x0 x3 x4 x7 : Value) (s0 s1 k0 k1 : Int), wr.heap[G]? = some (.cells #[x0, .int .u64 s0, .int .i64 k0, x3, x4, .int .u64 s1, .int .i64 k1, x7] 34 (0, 0)) ∧
      (1 ≤ k → s0 = 1 ∧ (∃ a c, x0 = .slice a 1 c ∧ Bytes wr (.slice a 1 c) [97#8] ∧ ∀ x, a = some x → x.block ≠ G) ∧ ∃ a n c, x3 = .slice a n c) ∧
      (2 ≤ k → s1 = 2 ∧ (∃ a c, x4 = .slice a 1 c ∧ Bytes wr (.slice a 1 c) [97#8] ∧ ∀ x, a = some x → x.block ≠ G) ∧ ∃ a n c, x7 = .slice a n c)) (fun i _ => 2 - (intOf i).toNat)
  case atStart => exact ⟨0, rfl, by decide, Turns.refl _ _, _, _, _, _, _, _, _, _, N2.out, fun h => absurd h (by decide), fun h => absurd h (by decide)⟩
  case round =>
    obtain ⟨k, rfl, hk, ht, x0, x3, x4, x7, s0, s1, k0, k1, hrow, he1, he2⟩ := hrel
    have HT := hide ht
    have HE1 := hide he1
    have HE2 := hide he2
    have HROW := hide hrow
    clear he1 he2 ht
    by_cases hkn : k < 2
    · have hkk : k = 0 ∨ k = 1 := by omega
      have hN := HT.out.heap HN2.out (by omega)
      have g0 : wr.cell? ⟨w.heap.size, 0, none⟩ = some (.int .u64 1) := cell_of_row wr _ 0 _ 31 (0, 0) hN
      rcases hkk with rfl | rfl
      · obtain ⟨b, off, rfl, y0, ka, kc, va, vc, y1, y2, hby1, hby2⟩ := H1.out.at 0 (by decide)
        have hnG : b ≠ G := by have := block_lt_of_cell y0; have := HG.out; simp only at *; omega
        have bw : Below G w1 w2 := BB2.out
        have y0' := HT.out.cell ((BB2.out.cell (by have := block_lt_of_cell y0; have := HG.out; simp only at *; omega)).trans y0) hnG
        have y1' := HT.out.cell ((BB2.out.cell (by have := block_lt_of_cell y1; have := HG.out; simp only at *; omega)).trans y1) hnG
        have y2' := HT.out.cell ((BB2.out.cell (by have := block_lt_of_cell y2; have := HG.out; simp only at *; omega)).trans y2) hnG
        have bG : Below G w1 wr := bw.trans (HT.out.below (by omega) (fun j e => by omega))
        have hb1 : Below w1.heap.size w1 wr := by rw [HG.out]; exact bG
        have hby1' : Bytes w1 (.slice ka 1 kc) [97#8] := hby1
        have hby2' : Bytes w1 (.slice va 1 vc) [49#8] := hby2
        have BY1 := hide (hby1'.below hb1)
        have BY2 := hide (hby2'.below hb1)
        simp at y0' y1' y2'
        have b0 := (Below.refl wr.heap.size wr).alloc (Nat.le_refl _) (.cells #[.int .i64 1, .slice ka 1 kc, .slice va 1 vc] 24)
        have nb := heap_alloc_new wr (.cells #[.int .i64 1, .slice ka 1 kc, .slice va 1 vc] 24)
        have hlr : G < wr.heap.size := lt_of_heap HROW.out
        have BX1 := hide (BY1.out.below b0)
        have BX2 := hide (BY2.out.below b0)
        have hrow0 := heap_keep b0 HROW.out
        have hN0 := heap_keep b0 hN
        have HB0 := hide b0
        clear y0 y1 y2 bw bG hb1 hby1 hby2 hby1' hby2' BY1 BY2 b0 hN
        go_wp2_with fail
        generalize hW0 : wr.alloc (.cells #[.int .i64 1, .slice ka 1 kc, .slice va 1 vc] 24) = W0 at *
        generalize hX : wr.heap.size = X at *
        have c0 : W0.cell? ⟨X, 0, none⟩ = some (.int .i64 1) := cell_of_row W0 _ 0 _ 24 (0, 0) nb
        have c1 : W0.cell? ⟨X, 1, none⟩ = some (.slice ka 1 kc) := cell_of_row W0 _ 1 _ 24 (0, 0) nb
        have c2 : W0.cell? ⟨X, 2, none⟩ = some (.slice va 1 vc) := cell_of_row W0 _ 2 _ 24 (0, 0) nb
        have c3 : W0.cell? ⟨w.heap.size, 0, none⟩ = some (.int .u64 1) := cell_of_row W0 _ 0 _ 31 (0, 0) hN0
        have NB := hide nb
        have HN0 := hide hN0
        have HROW0 := hide hrow0
        have HW0 := hide hW0
        have HX := hide hX
        clear nb hN0 hrow0 hW0 hX g0 y0' y1' y2' hrow
        go_region_held (fun w' => w'.cell? ⟨X, 0, none⟩ = some (.int .i64 1) ∧ w'.cell? ⟨X, 1, none⟩ = some (.slice ka 1 kc) ∧ w'.cell? ⟨X, 2, none⟩ = some (.slice va 1 vc) ∧ w'.cell? ⟨w.heap.size, 0, none⟩ = some (.int .u64 1)) (first | (with_reducible exact ⟨f0, f1, f2, f3⟩) | (with_reducible exact ⟨e0, e1, e2, e3⟩) | (simp only [World.cell?_drew]; with_reducible exact ⟨c0, c1, c2, c3⟩) | exact ⟨cell_other4 f0 (by show X ≠ G; omega), cell_other4 f1 (by show X ≠ G; omega), cell_other4 f2 (by show X ≠ G; omega), cell_other4 f3 (by show w.heap.size ≠ G; omega)⟩) (first
          | (go_at_call_of 34 (Value.slice ka 1 kc); refine (clone_any ka 1 kc [97#8] W0.drew BX1.out (by decide)).mono ?_; rintro e w5 ⟨a5, c5, rfl, hby5, _, hblk5, b5⟩; have B5 := hide b5; have e0 := (b5.cell (block_lt_of_cell c0)).trans c0; have e1 := (b5.cell (block_lt_of_cell c1)).trans c1; have e2 := (b5.cell (block_lt_of_cell c2)).trans c2; have e3 := (b5.cell (block_lt_of_cell c3)).trans c3; have BX2' := hide (Bytes.below (w := W0.drew) BX2.out b5); have HBY5 := hide hby5; have HBLK5 := hide hblk5; clear b5 hby5 hblk5)
          | (go_at_call_of 34 (Value.slice va 1 vc); refine (clone_any va 1 vc _ w5 BX2'.out (by decide)).mono ?_; rintro e w6 ⟨a6, c6, rfl, _, _, _, b6⟩; have f0 := (b6.cell (block_lt_of_cell e0)).trans e0; have f1 := (b6.cell (block_lt_of_cell e1)).trans e1; have f2 := (b6.cell (block_lt_of_cell e2)).trans e2; have f3 := (b6.cell (block_lt_of_cell e3)).trans e3; have r6 := heap_keep b6 (heap_keep (w := W0.drew) B5.out HROW0.out); have R6 := hide r6; have B6 := hide b6; have z0 := cell_of_row w6 G 0 _ 34 (0, 0) r6; have z1 := cell_of_row w6 G 1 _ 34 (0, 0) r6; have z2 := cell_of_row w6 G 2 _ 34 (0, 0) r6; have z3 := cell_of_row w6 G 3 _ 34 (0, 0) r6; have q0 := frozen_of_row w6 G 0 _ 34 r6; have q1 := frozen_of_row w6 G 1 _ 34 r6; have q2 := frozen_of_row w6 G 2 _ 34 r6; have q3 := frozen_of_row w6 G 3 _ 34 r6; simp at z0 z1 z2 z3; clear b6 r6))
        go_wp2_with fail
        go_roundw
        case rel =>
          have hX := HX.out
          have hb0 : Below wr.heap.size wr W0 := by rw [hX]; exact HB0.out
          have htr : Turns (fun j => j = G) wr w6 := (((Turns.of_below hb0 _).drew).trans (Turns.of_below B5.out _)).trans (Turns.of_below B6.out _)
          have hW0 : G < W0.drew.heap.size := Nat.lt_of_lt_of_le (by omega) hb0.size
          have hby6 := HBY5.out.below B6.out
          have hnb : ∀ x, a5 = some x → x.block ≠ G := fun x e => by have := HBLK5.out x e; omega
          refine ⟨1, by go_num, by decide, turns_cell (turns_cell (turns_cell (turns_cell (HT.out.trans htr) _ _) _ _) _ _) _ _, _, _, _, _, _, _, _, _, setLo R6.out, fun _ => ⟨rfl, ⟨a5, c5, rfl, ?_, hnb⟩, _, _, _, rfl⟩, fun h => absurd h (by decide)⟩
          exact hby6.turns (turns_cell (turns_cell (turns_cell (turns_cell (Turns.refl (fun j => j = G) w6) _ _) _ _) _ _) _ _) (fun x n c e => hnb x (by cases e; rfl))
        case measure => simp [intOf]
      · obtain ⟨b, off, rfl, y0, ka, kc, va, vc, y1, y2, hby1, hby2⟩ := H1.out.at 1 (by decide)
        have hnG : b ≠ G := by have := block_lt_of_cell y0; have := HG.out; simp only at *; omega
        have bw : Below G w1 w2 := BB2.out
        have y0' := HT.out.cell ((BB2.out.cell (by have := block_lt_of_cell y0; have := HG.out; simp only at *; omega)).trans y0) hnG
        have y1' := HT.out.cell ((BB2.out.cell (by have := block_lt_of_cell y1; have := HG.out; simp only at *; omega)).trans y1) hnG
        have y2' := HT.out.cell ((BB2.out.cell (by have := block_lt_of_cell y2; have := HG.out; simp only at *; omega)).trans y2) hnG
        have bG : Below G w1 wr := bw.trans (HT.out.below (by omega) (fun j e => by omega))
        have hb1 : Below w1.heap.size w1 wr := by rw [HG.out]; exact bG
        have hby1' : Bytes w1 (.slice ka 1 kc) [97#8] := hby1
        have hby2' : Bytes w1 (.slice va 1 vc) [50#8] := hby2
        have BY1 := hide (hby1'.below hb1)
        have BY2 := hide (hby2'.below hb1)
        simp at y0' y1' y2'
        have b0 := (Below.refl wr.heap.size wr).alloc (Nat.le_refl _) (.cells #[.int .i64 1, .slice ka 1 kc, .slice va 1 vc] 24)
        have nb := heap_alloc_new wr (.cells #[.int .i64 1, .slice ka 1 kc, .slice va 1 vc] 24)
        have hlr : G < wr.heap.size := lt_of_heap HROW.out
        have BX1 := hide (BY1.out.below b0)
        have BX2 := hide (BY2.out.below b0)
        have hrow0 := heap_keep b0 HROW.out
        have hN0 := heap_keep b0 hN
        have HB0 := hide b0
        clear y0 y1 y2 bw bG hb1 hby1 hby2 hby1' hby2' BY1 BY2 b0 hN
        go_wp2_with fail
        generalize hW0 : wr.alloc (.cells #[.int .i64 1, .slice ka 1 kc, .slice va 1 vc] 24) = W0 at *
        generalize hX : wr.heap.size = X at *
        have c0 : W0.cell? ⟨X, 0, none⟩ = some (.int .i64 1) := cell_of_row W0 _ 0 _ 24 (0, 0) nb
        have c1 : W0.cell? ⟨X, 1, none⟩ = some (.slice ka 1 kc) := cell_of_row W0 _ 1 _ 24 (0, 0) nb
        have c2 : W0.cell? ⟨X, 2, none⟩ = some (.slice va 1 vc) := cell_of_row W0 _ 2 _ 24 (0, 0) nb
        have c3 : W0.cell? ⟨w.heap.size, 0, none⟩ = some (.int .u64 1) := cell_of_row W0 _ 0 _ 31 (0, 0) hN0
        have NB := hide nb
        have HN0 := hide hN0
        have HROW0 := hide hrow0
        have HW0 := hide hW0
        have HX := hide hX
        clear nb hN0 hrow0 hW0 hX g0 y0' y1' y2' hrow
        go_region_held (fun w' => w'.cell? ⟨X, 0, none⟩ = some (.int .i64 1) ∧ w'.cell? ⟨X, 1, none⟩ = some (.slice ka 1 kc) ∧ w'.cell? ⟨X, 2, none⟩ = some (.slice va 1 vc) ∧ w'.cell? ⟨w.heap.size, 0, none⟩ = some (.int .u64 1)) (first | (with_reducible exact ⟨f0, f1, f2, f3⟩) | (with_reducible exact ⟨e0, e1, e2, e3⟩) | (simp only [World.cell?_drew]; with_reducible exact ⟨c0, c1, c2, c3⟩) | exact ⟨cell_other4 f0 (by show X ≠ G; omega), cell_other4 f1 (by show X ≠ G; omega), cell_other4 f2 (by show X ≠ G; omega), cell_other4 f3 (by show w.heap.size ≠ G; omega)⟩) (first
          | (go_at_call_of 34 (Value.slice ka 1 kc); refine (clone_any ka 1 kc [97#8] W0.drew BX1.out (by decide)).mono ?_; rintro e w5 ⟨a5, c5, rfl, hby5, _, hblk5, b5⟩; have B5 := hide b5; have e0 := (b5.cell (block_lt_of_cell c0)).trans c0; have e1 := (b5.cell (block_lt_of_cell c1)).trans c1; have e2 := (b5.cell (block_lt_of_cell c2)).trans c2; have e3 := (b5.cell (block_lt_of_cell c3)).trans c3; have BX2' := hide (Bytes.below (w := W0.drew) BX2.out b5); have HBY5 := hide hby5; have HBLK5 := hide hblk5; clear b5 hby5 hblk5)
          | (go_at_call_of 34 (Value.slice va 1 vc); refine (clone_any va 1 vc _ w5 BX2'.out (by decide)).mono ?_; rintro e w6 ⟨a6, c6, rfl, _, _, _, b6⟩; have f0 := (b6.cell (block_lt_of_cell e0)).trans e0; have f1 := (b6.cell (block_lt_of_cell e1)).trans e1; have f2 := (b6.cell (block_lt_of_cell e2)).trans e2; have f3 := (b6.cell (block_lt_of_cell e3)).trans e3; have r6 := heap_keep b6 (heap_keep (w := W0.drew) B5.out HROW0.out); have R6 := hide r6; have B6 := hide b6; have z0 := cell_of_row w6 G 4 _ 34 (0, 0) r6; have z1 := cell_of_row w6 G 5 _ 34 (0, 0) r6; have z2 := cell_of_row w6 G 6 _ 34 (0, 0) r6; have z3 := cell_of_row w6 G 7 _ 34 (0, 0) r6; have q0 := frozen_of_row w6 G 4 _ 34 r6; have q1 := frozen_of_row w6 G 5 _ 34 r6; have q2 := frozen_of_row w6 G 6 _ 34 r6; have q3 := frozen_of_row w6 G 7 _ 34 r6; simp at z0 z1 z2 z3; clear b6 r6))
        go_wp2_with fail
        go_roundw
        case rel =>
          have hX := HX.out
          have hb0 : Below wr.heap.size wr W0 := by rw [hX]; exact HB0.out
          have htr : Turns (fun j => j = G) wr w6 := (((Turns.of_below hb0 _).drew).trans (Turns.of_below B5.out _)).trans (Turns.of_below B6.out _)
          have hW0 : G < W0.drew.heap.size := Nat.lt_of_lt_of_le (by omega) hb0.size
          have hby6 := HBY5.out.below B6.out
          have hnb : ∀ x, a5 = some x → x.block ≠ G := fun x e => by have := HBLK5.out x e; omega
          obtain ⟨hs0, ⟨a0, c00, hx0, hby0, hn0⟩, hx3⟩ := HE1.out (by decide)
          refine ⟨2, by go_num, by decide, turns_cell (turns_cell (turns_cell (turns_cell (HT.out.trans htr) _ _) _ _) _ _) _ _, _, _, _, _, _, _, _, _, setHi R6.out, fun _ => ⟨hs0, ⟨a0, c00, hx0, ?_, hn0⟩, hx3⟩, fun _ => ⟨rfl, ⟨a5, c5, rfl, ?_, hnb⟩, _, _, _, rfl⟩⟩
          · exact Bytes.turns (hby0.turns htr (fun x n c e => hn0 x (by cases e; rfl))) (turns_cell (turns_cell (turns_cell (turns_cell (Turns.refl (fun j => j = G) w6) _ _) _ _) _ _) _ _) (fun x n c e => hn0 x (by cases e; rfl))
          · exact hby6.turns (turns_cell (turns_cell (turns_cell (turns_cell (Turns.refl (fun j => j = G) w6) _ _) _ _) _ _) _ _) (fun x n c e => hnb x (by cases e; rfl))
        case measure => simp [intOf]
    · obtain rfl : k = 2 := by omega
      obtain ⟨rfl, ⟨ka, kc, rfl, hk0, hn0⟩, va, vn, vc, rfl⟩ := HE1.out (by decide)
      obtain ⟨rfl, ⟨kb, kc', rfl, hk1, hn1⟩, vb, vn', vc', rfl⟩ := HE2.out (by decide)
      have HK0 := hide hk0
      have HK1 := hide hk1
      clear hk0 hk1 hn0 hn1 hrow
      go_wp2_with fail
      refine (sort_two G ka va kb vb kc vn vc kc' vn' vc' k0 k1 _ HROW.out HK0.out HK1.out).mono ?_
      rintro e w9 ⟨⟨v, rfl⟩, hr9, ht9⟩
      have HR9 := hide hr9
      have HT9 := hide (HT.out.trans ht9)
      clear hr9 ht9
      go_wp2_with fail
      go_ret2
      exact ⟨G, rfl, cell_of_row w9 _ 1 _ 34 (0, 0) HR9.out, cell_of_row w9 _ 5 _ 34 (0, 0) HR9.out, B2.out.trans (HT9.out.below (by omega) (fun j e => by omega))⟩
end Go.Proofs.Ytpdlbepkkfoadaa
