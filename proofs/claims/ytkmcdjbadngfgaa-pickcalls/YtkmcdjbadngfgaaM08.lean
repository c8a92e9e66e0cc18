import Derived.Test.YtkmcdjbadngfgaaM06
/-
  Copies of bytes, and of files, with the types of their blocks.
-/
namespace Go.Proofs.Ytkmcdjbadngfgaa
open Go.RowKit
set_option maxRecDepth 100000
set_option maxHeartbeats 4000000
theorem cloneT_any (a : Option Addr) (n c : Nat) (bs : List (BitVec 8)) (w : World) (h : Bytes w (.slice a n c) bs) (hn : n ≤ 1000000) :
    Calls Try.prog 48 #[.slice a n c] w fun e w' => ∃ a' c', e = .returned (.slice a' n c') ∧ Bytes w' (.slice a' n c') bs ∧ (∀ x, a' = some x → (w.heap.size ≤ x.block ∧ x.block < w'.heap.size) ∧ ∃ cs, w'.heap[x.block]? = some (.cells cs 5 (0, 0))) ∧ Below w.heap.size w w' := by
  have hl := h.len
  cases a with
  | none =>
    obtain rfl : n = 0 := by
      rcases Nat.eq_zero_or_pos n with h0 | h0
      · exact h0
      · obtain ⟨_, _, e⟩ := h.addr h0; cases e
    obtain rfl : bs = [] := List.eq_nil_of_length_eq_zero hl.symm
    clear h hl
    have he : (binOp .eql 27 (.slice none 0 c) (.slice none 0 0)).run Try.prog w = .ok (.bool true) w := nil_eql none 0 c w
    go_enter Try.func48, Try.ntmps48
    go_wp2_with fail
    go_ret
    exact ⟨none, 0, rfl, Bytes.empty _, fun x e => (by cases e), Below.refl _ _⟩
  | some ad =>
    have hb : Below w.heap.size w (w.alloc (.cells #[] 5)) := (Below.refl _ _).alloc (Nat.le_refl _) _
    obtain ⟨g, c2, w2, hr, hg, hrow, hb2, hc, _⟩ := append_bytes2 (w.alloc (.cells #[] 5)) w.heap.size (some ⟨w.heap.size, 0, none⟩) 0 0 [] rfl (.slice (some ad) n c) bs n hl (h.below hb) (by simp)
      (.inr ⟨_, rfl, Nat.le_refl _, Nat.le_refl _, #[], heap_alloc_new w _, Nat.le_refl _, fun k hk => by simp [cellsOf] at hk⟩) (by omega)
    rw [Nat.zero_add] at hr hc
    rw [List.nil_append] at hrow
    have HR := hide hr
    have HW := hide (RowB.bytes (c' := c2) hrow hl)
    have HB := hide (hb.trans hb2)
    have HG := hide (show ∃ cs, w2.heap[g]? = some (.cells cs 5 (0, 0)) by obtain ⟨cs, h1, _⟩ := hrow; exact ⟨cs, h1⟩)
    clear hr hrow hb hb2 h hl
    have he : (binOp .eql 27 (.slice (some ad) n c) (.slice none 0 0)).run Try.prog w = .ok (.bool false) w := nil_eql (some ad) n c w
    go_enter Try.func48, Try.ntmps48
    go_wp2_with (at_builtin; refine wpList_append_run rfl _ _ 27 rfl (.slice (some ⟨w.heap.size, 0, none⟩) 0 0) (.slice (some ad) n c) rfl rfl _ _ (HR.out _) ?_)
    go_ret
    exact ⟨_, c2, rfl, HW.out, fun x e => by cases e; exact ⟨⟨hg, lt_of_heap HG.out.choose_spec⟩, HG.out⟩, HB.out⟩
/-- A file's bytes lie in blocks of their own kind, at or above B. -/
structure FT (w : World) (B : Nat) (x : Tf) : Prop where
  fb : FB w x
  l : ∀ ad, x.la = some ad → B ≤ ad.block ∧ ∃ cs z, w.heap[ad.block]? = some (.cells cs 5 z)
  m : ∀ ad, x.ma = some ad → B ≤ ad.block ∧ ∃ cs z, w.heap[ad.block]? = some (.cells cs 5 z)
theorem info37 : Try.prog.info? 29 = some Try.t29 := by kernel_rfl
theorem sz37 : (Try.prog.info? 29).map (·.size) = some 6 := by kernel_rfl
theorem cloneF_any (x : Tf) (w : World) (h : FB w x) (l1 : x.f.least.length ≤ 1000000) (l2 : x.f.most.length ≤ 1000000) :
    Calls Try.prog 64 #[x.agg] w fun e w' => ∃ y : Tf, e = .returned y.agg ∧ y.f = x.f ∧ FT w' w.heap.size y ∧ Turns (fun _ => False) w w' := by
  obtain ⟨la, lc, ma, mc, ⟨no, sz, ls, ms, en, sq⟩⟩ := x
  obtain ⟨h1, h2⟩ := h
  unfold Tf.agg
  simp only at *
  have ha : Turns (fun _ => False) w ((w.alloc (.cells #[.int .u64 (no : Nat), .int .i64 sz, .slice la ls.length lc, .slice ma ms.length mc, .int .i64 en, .int .u64 (sq : Nat)] 29)).alloc (.cells #[.int .u64 0, .int .i64 0, .slice none 0 0, .slice none 0 0, .int .i64 0, .int .u64 0] 29)) := ((Turns.refl _ w).alloc _).alloc _
  have r0 := heap_keep ((Below.refl _ (w.alloc (.cells #[.int .u64 (no : Nat), .int .i64 sz, .slice la ls.length lc, .slice ma ms.length mc, .int .i64 en, .int .u64 (sq : Nat)] 29))).alloc (Nat.le_refl _) (.cells #[.int .u64 0, .int .i64 0, .slice none 0 0, .slice none 0 0, .int .i64 0, .int .u64 0] 29)) (heap_alloc_new w (.cells #[.int .u64 (no : Nat), .int .i64 sz, .slice la ls.length lc, .slice ma ms.length mc, .int .i64 en, .int .u64 (sq : Nat)] 29))
  have r1 := heap_alloc_new (w.alloc (.cells #[.int .u64 (no : Nat), .int .i64 sz, .slice la ls.length lc, .slice ma ms.length mc, .int .i64 en, .int .u64 (sq : Nat)] 29)) (.cells #[.int .u64 0, .int .i64 0, .slice none 0 0, .slice none 0 0, .int .i64 0, .int .u64 0] 29)
  rw [show (w.alloc (.cells #[.int .u64 (no : Nat), .int .i64 sz, .slice la ls.length lc, .slice ma ms.length mc, .int .i64 en, .int .u64 (sq : Nat)] 29)).heap.size = w.heap.size + 1 by simp] at r1
  have hsz : ((w.alloc (.cells #[.int .u64 (no : Nat), .int .i64 sz, .slice la ls.length lc, .slice ma ms.length mc, .int .i64 en, .int .u64 (sq : Nat)] 29)).alloc (.cells #[.int .u64 0, .int .i64 0, .slice none 0 0, .slice none 0 0, .int .i64 0, .int .u64 0] 29)).heap.size = w.heap.size + 2 := by simp
  have HSZ := hide hsz
  have HA := hide ha
  have R0 := hide r0
  have R1 := hide r1
  have H1 := hide h1
  have H2 := hide h2
  clear ha r0 r1 h1 h2 hsz
  go_enter Try.func64, Try.ntmps64
  go_wp2_with fail
  generalize (w.alloc (.cells #[.int .u64 (no : Nat), .int .i64 sz, .slice la ls.length lc, .slice ma ms.length mc, .int .i64 en, .int .u64 (sq : Nat)] 29)).alloc (.cells #[.int .u64 0, .int .i64 0, .slice none 0 0, .slice none 0 0, .int .i64 0, .int .u64 0] 29) = w0 at *
  generalize hg : w.heap.size = g at *
  generalize hL1 : ls.length = L1 at *
  generalize hL2 : ms.length = L2 at *
  have HL1 := hide hL1
  have HL2 := hide hL2
  clear hL1 hL2
  have a2 : w0.cell? ⟨g, 2, none⟩ = some (.slice la L1 lc) := cell_of_row w0 g 2 _ 29 (0, 0) R0.out
  have a3 : w0.cell? ⟨g, 3, none⟩ = some (.slice ma L2 mc) := cell_of_row w0 g 3 _ 29 (0, 0) R0.out
  have C1 := hide (cloneT_any la L1 lc ls w0.drew ((H1.out.quiet HA.out).quiet (Turns.refl _ w0).drew) l1)
  go_region_with (first
    | (go_at_call_of 48 (Value.slice la L1 lc); refine C1.out.mono ?_; rintro e w1 ⟨ka', kc', rfl, hk1, hk2, b1⟩; have t1 := (Turns.refl (fun _ => False) w0).drew.trans (Turns.of_below b1 (fun _ => False)); have a3 := t1.cell a3 (fun x => x); have T1 := hide t1; have HK1 := hide hk1; have HK2 := hide hk2; clear t1 hk1 hk2 b1)
    | (go_at_call_of 48 (Value.slice ma L2 mc); refine (cloneT_any ma L2 mc ms w1 ((H2.out.quiet HA.out).quiet T1.out) l2).mono ?_; rintro e w2 ⟨va', vc', rfl, hv1, hv2, b2⟩; have t2 := T1.out.trans (Turns.of_below b2 (fun _ => False)); have r2 := t2.heap R0.out (fun x => x); have z2 := frozen_of_row w2 g 2 _ 29 r2; have z3 := frozen_of_row w2 g 3 _ 29 r2; have c0 := cell_of_row w2 g 0 _ 29 (0, 0) r2; have c1 := cell_of_row w2 g 1 _ 29 (0, 0) r2; have c2 := cell_of_row w2 g 2 _ 29 (0, 0) r2; have c3 := cell_of_row w2 g 3 _ 29 (0, 0) r2; have c4 := cell_of_row w2 g 4 _ 29 (0, 0) r2; have c5 := cell_of_row w2 g 5 _ 29 (0, 0) r2; have HV1 := hide hv1; have HV2 := hide hv2; have T2 := hide t2; have B2 := hide b2; have R2 := hide r2; clear t2 hv1 hv2 b2 r2))
  all_goals have r3 := T2.out.heap R1.out (fun x => x)
  all_goals have y0 := frozen_of_row w2 (g + 1) 0 _ 29 r3
  all_goals have y1 := frozen_of_row w2 (g + 1) 1 _ 29 r3
  all_goals have y2 := frozen_of_row w2 (g + 1) 2 _ 29 r3
  all_goals have y3 := frozen_of_row w2 (g + 1) 3 _ 29 r3
  all_goals have y4 := frozen_of_row w2 (g + 1) 4 _ 29 r3
  all_goals have y5 := frozen_of_row w2 (g + 1) 5 _ 29 r3
  all_goals have x0 := cell_of_row w2 (g + 1) 0 _ 29 (0, 0) r3
  all_goals have x1 := cell_of_row w2 (g + 1) 1 _ 29 (0, 0) r3
  all_goals have x2 := cell_of_row w2 (g + 1) 2 _ 29 (0, 0) r3
  all_goals have x3 := cell_of_row w2 (g + 1) 3 _ 29 (0, 0) r3
  all_goals have x4 := cell_of_row w2 (g + 1) 4 _ 29 (0, 0) r3
  all_goals have x5 := cell_of_row w2 (g + 1) 5 _ 29 (0, 0) r3
  all_goals clear r3
  all_goals go_wp2_with fail
  all_goals
    have k1 := (Tick.refl R2.out).set 2 (.slice ka' L1 kc')
    have k2 := k1.set 3 (.slice va' L2 vc')
    have r3 := (k2.2.2.1 (g + 1) (by omega)).trans (T2.out.heap R1.out (fun x => x))
    have k3 := (((((((Tick.refl r3).set 0 (.int .u64 (no : Nat))).set 1 (.int .i64 sz)).set 2 (.slice ka' L1 kc')).set 3 (.slice va' L2 vc')).set 4 (.int .i64 en)).set 5 (.int .u64 (sq : Nat)))
    have u2 := Turns.of_tick k2
    have u3 := Turns.of_tick k3
    have hsz2 : w0.heap.size ≤ w2.heap.size := T2.out.size
    have hw0 := HSZ.out
    have hlast : Turns (fun _ => False) w _ := ((HA.out.trans T2.out).andThen u2 (fun j hj e => by omega)).andThen u3 (fun j hj e => by omega)
    refine bodyPost_ret (v := .agg #[.int .u64 (no : Nat), .int .i64 sz, .slice ka' L1 kc', .slice va' L2 vc', .int .i64 en, .int .u64 (sq : Nat)]) ?_ rfl ?_
    · exact results_cell_row Try.results64 _ _ _ _ _ _ _ rfl k3.1 Try.underlying29 rfl sz37
    · have hk : Bytes w2 (.slice ka' L1 kc') ls := HK1.out.below B2.out
      refine ⟨⟨ka', kc', va', vc', ⟨no, sz, ls, ms, en, sq⟩⟩, by simp only [HL1.out, HL2.out], rfl, ⟨⟨?_, ?_⟩, fun x e => ?_, fun x e => ?_⟩, hlast⟩
      · show Bytes _ (.slice ka' ls.length kc') ls
        rw [HL1.out]
        refine (hk.turns u2 fun a n c e => ?_).turns u3 fun a n c e => ?_
        · cases e; have := (HK2.out _ rfl).1.1; show ¬ _ = g; have h9 : w0.heap.size ≤ a.block := this; omega
        · cases e; have := (HK2.out _ rfl).1.1; show ¬ _ = g + 1; have h9 : w0.heap.size ≤ a.block := this; omega
      · show Bytes _ (.slice va' ms.length vc') ms
        rw [HL2.out]
        refine (HV1.out.turns u2 fun a n c e => ?_).turns u3 fun a n c e => ?_
        · cases e; have := (HV2.out _ rfl).1.1; have h8 := T1.out.size; show ¬ _ = g; omega
        · cases e; have := (HV2.out _ rfl).1.1; have h8 := T1.out.size; show ¬ _ = g + 1; omega
      · obtain ⟨h1, cs, hcs⟩ := HK2.out x e
        have h9 : w0.heap.size ≤ x.block := h1.1
        exact ⟨by omega, cs, (0, 0), u3.heap (u2.heap ((Turns.of_below B2.out (fun _ => False)).heap hcs (fun x => x)) (by show ¬ x.block = g; omega)) (by show ¬ x.block = g + 1; omega)⟩
      · obtain ⟨h1, cs, hcs⟩ := HV2.out x e
        have h8 := T1.out.size
        exact ⟨by omega, cs, (0, 0), u3.heap (u2.heap hcs (by show ¬ x.block = g; omega)) (by show ¬ x.block = g + 1; omega)⟩
end Go.Proofs.Ytkmcdjbadngfgaa
