/-
  Copies of bytes, and of entries.
-/
import Derived.Test.YtjnpendihdlgnaaTk
namespace Go.Proofs.Ytjnpendihdlgnaa
open Go.RowKit
set_option maxRecDepth 100000
set_option maxHeartbeats 4000000
theorem nil_eql (a : Option Addr) (n c : Nat) (w : World) : (binOp .eql 22 (.slice a n c) (.slice none 0 0)).run Try.prog w = .ok (.bool a.isNone) w := by
  cases a <;> kernel_rfl
theorem clone_any (a : Option Addr) (n c : Nat) (bs : List (BitVec 8)) (w : World) (h : Bytes w (.slice a n c) bs) (hn : n ≤ 1000000) :
    Calls Try.prog 59 #[.slice a n c] w fun e w' => ∃ a' c', e = .returned (.slice a' n c') ∧ Bytes w' (.slice a' n c') bs ∧ (∀ x, a' = some x → w.heap.size ≤ x.block ∧ x.block < w'.heap.size) ∧ Below w.heap.size w w' := by
  have hl := h.len
  cases a with
  | none =>
    obtain rfl : n = 0 := by
      rcases Nat.eq_zero_or_pos n with h0 | h0
      · exact h0
      · obtain ⟨_, _, e⟩ := h.addr h0; cases e
    obtain rfl : bs = [] := List.eq_nil_of_length_eq_zero hl.symm
    clear h hl
    have he : (binOp .eql 22 (.slice none 0 c) (.slice none 0 0)).run Try.prog w = .ok (.bool true) w := nil_eql none 0 c w
    go_enter Try.func59, Try.ntmps59
    go_wp2_with fail
    go_ret
    exact ⟨none, 0, rfl, Bytes.empty _, fun x e => (by cases e), Below.refl _ _⟩
  | some ad =>
    have hb : Below w.heap.size w (w.alloc (.cells #[] 5)) := (Below.refl _ _).alloc (Nat.le_refl _) _
    obtain ⟨g, c2, w2, hr, hg, hrow, hb2, hc, _⟩ := append_bytes2 (w.alloc (.cells #[] 5)) w.heap.size (some ⟨w.heap.size, 0, none⟩) 0 0 [] rfl (.slice (some ad) n c) bs n hl (h.below hb) (by simp)
      (.inr ⟨_, rfl, Nat.le_refl _, Nat.le_refl _, #[], heap_alloc_new w _, Nat.le_refl _, fun k hk => by simp [cellsOf] at hk⟩) (by omega)
    rw [Nat.zero_add] at hr hc
    rw [List.nil_append] at hrow
    have HR := hide hr
    have HW := hide (RowB.bytes (c' := c2) hrow hl)
    have HB := hide (hb.trans hb2)
    have HG := hide (show g < w2.heap.size by obtain ⟨cs, h1, _⟩ := hrow; exact lt_of_heap h1)
    clear hr hrow hb hb2 h hl
    have he : (binOp .eql 22 (.slice (some ad) n c) (.slice none 0 0)).run Try.prog w = .ok (.bool false) w := nil_eql (some ad) n c w
    go_enter Try.func59, Try.ntmps59
    go_wp2_with (at_builtin; refine wpList_append_run rfl _ _ 22 rfl (.slice (some ⟨w.heap.size, 0, none⟩) 0 0) (.slice (some ad) n c) rfl rfl _ _ (HR.out _) ?_)
    go_ret
    exact ⟨_, c2, rfl, HW.out, fun x e => by cases e; exact ⟨hg, HG.out⟩, HB.out⟩
theorem info29 : (Try.prog.info? 25).map (·.size) = some 4 := by kernel_rfl
theorem cloneE_any (ka va : Option Addr) (kn kc vn vc s : Nat) (k : Int) (key val : List (BitVec 8)) (w : World) (h1 : Bytes w (.slice ka kn kc) key) (h2 : Bytes w (.slice va vn vc) val) (l1 : kn ≤ 1000000) (l2 : vn ≤ 1000000) :
    Calls Try.prog 44 #[.agg #[.slice ka kn kc, .int .u64 s, .int .i64 k, .slice va vn vc]] w fun e w' => ∃ ka' kc' va' vc', e = .returned (.agg #[.slice ka' kn kc', .int .u64 s, .int .i64 k, .slice va' vn vc']) ∧ Bytes w' (.slice ka' kn kc') key ∧ Bytes w' (.slice va' vn vc') val ∧
      (∀ x, ka' = some x → w.heap.size ≤ x.block ∧ x.block < w'.heap.size) ∧ (∀ x, va' = some x → w.heap.size ≤ x.block ∧ x.block < w'.heap.size) ∧ Below w.heap.size w w' := by
  have ha : Turns (fun _ => False) w ((w.alloc (.cells #[.slice ka kn kc, .int .u64 s, .int .i64 k, .slice va vn vc] 25)).alloc (.cells #[.slice none 0 0, .int .u64 0, .int .i64 0, .slice none 0 0] 25)) := ((Turns.refl _ w).alloc _).alloc _
  have r0 := heap_keep ((Below.refl _ (w.alloc (.cells #[.slice ka kn kc, .int .u64 s, .int .i64 k, .slice va vn vc] 25))).alloc (Nat.le_refl _) (.cells #[.slice none 0 0, .int .u64 0, .int .i64 0, .slice none 0 0] 25)) (heap_alloc_new w (.cells #[.slice ka kn kc, .int .u64 s, .int .i64 k, .slice va vn vc] 25))
  have r1 := heap_alloc_new (w.alloc (.cells #[.slice ka kn kc, .int .u64 s, .int .i64 k, .slice va vn vc] 25)) (.cells #[.slice none 0 0, .int .u64 0, .int .i64 0, .slice none 0 0] 25)
  rw [show (w.alloc (.cells #[.slice ka kn kc, .int .u64 s, .int .i64 k, .slice va vn vc] 25)).heap.size = w.heap.size + 1 by simp] at r1
  have hsz : ((w.alloc (.cells #[.slice ka kn kc, .int .u64 s, .int .i64 k, .slice va vn vc] 25)).alloc (.cells #[.slice none 0 0, .int .u64 0, .int .i64 0, .slice none 0 0] 25)).heap.size = w.heap.size + 2 := by simp
  have HSZ := hide hsz
  have HA := hide ha
  have R0 := hide r0
  have R1 := hide r1
  have H1 := hide h1
  have H2 := hide h2
  clear ha r0 r1 h1 h2 hsz
  go_enter Try.func44, Try.ntmps44
  go_wp2_with fail
  generalize (w.alloc (.cells #[.slice ka kn kc, .int .u64 s, .int .i64 k, .slice va vn vc] 25)).alloc (.cells #[.slice none 0 0, .int .u64 0, .int .i64 0, .slice none 0 0] 25) = w0 at *
  generalize hg : w.heap.size = g at *
  have a0 : w0.cell? ⟨g, 0, none⟩ = some (.slice ka kn kc) := cell_of_row w0 g 0 _ 25 (0, 0) R0.out
  have a1 : w0.cell? ⟨g, 1, none⟩ = some (.int .u64 s) := cell_of_row w0 g 1 _ 25 (0, 0) R0.out
  have a2 : w0.cell? ⟨g, 2, none⟩ = some (.int .i64 k) := cell_of_row w0 g 2 _ 25 (0, 0) R0.out
  have a3 : w0.cell? ⟨g, 3, none⟩ = some (.slice va vn vc) := cell_of_row w0 g 3 _ 25 (0, 0) R0.out
  have C1 := hide (clone_any ka kn kc key w0.drew ((H1.out.quiet HA.out).quiet (Turns.refl _ w0).drew) l1)
  go_region_with (first
    | (go_at_call_of 59 (Value.slice ka kn kc); refine C1.out.mono ?_; rintro e w1 ⟨ka', kc', rfl, hk1, hk2, b1⟩; have t1 := (Turns.refl (fun _ => False) w0).drew.trans (Turns.of_below b1 (fun _ => False)); have a3 := t1.cell a3 (fun x => x); have T1 := hide t1; have HK1 := hide hk1; have HK2 := hide hk2; clear t1 hk1 hk2 b1)
    | (go_at_call_of 59 (Value.slice va vn vc); refine (clone_any va vn vc val w1 ((H2.out.quiet HA.out).quiet T1.out) l2).mono ?_; rintro e w2 ⟨va', vc', rfl, hv1, hv2, b2⟩; have t2 := T1.out.trans (Turns.of_below b2 (fun _ => False)); have r2 := t2.heap R0.out (fun x => x); have z0 := frozen_of_row w2 g 0 _ 25 r2; have z3 := frozen_of_row w2 g 3 _ 25 r2; have c0 := t2.cell a0 (fun x => x); have c1 := t2.cell a1 (fun x => x); have c2 := t2.cell a2 (fun x => x); have c3 := cell_of_row w2 g 3 _ 25 (0, 0) r2; have HV1 := hide hv1; have HV2 := hide hv2; have T2 := hide t2; have B2 := hide b2; have R2 := hide r2; clear t2 hv1 hv2 b2 r2))
  all_goals have r3 := T2.out.heap R1.out (fun x => x)
  all_goals have y0 := frozen_of_row w2 (g + 1) 0 _ 25 r3
  all_goals have y1 := frozen_of_row w2 (g + 1) 1 _ 25 r3
  all_goals have y2 := frozen_of_row w2 (g + 1) 2 _ 25 r3
  all_goals have y3 := frozen_of_row w2 (g + 1) 3 _ 25 r3
  all_goals have x0 := cell_of_row w2 (g + 1) 0 _ 25 (0, 0) r3
  all_goals have x1 := cell_of_row w2 (g + 1) 1 _ 25 (0, 0) r3
  all_goals have x2 := cell_of_row w2 (g + 1) 2 _ 25 (0, 0) r3
  all_goals have x3 := cell_of_row w2 (g + 1) 3 _ 25 (0, 0) r3
  all_goals clear r3
  all_goals go_wp2_with fail
  all_goals
    have k1 := (Tick.refl R2.out).set 0 (.slice ka' kn kc')
    have k2 := k1.set 3 (.slice va' vn vc')
    have r3 := (k2.2.2.1 (g + 1) (by omega)).trans (T2.out.heap R1.out (fun x => x))
    have k3 := (((((Tick.refl r3).set 0 (.slice ka' kn kc')).set 1 (.int .u64 s)).set 2 (.int .i64 k)).set 3 (.slice va' vn vc'))
    have u2 := Turns.of_tick k2
    have u3 := Turns.of_tick k3
    have hsz2 : w0.heap.size ≤ w2.heap.size := T2.out.size
    have hw0 := HSZ.out
    have hlast : Turns (fun _ => False) w _ := ((HA.out.trans T2.out).andThen u2 (fun j hj e => by omega)).andThen u3 (fun j hj e => by omega)
    refine bodyPost_ret (v := .agg #[.slice ka' kn kc', .int .u64 s, .int .i64 k, .slice va' vn vc']) ?_ rfl ?_
    · exact results_cell_row Try.results44 _ _ _ _ _ _ _ rfl k3.1 Try.underlying25 rfl info29
    · have hk : Bytes w2 (.slice ka' kn kc') key := HK1.out.below B2.out
      refine ⟨ka', kc', va', vc', rfl, ?_, ?_, fun x e => ?_, fun x e => ?_, hlast.below (by omega) (fun _ x => x.elim)⟩
      · refine (hk.turns u2 fun a n c e => ?_).turns u3 fun a n c e => ?_
        · cases e; have := (HK2.out _ rfl).1; show ¬ _ = g; have h9 : w0.heap.size ≤ a.block := this; omega
        · cases e; have := (HK2.out _ rfl).1; show ¬ _ = g + 1; have h9 : w0.heap.size ≤ a.block := this; omega
      · refine (HV1.out.turns u2 fun a n c e => ?_).turns u3 fun a n c e => ?_
        · cases e; have := (HV2.out _ rfl).1; have h8 := T1.out.size; show ¬ _ = g; omega
        · cases e; have := (HV2.out _ rfl).1; have h8 := T1.out.size; show ¬ _ = g + 1; omega
      · have h1 := HK2.out x e
        have h9 : w0.heap.size ≤ x.block := h1.1
        have h8 := B2.out.size
        have h7 := k2.2.1
        have h6 := k3.2.1
        omega
      · have h1 := HV2.out x e
        have h8 := T1.out.size
        have h7 := k2.2.1
        have h6 := k3.2.1
        omega
end Go.Proofs.Ytjnpendihdlgnaa
