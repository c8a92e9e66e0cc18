/-
  One entry more in the loop's own memory.
-/
import Derived.Test.YtkeglaplckfllaaIt
namespace Go.Proofs.Ytkeglaplckfllaa
open Go.RowKit Go.Shelf
theorem step_append_runIn {F : Fence} {n : Nat} {P : Program} {ops : Array Oper} {o : Oper} {a : Act} {w : World} {K : Act → World → Prop} {Q : Exit → Act → World → Prop} {E : Prop} (hgd : o.guard = none) (s x : Operand) (t : TypeId)
    (ho : o.op = .call { callee := .builtin .append, args := #[s, x], argTypes := #[t, t] }) (vs vx : Value) (hs : a.eval s = vs) (hx : a.eval x = vx) (v : Value) (w' : World)
    (hr : (Builtin.append_ #[t, t] o.type #[vs, vx]).run P w = .ok v w') (d : Nat) (hd : o.dst = some d) (h : K (a.put (some d) v) w') :
    if Region.wanted o (yielded ops a.tmps) = true then Oper.wpIn F n P o a w K Q else E := by
  rw [if_pos (by simp [Region.wanted, hgd])]
  unfold Oper.wpIn
  refine ⟨?_, ?_⟩
  · simp [Oper.about, ho, resolve, Target.leads, Sem.run_pure]
  · rw [Oper.semAt_plain F _ _ (by rw [ho]; intro c hc'; cases hc')]
    simp [execOp, ho, resolve, invoke, builtin, hs, hx, hr, Result.andThen]
    rw [← hd] at h
    exact h
/-- What has come so far, in the loop's own memory. -/
def Got (N0 bl bn : Nat) (n : Int) (w : World) (R : List Tow) (W : World) : Prop :=
  ∃ v, (W.heap[bl]? = some (.cells #[v] 33 (0, 0)) ∧ W.heap[bn]? = some (.cells #[.int .i64 n] 3 (0, 0)) ∧ ERow W (bl + 1) v R ∧ Shown W (bl + 1) R ∧ ∀ x, x ∈ R → ∀ q, x.bytesIn q → ¬ inRow v q) ∧ Below N0 w W
theorem body_end {N0 : Nat} {n : Int} {w W W2 W4 : World} {R : List Tow} {v v' : Value} {o : Obj} {y : Tow} {ka' va' : Option Addr} {kc' vc' g' n' c' : Nat} (g1 : W.heap[N0 + 1]? = some (.cells #[v] 33 (0, 0))) (g2 : W.heap[N0]? = some (.cells #[.int .i64 n] 3 (0, 0))) (g3 : ERow W (N0 + 1 + 1) v R) (g4 : Shown W (N0 + 1 + 1) R) (g5 : ∀ x, x ∈ R → ∀ q, x.bytesIn q → ¬ inRow v q) (g6 : Below N0 w W)
    (t6 : Turns (fun _ => False) W W2) (hk : Bytes W2 (.slice ka' y.e.key.length kc') y.e.key) (hv : Bytes W2 (.slice va' y.e.val.length vc') y.e.val) (hkb : ∀ x, ka' = some x → W.heap.size ≤ x.block ∧ x.block < W2.heap.size) (hvb : ∀ x, va' = some x → W.heap.size ≤ x.block ∧ x.block < W2.heap.size)
    (hv' : v' = .slice (some ⟨g', 0, none⟩) n' c') (hrow : ERow W4 (N0 + 1 + 1) v' (R ++ [⟨0, ka', kc', va', vc', y.e, 0⟩])) (t4 : Turns (inRow v) (W2.alloc o) W4) (hin : inRow v g' ∨ g' = (W2.alloc o).heap.size) :
    W4.cell? ⟨N0 + 1, 0, none⟩ = some v ∧ W4.frozen? ⟨N0 + 1, 0, none⟩ = false ∧ (∀ B, KeepsFrom B W (W4.setCell ⟨N0 + 1, 0, none⟩ v')) ∧ Below N0 W (W4.setCell ⟨N0 + 1, 0, none⟩ v') ∧ Got N0 (N0 + 1) N0 n w (R ++ [⟨0, ka', kc', va', vc', y.e, 0⟩]) (W4.setCell ⟨N0 + 1, 0, none⟩ v') := by
  have hrowb : ∀ {k}, inRow v k → N0 + 1 + 1 ≤ k ∧ k < W.heap.size := fun hk => g3.row hk
  have ha : (W2.alloc o).heap.size = W2.heap.size + 1 := by simp
  have ta : Turns (fun _ => False) W (W2.alloc o) := t6.alloc o
  have hWs := ta.size
  have h62 := t6.size
  have hbl : N0 + 1 < W.heap.size := lt_of_heap g1
  have h41 : W4.heap[N0 + 1]? = some (.cells #[v] 33 (0, 0)) := t4.heap (ta.heap g1 (fun x => x)) (fun h => by have := (hrowb h).1; omega)
  have h42 : W4.heap[N0]? = some (.cells #[.int .i64 n] 3 (0, 0)) := t4.heap (ta.heap g2 (fun x => x)) (fun h => by have := (hrowb h).1; omega)
  have tk := (Tick.refl h41).set 0 v'
  have tt := Turns.of_tick tk
  have h44 := t4.size
  have h45 := tt.size
  have hall : Turns (fun k => N0 ≤ k) W (W4.setCell ⟨N0 + 1, 0, none⟩ v') := ((ta.mono fun _ _ x => x.elim).trans (t4.mono fun k _ h => by have := (hrowb h).1; show N0 ≤ k; omega)).trans (tt.mono fun k _ h => by show N0 ≤ k; omega)
  have hbw : Below N0 W (W4.setCell ⟨N0 + 1, 0, none⟩ v') := hall.below (by omega) (fun k h => h)
  have hcellsrow : ∀ {k}, inRow v k → ∃ cs, W.heap[k]? = some (.cells cs 29 (0, 0)) := fun {k} hk => by
    obtain ⟨m, d, e⟩ := hk
    rcases g3 with ⟨_, rfl⟩ | ⟨g, c, q, rfl, _, _, _, cs, h1, _⟩
    · cases e
    · cases e; exact ⟨cs, h1⟩
  have hg' : N0 + 1 + 1 ≤ g' := by
    rcases hin with h | h
    · exact (hrowb h).1
    · omega
  refine ⟨(cell_of_row W4 _ 0 _ 33 (0, 0) h41), frozen_of_row W4 _ 0 _ 33 h41, fun B => ⟨by omega, fun k ob _ hk ho => ?_⟩, hbw, v', ⟨?_, ?_, ?_, ?_, ?_⟩, g6.trans hbw⟩
  · have hks := lt_of_heap hk
    refine tt.heap (t4.heap (ta.heap hk (fun x => x)) fun h => ?_) fun h => ?_
    · obtain ⟨cs, h1⟩ := hcellsrow h
      rw [hk] at h1
      cases h1
      cases ho
    · have : k = N0 + 1 := h
      rw [this, g1] at hk
      cases hk
      cases ho
  · exact tk.1
  · exact tt.heap h42 (by show ¬ N0 = N0 + 1; omega)
  · refine hrow.keep tt fun k hk e => ?_
    rw [hv'] at hk
    obtain ⟨m, d, e2⟩ := hk
    cases e2
    have : g' = N0 + 1 := e
    omega
  · intro x hx
    rcases List.mem_append.1 hx with hx | hx
    · have h := g4 x hx
      refine ⟨?_, ?_, fun q hq => ⟨(h.2.2 q hq).1, by have := (h.2.2 q hq).2; omega⟩⟩
      · exact bytes_keep (bytes_keep (bytes_keep h.1 ta fun _ _ x => x) t4 fun a e => g5 x hx _ (.inl ⟨a, e, rfl⟩)) tt fun a e e2 => by have := (h.2.2 a.block (.inl ⟨a, e, rfl⟩)).1; have e2 : a.block = N0 + 1 := e2; omega
      · exact bytes_keep (bytes_keep (bytes_keep h.2.1 ta fun _ _ x => x) t4 fun a e => g5 x hx _ (.inr ⟨a, e, rfl⟩)) tt fun a e e2 => by have := (h.2.2 a.block (.inr ⟨a, e, rfl⟩)).1; have e2 : a.block = N0 + 1 := e2; omega
    · obtain rfl := List.mem_singleton.1 hx
      have tal : Turns (fun _ => False) W2 (W2.alloc o) := (Turns.refl _ W2).alloc o
      refine ⟨?_, ?_, fun q hq => ?_⟩
      · exact bytes_keep (bytes_keep (bytes_keep hk tal fun _ _ x => x) t4 fun a e h => by have h1 := (hkb a e).1; have h2 := (hrowb h).2; omega) tt fun a e e2 => by have := (hkb a e).1; have e2 : a.block = N0 + 1 := e2; omega
      · exact bytes_keep (bytes_keep (bytes_keep hv tal fun _ _ x => x) t4 fun a e h => by have h1 := (hvb a e).1; have h2 := (hrowb h).2; omega) tt fun a e e2 => by have := (hvb a e).1; have e2 : a.block = N0 + 1 := e2; omega
      · rcases hq with ⟨a, e, rfl⟩ | ⟨a, e, rfl⟩
        · have := hkb a e; exact ⟨by omega, by omega⟩
        · have := hvb a e; exact ⟨by omega, by omega⟩
  · intro x hx q hq hr
    rw [hv'] at hr
    obtain ⟨m, d, e2⟩ := hr
    have hqg : q = g' := by cases e2; rfl
    rcases List.mem_append.1 hx with hx | hx
    · rcases hin with h | h
      · exact g5 x hx q hq (hqg ▸ h)
      · have := ((g4 x hx).2.2 q hq).2; omega
    · obtain rfl := List.mem_singleton.1 hx
      have hb : W.heap.size ≤ q ∧ q < W2.heap.size := by
        rcases hq with ⟨a, e, rfl⟩ | ⟨a, e, rfl⟩
        · exact hkb a e
        · exact hvb a e
      rcases hin with h | h
      · have := (hrowb h).2; omega
      · omega
end Go.Proofs.Ytkeglaplckfllaa
