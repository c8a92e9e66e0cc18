/-
  What a loop over an iterator has taken so far, in memory of its own.
-/
import Derived.Test.YtjnpendihdlgnaaRg
import Derived.Test.YtjnpendihdlgnaaCl2
namespace Go.Proofs.Ytjnpendihdlgnaa
open Go.RowKit Go.Shelf
set_option maxRecDepth 100000
def IsT (T : TypeId → Prop) (W : World) (k : Nat) : Prop := ∃ cs t fr, T t ∧ W.heap[k]? = some (.cells cs t fr)
/-- What whoever ranges over an iterator whose cells are of those types may turn. -/
def KpT (T : TypeId → Prop) (B : Nat) (W W' : World) : Prop := Turns (fun k => B ≤ k ∧ ¬ IsT T W k) W W'
theorem KpT.trans {T : TypeId → Prop} {B : Nat} {X Y Z : World} (h : KpT T B X Y) (k : KpT T B Y Z) : KpT T B X Z := by
  refine ⟨k.os.trans h.os, k.tape.trans h.tape, k.output.trans h.output, Nat.le_trans h.size k.size, fun i hi hn => ?_⟩
  have h1 := h.block i hi hn
  refine (k.block i (Nat.lt_of_lt_of_le hi h.size) fun x => hn ⟨x.1, fun y => x.2 ?_⟩).trans h1
  obtain ⟨cs, t, fr, ht, e⟩ := y
  exact ⟨cs, t, fr, ht, h1.trans e⟩
theorem KpT.put {T : TypeId → Prop} {B : Nat} (W : World) (l : Nat) (o o' : Obj) (hB : B ≤ l) (hl : W.heap[l]? = some o) (ho : o.isCells = false) : KpT T B W (W.putObj l o') :=
  (turns_put o' hl).mono fun k _ e => by
    subst e
    exact ⟨hB, fun ⟨cs, t, fr, _, x⟩ => by rw [hl] at x; cases x; cases ho⟩
theorem KpT.quiet {T : TypeId → Prop} {B : Nat} {W W' : World} (h : Turns (fun _ => False) W W') : KpT T B W W' := h.mono fun _ _ x => x.elim
theorem KpT.one {T : TypeId → Prop} {B b t : Nat} {cs : Array Value} {fr : Nat × Nat} {W W' : World} (h : Turns (fun k => k = b) W W') (hb : B ≤ b) (hc : W.heap[b]? = some (.cells cs t fr)) (ht : ¬ T t) : KpT T B W W' := h.mono fun k _ e => by
  subst e
  exact ⟨hb, fun ⟨cs', t', fr', h1, h2⟩ => by rw [hc] at h2; cases h2; exact ht h1⟩
theorem loose_cells {T : TypeId → Prop} {B : Nat} {A A' : World} (tt : Turns (Loose T B A) A A') {k t : Nat} {cs : Array Value} {fr : Nat × Nat} (hk : A.heap[k]? = some (.cells cs t fr)) (ht : ¬ T t) : A'.heap[k]? = some (.cells cs t fr) :=
  tt.heap hk fun ⟨_, o, h1, h2⟩ => by
    rw [hk] at h1
    cases h1
    rcases h2 with h2 | ⟨cs', t', fr', h3, h4⟩
    · cases h2
    · cases h4; exact ht h3
theorem loose_low {T : TypeId → Prop} {B : Nat} {A A' : World} (tt : Turns (Loose T B A) A A') {N : Nat} (hN : N ≤ B) : Turns (fun k => N ≤ k) A A' := tt.mono fun _ _ h => Nat.le_trans hN h.1
/-- Entries that were copied: their bytes lie in blocks of bytes. -/
def Typ5 (W : World) (R : List Tow) : Prop := ∀ x, x ∈ R → ∀ q, x.bytesIn q → ∃ cs, W.heap[q]? = some (.cells cs 5 (0, 0))
theorem Typ5.keep {S : Nat → Prop} {W W' : World} {R : List Tow} (h : Typ5 W R) (t : Turns S W W') (hn : ∀ k cs, W.heap[k]? = some (.cells cs 5 (0, 0)) → ¬ S k) : Typ5 W' R := fun x hx q hq => by
  obtain ⟨cs, e⟩ := h x hx q hq
  exact ⟨cs, t.heap e (hn q cs e)⟩
theorem ERow.typed {w : World} {B : Nat} {v : Value} {R : List Tow} (h : ERow w B v R) {k : Nat} (hk : inRow v k) : ∃ cs, w.heap[k]? = some (.cells cs 25 (0, 0)) := by
  obtain ⟨m, d, e⟩ := hk
  rcases h with ⟨_, rfl⟩ | ⟨g, c, q, rfl, _, _, _, cs, h1, _⟩
  · cases e
  · cases e; exact ⟨cs, h1⟩
theorem Shown.keep5 {S : Nat → Prop} {W W' : World} {B : Nat} {R : List Tow} (h : Shown W B R) (h5 : Typ5 W R) (t : Turns S W W') (hn : ∀ k cs, W.heap[k]? = some (.cells cs 5 (0, 0)) → ¬ S k) : Shown W' B R := h.keep t fun x hx q hq => by
  obtain ⟨cs, e⟩ := h5 x hx q hq
  exact hn q cs e
/-- What has come so far: the row behind the variable N0 + 1, the number in N0. -/
def Got (N0 : Nat) (n : Int) (w : World) (R : List Tow) (W : World) : Prop :=
  ∃ v, (W.heap[N0 + 1]? = some (.cells #[v] 27 (0, 0)) ∧ W.heap[N0]? = some (.cells #[.int .i64 n] 3 (0, 0)) ∧ ERow W (N0 + 2) v R ∧ Shown W (N0 + 2) R ∧ Typ5 W R) ∧ Below N0 w W
structure Far (T : TypeId → Prop) : Prop where
  h3 : ¬ T 3
  h5 : ¬ T 5
  h25 : ¬ T 25
  h27 : ¬ T 27
theorem Got.own {T : TypeId → Prop} {N0 B : Nat} {n : Int} {w : World} {R : List Tow} (hT : Far T) (h1 : N0 ≤ w.heap.size) (hB : N0 ≤ B) {A A' : World} (h : Got N0 n w R A) (tt : Turns (Loose T B A) A A') : Got N0 n w R A' := by
  obtain ⟨v, ⟨a1, a2, a3, a4, a5⟩, a6⟩ := h
  have hn : ∀ k cs, A.heap[k]? = some (.cells cs 5 (0, 0)) → ¬ Loose T B A k := fun k cs e ⟨_, o, e1, e2⟩ => by
    rw [e] at e1
    cases e1
    rcases e2 with e2 | ⟨cs', t', fr', h3, h4⟩
    · cases e2
    · cases h4; exact hT.h5 h3
  refine ⟨v, ⟨loose_cells tt a1 hT.h27, loose_cells tt a2 hT.h3, a3.keep tt fun k hk ⟨_, o, e1, e2⟩ => ?_, a4.keep5 a5 tt hn, a5.keep tt hn⟩, ?_⟩
  · obtain ⟨cs, e⟩ := a3.typed hk
    rw [e] at e1
    cases e1
    rcases e2 with e2 | ⟨cs', t', fr', h3, h4⟩
    · cases e2
    · cases h4; exact hT.h25 h3
  · exact a6.trans ((loose_low tt hB).below (Nat.le_trans h1 a6.size) (fun _ h => h))
theorem body_end {T : TypeId → Prop} {N0 B0 : Nat} {n : Int} {w W W2 W4 : World} {R : List Tow} {v : Value} {y : Tow} {ka' va' : Option Addr} {kc' vc' g' n' c' : Nat} (hT : Far T) (hB0 : B0 ≤ N0) (g1 : W.heap[N0 + 1]? = some (.cells #[v] 27 (0, 0))) (g2 : W.heap[N0]? = some (.cells #[.int .i64 n] 3 (0, 0))) (g3 : ERow W (N0 + 2) v R) (g4 : Shown W (N0 + 2) R) (g5 : Typ5 W R) (g6 : Below N0 w W)
    (t6 : Turns (fun _ => False) W W2) (hk : Bytes W2 (.slice ka' y.e.key.length kc') y.e.key) (hv : Bytes W2 (.slice va' y.e.val.length vc') y.e.val) (hkb : ∀ x, ka' = some x → (W.heap.size ≤ x.block ∧ x.block < W2.heap.size) ∧ ∃ cs, W2.heap[x.block]? = some (.cells cs 5 (0, 0))) (hvb : ∀ x, va' = some x → (W.heap.size ≤ x.block ∧ x.block < W2.heap.size) ∧ ∃ cs, W2.heap[x.block]? = some (.cells cs 5 (0, 0)))
    (hrow : ERow W4 (N0 + 2) (.slice (some ⟨g', 0, none⟩) n' c') (R ++ [⟨ka', kc', va', vc', y.e⟩])) (t4 : Turns (inRow v) W2 W4) :
    W4.cell? ⟨N0 + 1, 0, none⟩ = some v ∧ W4.frozen? ⟨N0 + 1, 0, none⟩ = false ∧ (∀ B, KeepsFrom B W (W4.setCell ⟨N0 + 1, 0, none⟩ (.slice (some ⟨g', 0, none⟩) n' c'))) ∧ KpT T B0 W (W4.setCell ⟨N0 + 1, 0, none⟩ (.slice (some ⟨g', 0, none⟩) n' c')) ∧ Got N0 n w (R ++ [⟨ka', kc', va', vc', y.e⟩]) (W4.setCell ⟨N0 + 1, 0, none⟩ (.slice (some ⟨g', 0, none⟩) n' c')) := by
  have hrowb : ∀ {k}, inRow v k → N0 + 2 ≤ k ∧ k < W.heap.size := fun hk => g3.row hk
  have hrow25 : ∀ {k}, inRow v k → ∃ cs, W2.heap[k]? = some (.cells cs 25 (0, 0)) := fun hk => by
    obtain ⟨cs, e⟩ := g3.typed hk
    exact ⟨cs, t6.heap e (fun x => x)⟩
  have h62 := t6.size
  have h41 : W4.heap[N0 + 1]? = some (.cells #[v] 27 (0, 0)) := t4.heap (t6.heap g1 (fun x => x)) (fun h => by have := (hrowb h).1; omega)
  have h42 : W4.heap[N0]? = some (.cells #[.int .i64 n] 3 (0, 0)) := t4.heap (t6.heap g2 (fun x => x)) (fun h => by have := (hrowb h).1; omega)
  have tk := (Tick.refl h41).set 0 (.slice (some ⟨g', 0, none⟩) n' c')
  have tt := Turns.of_tick tk
  have n5 : ∀ k cs, W2.heap[k]? = some (.cells cs 5 (0, 0)) → ¬ inRow v k := fun k cs e h => by
    obtain ⟨cs', e'⟩ := hrow25 h
    rw [e] at e'
    cases e'
  have n5' : ∀ k cs, W4.heap[k]? = some (.cells cs 5 (0, 0)) → ¬ k = N0 + 1 := fun k cs e h => by
    rw [h, h41] at e
    cases e
  have hsz : W.heap.size ≤ W4.heap.size := Nat.le_trans t6.size t4.size
  have hR : Shown W4 (N0 + 2) R := (g4.keep5 g5 t6 fun _ _ _ x => x).keep5 (g5.keep t6 fun _ _ _ x => x) t4 n5
  have hR5 : Typ5 W4 R := (g5.keep t6 fun _ _ _ x => x).keep t4 n5
  have hx5 : Typ5 W2 [⟨ka', kc', va', vc', y.e⟩] := fun x hx q hq => by
    obtain rfl := List.mem_singleton.1 hx
    rcases hq with ⟨a, e, rfl⟩ | ⟨a, e, rfl⟩
    · exact (hkb a e).2
    · exact (hvb a e).2
  have hN : N0 + 1 < W.heap.size := lt_of_heap g1
  have hxs : Shown W2 (N0 + 2) [⟨ka', kc', va', vc', y.e⟩] := fun x hx => by
    obtain rfl := List.mem_singleton.1 hx
    refine ⟨hk, hv, fun q hq => ?_⟩
    rcases hq with ⟨a, e, rfl⟩ | ⟨a, e, rfl⟩
    · have := (hkb a e).1; omega
    · have := (hvb a e).1; omega
  have hX : Shown W4 (N0 + 2) [⟨ka', kc', va', vc', y.e⟩] := hxs.keep5 hx5 t4 n5
  have hX5 : Typ5 W4 [⟨ka', kc', va', vc', y.e⟩] := hx5.keep t4 n5
  have hRX : Shown W4 (N0 + 2) (R ++ [⟨ka', kc', va', vc', y.e⟩]) := fun x hx => (List.mem_append.1 hx).elim (hR x) (hX x)
  have hRX5 : Typ5 W4 (R ++ [⟨ka', kc', va', vc', y.e⟩]) := fun x hx => (List.mem_append.1 hx).elim (hR5 x) (hX5 x)
  have hKp : KpT T B0 W (W4.setCell ⟨N0 + 1, 0, none⟩ (.slice (some ⟨g', 0, none⟩) n' c')) := by
    refine ((KpT.quiet t6).trans (?_ : KpT T B0 W2 W4)).trans (KpT.one tt (by omega) h41 hT.h27)
    exact t4.mono fun k _ hk => ⟨by have := (hrowb hk).1; omega, fun ⟨cs', t', fr', e1, e2⟩ => by
      obtain ⟨cs, e⟩ := hrow25 hk
      rw [e] at e2
      cases e2
      exact hT.h25 e1⟩
  have hall : Turns (fun k => N0 ≤ k) W (W4.setCell ⟨N0 + 1, 0, none⟩ (.slice (some ⟨g', 0, none⟩) n' c')) := ((t6.mono fun _ _ x => x.elim).trans (t4.mono fun k _ h => by have := (hrowb h).1; show N0 ≤ k; omega)).trans (tt.mono fun k _ h => by show N0 ≤ k; omega)
  refine ⟨cell_of_row W4 _ 0 _ 27 (0, 0) h41, frozen_of_row W4 _ 0 _ 27 h41, fun B => ⟨hall.size, fun k ob _ hk ho => ?_⟩, hKp, _, ⟨tk.1, tt.heap h42 (by show ¬ N0 = N0 + 1; omega), hrow.keep tt fun k hk e => ?_, hRX.keep5 hRX5 tt n5', hRX5.keep tt n5'⟩, g6.trans (hall.below (by omega) (fun _ h => h))⟩
  · refine tt.heap (t4.heap (t6.heap hk (fun x => x)) fun h => ?_) fun h => ?_
    · obtain ⟨cs, h1⟩ := g3.typed h
      rw [hk] at h1
      cases h1
      cases ho
    · have : k = N0 + 1 := h
      rw [this, g1] at hk
      cases hk
      cases ho
  · obtain ⟨cs, e1⟩ := hrow.typed hk
    have e : k = N0 + 1 := e
    rw [e, h41] at e1
    cases e1
end Go.Proofs.Ytjnpendihdlgnaa
