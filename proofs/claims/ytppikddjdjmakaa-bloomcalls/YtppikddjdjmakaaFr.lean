/-
  A filter's bytes in memory; the marks that ranges over functions leave.
-/
import Derived.Test.YtppikddjdjmakaaRg
namespace Go.Proofs.Ytppikddjdjmakaa
open Go.RowKit Go.Shelf
set_option maxRecDepth 100000
/-- Some keys in memory. -/
def Keys (w : World) (v : Value) (ks : List (List (BitVec 8))) : Prop :=
  ∃ (a : Option Addr) (c : Nat), v = .slice a ks.length c ∧ ∀ (i : Nat) (x : List (BitVec 8)), ks[i]? = some x → ∃ b off ka kc, a = some ⟨b, off, none⟩ ∧ w.cell? ⟨b, off + i, none⟩ = some (.slice ka x.length kc) ∧ Bytes w (.slice ka x.length kc) x
theorem Keys.below {w w' : World} {v : Value} {ks : List (List (BitVec 8))} (h : Keys w v ks) (hb : Below w.heap.size w w') : Keys w' v ks := by
  obtain ⟨a, c, hv, hc⟩ := h
  refine ⟨a, c, hv, fun i x hx => ?_⟩
  obtain ⟨b, off, ka, kc, ha, hcell, hB⟩ := hc i x hx
  exact ⟨b, off, ka, kc, ha, (hb.cell (p := ⟨b, off + i, none⟩) (block_lt_of_cell hcell)).trans hcell, hB.below hb⟩
theorem Keys.len {w : World} {a : Option Addr} {n c : Nat} {ks : List (List (BitVec 8))} (h : Keys w (.slice a n c) ks) : n = ks.length := by
  obtain ⟨a', c', hv, _⟩ := h
  cases hv
  rfl
theorem Keys.at {w : World} {a : Option Addr} {n c : Nat} {ks : List (List (BitVec 8))} (h : Keys w (.slice a n c) ks) (i : Nat) (x : List (BitVec 8)) (hx : ks[i]? = some x) : ∃ b off ka kc, a = some ⟨b, off, none⟩ ∧ w.cell? ⟨b, off + i, none⟩ = some (.slice ka x.length kc) ∧ Bytes w (.slice ka x.length kc) x := by
  obtain ⟨a', c', hv, hc⟩ := h
  cases hv
  exact hc i x hx
/-- A row of bytes that is known whole. -/
def FRow (w : World) (g : Nat) (f : List (BitVec 8)) : Prop := w.heap[g]? = some (.cells (cellsOf f).toArray 5 (0, 0))
theorem FRow.cell {w : World} {g : Nat} {f : List (BitVec 8)} (h : FRow w g f) (i : Nat) (hi : i < f.length) : w.cell? ⟨g, i, none⟩ = some (.int .u8 ((f.getD i 0).toNat : Int)) := by
  rw [cell_of_row w g i _ 5 (0, 0) h]
  simp [cellsOf, hi]
theorem FRow.frozen {w : World} {g : Nat} {f : List (BitVec 8)} (h : FRow w g f) (i : Nat) : w.frozen? ⟨g, i, none⟩ = false := frozen_of_row w g i _ 5 h
theorem FRow.set {w : World} {g : Nat} {f : List (BitVec 8)} (h : FRow w g f) (i : Nat) (x : BitVec 8) : FRow (w.setCell ⟨g, i, none⟩ (.int .u8 (x.toNat : Int))) g (f.set i x) := by
  have := heap_setCell_same w g i _ 5 (.int .u8 (x.toNat : Int)) h
  unfold FRow
  rw [this]
  congr 2
  simp [cellsOf, List.map_set]
theorem FRow.row {w : World} {g c : Nat} {f : List (BitVec 8)} (h : FRow w g f) (hc : c ≤ f.length) : RowB w g c f := ⟨_, h, by simpa [cellsOf] using hc, fun k _ => by simp⟩
theorem heap_own {W W' : World} {row : Option Nat} (hg : W.grownBy W' row) (hr : ∀ r, row = some r → ∃ o : Obj, W.heap[r]? = some o ∧ o.isCells = false) {b : Nat} {cs : Array Value} {t : TypeId} {fr : Nat × Nat} (h : W.heap[b]? = some (.cells cs t fr)) : W'.heap[b]? = some (.cells cs t fr) := by
  refine (hg.block b (lt_of_heap h) fun e => ?_).trans h
  obtain ⟨o, h1, h2⟩ := hr b e.symm
  rw [h] at h1
  cases h1
  cases h2
/-- The marks of ranges over functions that have ended. -/
def marks (Ds : List Nat) : List Deferred := Ds.map fun D => { target := .collected D, args := #[] }
def MarksAt (Ds : List Nat) (W : World) : Prop := ∀ D, D ∈ Ds → W.heap[D]? = some (.deferred (some []))
/-- A function with such marks leaves: its results are read in a world in which the marks alone have turned. -/
theorem leaves_marks {n : Nat} {P : Program} {fn : Func} {tmps : Array Value} {R : Ending → World → Prop} (g : Nat) : ∀ (Ds : List Nat) (w : World), Ds.Nodup → (∀ D, D ∈ Ds → g ≤ D) → MarksAt Ds w →
    (∀ w', Below g w w' → (∀ (b : Nat) (cs : Array Value) (t : TypeId) (fr : Nat × Nat), w.heap[b]? = some (.cells cs t fr) → w'.heap[b]? = some (.cells cs t fr)) → ∃ v, (results fn tmps).run P w' = .ok v w' ∧ R (.returned v) w') → LeavesInM Fence.wide n P fn tmps R (marks Ds) .returning w
  | [], w, _, _, _, h => by
    obtain ⟨v, h1, h2⟩ := h w (Below.refl _ _) (fun _ _ _ _ e => e)
    exact ⟨v, h1, h2⟩
  | D :: Ds, w, hn, hg, hm, h => by
    have hD := hm D (List.mem_cons_self ..)
    refine ⟨by simp, .inl ⟨D, _, rfl, run_takeDeferred hD, ?_⟩⟩
    have hlt := lt_of_heap hD
    have hoth : ∀ b, b ≠ D → (w.putObj D (.deferred none)).heap[b]? = w.heap[b]? := fun b hb => World.putObj_heap_other hb
    refine leaves_marks g Ds _ (List.nodup_cons.1 hn).2 (fun D' h' => hg D' (List.mem_cons_of_mem _ h')) (fun D' h' => ?_) (fun w' hb hc => h w' ?_ ?_)
    · rw [hoth D' (fun e => (List.nodup_cons.1 hn).1 (e ▸ h'))]
      exact hm D' (List.mem_cons_of_mem _ h')
    · exact ((Below.refl g w).grown (grownBy_putObj' w D (.deferred none)) (by have := hg D (List.mem_cons_self ..); omega) (fun k e => by cases e; exact hg D (List.mem_cons_self ..))).trans hb
    · intro b cs t fr e
      refine hc b cs t fr ?_
      rw [hoth b (fun x => by rw [x, hD] at e; cases e)]
      exact e
end Go.Proofs.Ytppikddjdjmakaa
