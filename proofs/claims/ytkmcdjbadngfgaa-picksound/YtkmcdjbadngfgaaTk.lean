/-
  One block turned.
-/
import Derived.Test.YtkmcdjbadngfgaaKb
namespace Go.Proofs.Ytkmcdjbadngfgaa
open Go.RowKit
def Tick (w w' : World) (f : Nat) (t : TypeId) (cs : Array Value) : Prop :=
  w'.heap[f]? = some (.cells cs t (0, 0)) ∧ w'.heap.size = w.heap.size ∧ (∀ b, b ≠ f → w'.heap[b]? = w.heap[b]?) ∧ ∀ B, B ≤ f → Below B w w'
theorem Tick.refl {w : World} {f : Nat} {t : TypeId} {cs : Array Value} (h : w.heap[f]? = some (.cells cs t (0, 0))) : Tick w w f t cs := ⟨h, rfl, fun _ _ => rfl, fun _ _ => Below.refl _ _⟩
theorem Tick.set {w w' : World} {f : Nat} {t : TypeId} {cs : Array Value} (h : Tick w w' f t cs) (o : Nat) (v : Value) : Tick w (w'.setCell ⟨f, o, none⟩ v) f t (cs.setIfInBounds o v) := by
  obtain ⟨h1, h2, h3, h4⟩ := h
  exact ⟨heap_setCell_same w' f o cs t v h1, by rw [← h2]; simp, fun b hb => (heap_setCell_other _ _ _ _ (by exact hb)).trans (h3 b hb), fun B hB => (h4 B hB).setCell (by exact hB) v⟩
theorem Tick.cell {w w' : World} {f : Nat} {t : TypeId} {cs : Array Value} (h : Tick w w' f t cs) (o : Nat) : w'.cell? ⟨f, o, none⟩ = cs[o]? := cell_of_row w' f o cs t (0, 0) h.1
theorem Tick.frozen {w w' : World} {f : Nat} {t : TypeId} {cs : Array Value} (h : Tick w w' f t cs) (o : Nat) : w'.frozen? ⟨f, o, none⟩ = false := frozen_of_row w' f o cs t h.1
theorem Turns.of_tick {w w' : World} {f : Nat} {t : TypeId} {cs : Array Value} (h : Tick w w' f t cs) : Turns (fun k => k = f) w w' := by
  obtain ⟨h1, h2, h3, h4⟩ := h
  have hb := h4 0 (Nat.zero_le _)
  exact ⟨hb.os, hb.tape, hb.output, by omega, fun k _ hk => h3 k hk⟩
theorem Bytes.quiet {w w' : World} {v : Value} {bs : List (BitVec 8)} (h : Bytes w v bs) (t : Turns (fun _ => False) w w') : Bytes w' v bs := h.turns t fun _ _ _ _ x => x
end Go.Proofs.Ytkmcdjbadngfgaa
