/-
  Heaps, as plain mathematics.
-/
import Derived.Test.YtjnpendihdlgnaaTw
namespace Go.Proofs.Ytjnpendihdlgnaa
namespace Hp
section
variable {α : Type} (lt : α → α → Prop)
def Heap (f : Nat → α) (n : Nat) : Prop := ∀ k, 0 < k → k < n → ¬ lt (f k) (f ((k - 1) / 2))
/-- A heap, but at j and above it. -/
def HeapUp (f : Nat → α) (n j : Nat) : Prop := (∀ k, 0 < k → k < n → k ≠ j → ¬ lt (f k) (f ((k - 1) / 2))) ∧ (∀ k, 0 < k → k < n → (k - 1) / 2 = j → 0 < j → ¬ lt (f k) (f ((j - 1) / 2)))
/-- A heap, but at i and below it. -/
def HeapDown (f : Nat → α) (n i : Nat) : Prop := (∀ k, 0 < k → k < n → (k - 1) / 2 ≠ i → ¬ lt (f k) (f ((k - 1) / 2))) ∧ (∀ k, 0 < k → k < n → (k - 1) / 2 = i → 0 < i → ¬ lt (f k) (f ((i - 1) / 2)))
def swapF (f : Nat → α) (i j : Nat) : Nat → α := fun k => if k = i then f j else if k = j then f i else f k
variable {lt}
theorem swapF_i (f : Nat → α) (i j : Nat) : swapF f i j i = f j := by simp [swapF]
theorem swapF_j (f : Nat → α) (i j : Nat) : swapF f i j j = f i := by
  unfold swapF
  split
  · next e => rw [e]
  · simp
theorem swapF_o (f : Nat → α) {i j k : Nat} (h1 : k ≠ i) (h2 : k ≠ j) : swapF f i j k = f k := by simp [swapF, h1, h2]
variable {f : Nat → α} {n i j : Nat} (asym : ∀ x y, lt x y → ¬ lt y x) (tr : ∀ x y z, ¬ lt y x → ¬ lt z y → ¬ lt z x)
theorem up_done (h : HeapUp lt f n j) (hj : j = 0 ∨ ¬ lt (f j) (f ((j - 1) / 2))) : Heap lt f n := fun k h0 hk => by
  by_cases e : k = j
  · subst e
    rcases hj with hj | hj
    · omega
    · exact hj
  · exact h.1 k h0 hk e
include asym tr in
theorem up_step (h : HeapUp lt f n j) (h0 : 0 < j) (hj : j < n) (hl : lt (f j) (f ((j - 1) / 2))) : HeapUp lt (swapF f ((j - 1) / 2) j) n ((j - 1) / 2) := by
  have hp : (j - 1) / 2 < j := by omega
  refine ⟨fun k k0 kn hk => ?_, fun k k0 kn hk p0 => ?_⟩
  · by_cases e : k = j
    · subst e
      rw [swapF_j, swapF_i]
      exact asym _ _ hl
    · rw [swapF_o f hk e]
      by_cases e1 : (k - 1) / 2 = (j - 1) / 2
      · rw [e1, swapF_i]
        have := h.1 k k0 kn e
        rw [e1] at this
        exact tr _ _ _ (asym _ _ hl) this
      · by_cases e2 : (k - 1) / 2 = j
        · rw [e2, swapF_j]
          exact h.2 k k0 kn e2 h0
        · rw [swapF_o f e1 e2]
          exact h.1 k k0 kn e
  · rw [swapF_o f (k := ((j - 1) / 2 - 1) / 2) (by omega) (by omega)]
    have hpp := h.1 ((j - 1) / 2) p0 (by omega) (by omega)
    by_cases e : k = j
    · subst e
      rw [swapF_j]
      exact hpp
    · rw [swapF_o f (by omega) e]
      have := h.1 k k0 kn e
      rw [hk] at this
      exact tr _ _ _ hpp this
theorem down_done1 (h : HeapDown lt f n i) (hn : n ≤ 2 * i + 1) : Heap lt f n := fun k h0 hk => h.1 k h0 hk (by omega)
include tr in
theorem down_done2 (h : HeapDown lt f n i) (hc : ∀ k, 0 < k → k < n → (k - 1) / 2 = i → ¬ lt (f k) (f j)) (hl : ¬ lt (f j) (f i)) : Heap lt f n := fun k h0 hk => by
  by_cases e : (k - 1) / 2 = i
  · rw [e]
    exact tr _ _ _ hl (hc k h0 hk e)
  · exact h.1 k h0 hk e
include asym in
theorem down_step (h : HeapDown lt f n i) (hj : (j - 1) / 2 = i) (j0 : 0 < j) (hjn : j < n) (hc : ∀ k, 0 < k → k < n → (k - 1) / 2 = i → ¬ lt (f k) (f j)) (hl : lt (f j) (f i)) : HeapDown lt (swapF f i j) n j := by
  refine ⟨fun k k0 kn hk => ?_, fun k k0 kn hk p0 => ?_⟩
  · by_cases e : (k - 1) / 2 = i
    · rw [e, swapF_i]
      by_cases e2 : k = j
      · subst e2
        rw [swapF_j]
        exact asym _ _ hl
      · rw [swapF_o f (by omega) e2]
        exact hc k k0 kn e
    · rw [swapF_o f e hk]
      by_cases e2 : k = i
      · subst e2
        rw [swapF_i]
        exact h.2 j j0 hjn hj k0
      · rw [swapF_o f e2 (by omega)]
        exact h.1 k k0 kn e
  · rw [hj, swapF_i, swapF_o f (by omega) (by omega)]
    have := h.1 k k0 kn (by omega)
    rw [hk] at this
    exact this
include tr in
theorem heap_min (irr : ∀ x, ¬ lt x x) (h : Heap lt f n) : ∀ k, k < n → ¬ lt (f k) (f 0) := fun k => by
  induction k using Nat.strongRecOn with
  | ind k ih =>
    intro hk
    by_cases e : k = 0
    · subst e
      exact irr _
    · exact tr _ _ _ (ih ((k - 1) / 2) (by omega) (by omega)) (h k (by omega) hk)
/-- Another first: below it all is as it was. -/
theorem heap_top {f' : Nat → α} (h : Heap lt f n) (hf : ∀ k, 0 < k → k < n → f' k = f k) : HeapDown lt f' n 0 :=
  ⟨fun k k0 kn hk => by rw [hf k k0 kn, hf _ (by omega) (by omega)]; exact h k k0 kn, fun k _ _ _ h0 => by omega⟩
theorem heap_less {m : Nat} (h : Heap lt f n) (hm : m ≤ n) : Heap lt f m := fun k k0 km => h k k0 (by omega)
/-- One more at the end. -/
theorem heap_end {f' : Nat → α} (h : Heap lt f n) (hf : ∀ k, k < n → f' k = f k) : HeapUp lt f' (n + 1) n :=
  ⟨fun k k0 kn hk => by rw [hf k (by omega), hf _ (by omega)]; exact h k k0 (by omega), fun k k0 kn hk h0 => by omega⟩
end
/-! Lists -/
section
variable {α : Type}
def swapL (L : List α) (i j : Nat) (x y : α) : List α := (L.set i y).set j x
theorem swapL_length (L : List α) (i j : Nat) (x y : α) : (swapL L i j x y).length = L.length := by simp [swapL]
theorem swapL_get (L : List α) (i j k : Nat) (x y : α) (hi : L[i]? = some x) (hj : L[j]? = some y) : (swapL L i j x y)[k]? = if k = i then L[j]? else if k = j then L[i]? else L[k]? := by
  obtain ⟨h1, rfl⟩ := List.getElem?_eq_some_iff.1 hi
  obtain ⟨h2, rfl⟩ := List.getElem?_eq_some_iff.1 hj
  unfold swapL
  rw [List.getElem?_set, List.getElem?_set]
  by_cases e1 : j = k
  · subst e1
    by_cases e2 : j = i
    · subst e2; simp [h1]
    · simp [h2, e2, h1]
  · by_cases e2 : i = k
    · subst e2; simp [e1, h1, h2]
    · simp [e1, e2, Ne.symm e1, Ne.symm e2]
theorem swapL_perm (L : List α) (i j : Nat) (x y : α) (hi : L[i]? = some x) (hj : L[j]? = some y) : (swapL L i j x y).Perm L := by
  obtain ⟨h1, rfl⟩ := List.getElem?_eq_some_iff.1 hi
  obtain ⟨h2, rfl⟩ := List.getElem?_eq_some_iff.1 hj
  exact List.set_set_perm h1 h2
theorem swapL_drop (L : List α) (i j n : Nat) (x y : α) (hi : i < n) (hj : j < n) : (swapL L i j x y).drop n = L.drop n := by
  unfold swapL
  rw [List.drop_set_of_lt hj, List.drop_set_of_lt hi]
end
end Hp
end Go.Proofs.Ytjnpendihdlgnaa
