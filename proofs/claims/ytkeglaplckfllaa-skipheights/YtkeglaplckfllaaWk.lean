/-
  How a place is looked for: plain mathematics.
-/
import Derived.Test.YtkeglaplckfllaaTw
namespace Go.Proofs.Ytkeglaplckfllaa
theorem cmpE_lt {x y z : En} (h1 : cmpE x y < 0) (h2 : cmpE y z < 0) : cmpE x z < 0 := by
  have h3 := cmpE_trans x y z (by omega) (by omega)
  rcases Int.lt_or_eq_of_le h3 with h | h
  · exact h
  · have h4 := (cmpE_zero x z).1 h
    have h5 : x = z := Prod.ext h4.1 h4.2
    rw [← h5, cmpE_swap x y] at h2
    omega
/-- How many entries are ahead of one. -/
def place (s : En) : List Tow → Nat
  | [] => 0
  | x :: r => if cmpE x.e.en s < 0 then place s r + 1 else 0
theorem place_le (s : En) : ∀ ts : List Tow, place s ts ≤ ts.length
  | [] => Nat.le_refl _
  | x :: r => by
    unfold place
    have := place_le s r
    split
    · rw [List.length_cons]; omega
    · exact Nat.zero_le _
theorem place_iff (s : En) : ∀ ts : List Tow, ts.Pairwise (fun x y => cmpE x.e.en y.e.en < 0) → ∀ k x, ts[k]? = some x → (k < place s ts ↔ cmpE x.e.en s < 0)
  | [], _, k, x, h => by simp at h
  | y :: r, hs, k, x, h => by
    obtain ⟨h1, h2⟩ := List.pairwise_cons.1 hs
    unfold place
    by_cases hy : cmpE y.e.en s < 0
    · rw [if_pos hy]
      cases k with
      | zero =>
        obtain rfl : y = x := by simpa using h
        exact ⟨fun _ => hy, fun _ => by omega⟩
      | succ k =>
        have := place_iff s r h2 k x (by simpa using h)
        rw [← this]
        omega
    · rw [if_neg hy]
      refine ⟨fun h => by omega, fun hx => ?_⟩
      cases k with
      | zero =>
        obtain rfl : y = x := by simpa using h
        exact absurd hx hy
      | succ k =>
        have hm : x ∈ r := List.mem_of_getElem? (by simpa using h)
        exact absurd (cmpE_lt (h1 x hm) hx) hy
/-- What a level goes by: how far, in how many steps. -/
def pass (l : Nat) : List Nat → Nat × Nat
  | [] => (0, 0)
  | h :: r => if l < h then ((pass l r).1 + 1, (pass l r).2 + 1) else if 0 < (pass l r).2 then ((pass l r).1 + 1, (pass l r).2) else (0, 0)
theorem pass_none (l : Nat) : ∀ L : List Nat, (∀ h, h ∈ L → ¬ l < h) → pass l L = (0, 0)
  | [], _ => rfl
  | h :: r, H => by
    have h1 := pass_none l r (fun x hx => H x (by simp [hx]))
    unfold pass
    rw [if_neg (H h (by simp)), h1]
    rfl
theorem pass_found (l : Nat) (h : Nat) (r : List Nat) (hl : l < h) : ∀ low : List Nat, (∀ x, x ∈ low → ¬ l < x) → pass l (low ++ h :: r) = (low.length + 1 + (pass l r).1, (pass l r).2 + 1)
  | [], _ => by
    show (if l < h then ((pass l r).1 + 1, (pass l r).2 + 1) else if 0 < (pass l r).2 then ((pass l r).1 + 1, (pass l r).2) else (0, 0)) = _
    rw [if_pos hl]
    exact Prod.ext (by show (pass l r).1 + 1 = 0 + 1 + (pass l r).1; omega) rfl
  | y :: low, H => by
    have h1 := pass_found l h r hl low (fun x hx => H x (by simp [hx]))
    show (if l < y then ((pass l (low ++ h :: r)).1 + 1, (pass l (low ++ h :: r)).2 + 1) else if 0 < (pass l (low ++ h :: r)).2 then ((pass l (low ++ h :: r)).1 + 1, (pass l (low ++ h :: r)).2) else (0, 0)) = _
    rw [if_neg (H y (by simp)), h1, if_pos (show 0 < (pass l r).2 + 1 by omega)]
    exact Prod.ext (by show low.length + 1 + (pass l r).1 + 1 = (low.length + 1) + 1 + (pass l r).1; omega) rfl
theorem pass_le (l : Nat) : ∀ L : List Nat, (pass l L).1 ≤ L.length ∧ (pass l L).2 ≤ (pass l L).1
  | [] => ⟨Nat.le_refl _, Nat.le_refl _⟩
  | h :: r => by
    have := pass_le l r
    unfold pass
    rw [List.length_cons]
    split
    · exact ⟨by show _ + 1 ≤ _; omega, by show _ + 1 ≤ _ + 1; omega⟩
    · split
      · exact ⟨by show _ + 1 ≤ _; omega, by show _ ≤ _ + 1; omega⟩
      · exact ⟨Nat.zero_le _, Nat.zero_le _⟩
/-- How many steps it takes from a level down. -/
def walk : Nat → List Nat → Nat
  | 0, _ => 0
  | l + 1, L => (pass l L).2 + 1 + walk l (L.drop (pass l L).1)
theorem walk_le : ∀ (l : Nat) (L : List Nat), walk l L ≤ L.length + l
  | 0, L => Nat.zero_le _
  | l + 1, L => by
    have h1 := pass_le l L
    have h2 := walk_le l (L.drop (pass l L).1)
    rw [List.length_drop] at h2
    show (pass l L).2 + 1 + walk l (L.drop (pass l L).1) ≤ L.length + (l + 1)
    omega
/-- The heights of the towers between a place and the one that is looked for. -/
def seg (ts : List Tow) (n p : Nat) : List Nat := ((ts.take n).drop p).map (·.h)
theorem seg_drop (ts : List Tow) (n p a : Nat) : (seg ts n p).drop a = seg ts n (p + a) := by
  unfold seg
  rw [← List.map_drop, List.drop_drop]
/-- The next tower of a level, and which it is. -/
theorem nxt_cases (l : Nat) (ts : List Tow) (p : Nat) : (nxt l (ts.drop p) = none ∧ ∀ j x, p ≤ j → ts[j]? = some x → ¬ l < x.h) ∨ ∃ j x, p ≤ j ∧ ts[j]? = some x ∧ l < x.h ∧ nxt l (ts.drop p) = some x.b ∧ ∀ i y, p ≤ i → i < j → ts[i]? = some y → ¬ l < y.h := by
  unfold nxt
  cases e : (ts.drop p).find? (fun x => decide (l < x.h)) with
  | none =>
    refine .inl ⟨rfl, fun j x hj hx hl => ?_⟩
    have h1 := List.find?_eq_none.1 e x (List.mem_iff_getElem?.2 ⟨j - p, by rw [List.getElem?_drop, show p + (j - p) = j by omega]; exact hx⟩)
    simp [hl] at h1
  | some x =>
    obtain ⟨h1, us, vs, h2, h3⟩ := List.find?_eq_some_iff_append.1 e
    have hat : ∀ i, ts[p + i]? = (us ++ x :: vs)[i]? := fun i => by rw [← h2, List.getElem?_drop]
    refine .inr ⟨p + us.length, x, by omega, by rw [hat]; simp, by simpa using h1, rfl, fun i y hi hj hy => ?_⟩
    have h4 : (us ++ x :: vs)[i - p]? = some y := by rw [← hat, show p + (i - p) = i by omega]; exact hy
    rw [List.getElem?_append_left (by omega)] at h4
    have := h3 y (List.mem_of_getElem? h4)
    simpa using this
/-- Behind the place that a level goes on to. -/
theorem seg_none {ts : List Tow} {n p l : Nat} (h : ∀ j x, p ≤ j → j < n → ts[j]? = some x → ¬ l < x.h) : pass l (seg ts n p) = (0, 0) := by
  refine pass_none l _ fun y hy => ?_
  obtain ⟨x, hx, rfl⟩ := List.mem_map.1 hy
  obtain ⟨i, hi⟩ := List.mem_iff_getElem?.1 hx
  rw [List.getElem?_drop, List.getElem?_take] at hi
  split at hi
  · exact h _ x (by omega) (by assumption) hi
  · cases hi
theorem seg_found {ts : List Tow} {n p l j : Nat} {x : Tow} (hp : p ≤ j) (hj : j < n) (hx : ts[j]? = some x) (hl : l < x.h) (h : ∀ i y, p ≤ i → i < j → ts[i]? = some y → ¬ l < y.h) : pass l (seg ts n p) = (j - p + 1 + (pass l (seg ts n (j + 1))).1, (pass l (seg ts n (j + 1))).2 + 1) := by
  have hjl : j < ts.length := (List.getElem?_eq_some_iff.1 hx).1
  have hsplit : seg ts n p = ((ts.take j).drop p).map (·.h) ++ x.h :: seg ts n (j + 1) := by
    unfold seg
    have h1 : (ts.take n).drop p = (ts.take j).drop p ++ x :: (ts.take n).drop (j + 1) := by
      refine List.ext_getElem? fun i => ?_
      rw [List.getElem?_drop, List.getElem?_take]
      rcases Nat.lt_trichotomy (p + i) j with h1 | h1 | h1
      · rw [List.getElem?_append_left (by simp; omega), List.getElem?_drop, List.getElem?_take, if_pos h1, if_pos (by omega)]
      · rw [List.getElem?_append_right (by simp; omega), if_pos (by omega), h1, hx]
        have : i - ((ts.take j).drop p).length = 0 := by simp; omega
        rw [this]; rfl
      · rw [List.getElem?_append_right (by simp; omega)]
        obtain ⟨m, hm⟩ : ∃ m, i - ((ts.take j).drop p).length = m + 1 := ⟨i - ((ts.take j).drop p).length - 1, by simp; omega⟩
        rw [hm, List.getElem?_cons_succ, List.getElem?_drop, List.getElem?_take]
        have : j + 1 + m = p + i := by simp at hm; omega
        rw [this]
    rw [h1, List.map_append, List.map_cons]
  rw [hsplit, pass_found l x.h _ hl _ (fun y hy => ?_)]
  · simp
    omega
  · obtain ⟨z, hz, rfl⟩ := List.mem_map.1 hy
    obtain ⟨i, hi⟩ := List.mem_iff_getElem?.1 hz
    rw [List.getElem?_drop, List.getElem?_take] at hi
    split at hi
    · exact h _ z (by omega) (by assumption) hi
    · cases hi
end Go.Proofs.Ytkeglaplckfllaa
