/-
  Lists of one's own: what is put into them.
-/
import Derived.Test.YtmmcikbedegigaaVl
namespace Go.Proofs.Ytmmcikbedegigaa
open Go.RowKit
set_option maxRecDepth 100000
set_option maxHeartbeats 4000000
theorem flCells_mid (ys : List Tf) (y : Tf) (r : List Tf) (k : Nat) : (flCells (ys ++ y :: r))[k]? = if ys.length * 6 ≤ k ∧ k < ys.length * 6 + 6 then y.cells[k - ys.length * 6]? else if k < ys.length * 6 then (flCells ys)[k]? else (flCells r)[k - (ys.length * 6 + 6)]? := by
  have hl := flCells_length ys
  have h6 := y.cells_length
  rw [flCells_append, show flCells (y :: r) = y.cells ++ flCells r from rfl]
  by_cases h1 : k < ys.length * 6
  · rw [if_neg (by omega), if_pos h1, List.getElem?_append_left (by omega)]
  · rw [List.getElem?_append_right (by omega), hl]
    by_cases h2 : k < ys.length * 6 + 6
    · rw [if_pos ⟨by omega, h2⟩, List.getElem?_append_left (by omega)]
    · rw [if_neg (by omega), if_neg h1, List.getElem?_append_right (by omega), h6]
      congr 1
/-- One file of a row is laid anew. -/
theorem row_put {w : World} {g c j : Nat} {ys r : List Tf} {x y : Tf} (h : RowC w g 37 (c * 6) (flCells (ys ++ x :: r))) (hj : ys.length = j) : RowC (w.setCells g (j * 6) y.cells) g 37 (c * 6) (flCells (ys ++ y :: r)) := by
  obtain ⟨cs, h1, h2, h3⟩ := h
  obtain ⟨cs', k1, k2, k3⟩ := heap_setCells g 37 y.cells (j * 6) w cs h1
  refine ⟨cs', k1, by omega, fun k hk => ?_⟩
  rw [flCells_length] at hk
  have hk2 : k < cs.size := by
    rcases Nat.lt_or_ge k cs.size with h | h
    · exact h
    · have h4 := h3 k (by rw [flCells_length]; simpa using hk)
      rw [Array.getElem?_eq_none h] at h4
      have := List.getElem?_eq_none_iff.1 h4.symm
      rw [flCells_length] at this
      simp at this hk
      omega
  rw [k3 k hk2, flCells_mid, Tf.cells_length, hj]
  split
  · rfl
  · rename_i hn
    rw [h3 k (by rw [flCells_length]; simpa using hk), flCells_mid, hj, if_neg hn]
theorem turns_setCells (g o : Nat) (vs : List Value) (w : World) : Turns (fun k => k = g) w (w.setCells g o vs) := by
  have hb := below_cells (Nat.zero_le g) vs o (Below.refl 0 w)
  exact ⟨hb.os, hb.tape, hb.output, hb.size, fun k _ hk => heap_setCells_ne g vs o w k hk⟩
theorem cells6 (w : World) (g o : Nat) (y : Tf) : w.setCells g o y.cells = (((((w.setCell ⟨g, o, none⟩ (.int .u64 (y.f.no : Nat))).setCell ⟨g, o + 1, none⟩ (.int .i64 y.f.size)).setCell ⟨g, o + 2, none⟩ (.slice y.la y.f.least.length y.lc)).setCell ⟨g, o + 3, none⟩ (.slice y.ma y.f.most.length y.mc)).setCell ⟨g, o + 4, none⟩ (.int .i64 y.f.ents)).setCell ⟨g, o + 5, none⟩ (.int .u64 (y.f.seq : Nat)) := rfl
/-- A block of files turns, which is no list's. -/
theorem DR.other {w w' : World} {B G N g : Nat} {L : List Lv} (h : DR w B G N L) (t : Turns (fun k => k = g) w w') {cs : Array Value} {z : Nat × Nat} (hg : w.heap[g]? = some (.cells cs 37 z)) (hn : ∀ (k : Nat) (x : Lv), L[k]? = some x → x.a ≠ some ⟨g, 0, none⟩) : DR w' B G N L := by
  refine ⟨?_, h.hG, fun k x hx => (h.rows k x hx).keep t fun g' e e2 => hn k x hx (by rw [e, e2]), h.apart, fun x hx y hy => (h.files x hx y hy).keep t fun k e _ cs' z' e2 => ?_⟩
  · obtain ⟨cs', h1, h2⟩ := h.head
    exact ⟨cs', t.heap h1 (fun e => by subst e; rw [h1] at hg; cases hg), h2⟩
  · subst e
    rw [hg] at e2
    cases e2
/-- A place behind the lists is laid. -/
theorem DR.put {w : World} {B G N k : Nat} {L : List Lv} (h : DR w B G N L) (hk : L.length ≤ k) (hN : k < N) (v : Value) : DR (w.setCell ⟨G, k, none⟩ v) B G N L ∧ (w.setCell ⟨G, k, none⟩ v).cell? ⟨G, k, none⟩ = some v := by
  obtain ⟨cs, h1, h2, h3⟩ := h.head
  have tk := (Tick.refl h1).set k v
  have t := Turns.of_tick tk
  refine ⟨⟨⟨_, tk.1, by simpa using h2, fun j x hx => ?_⟩, h.hG, fun j x hx => (h.rows j x hx).keep t fun g' e e2 => ?_, h.apart, fun x hx y hy => (h.files x hx y hy).keep t fun j e _ cs' z' e2 => ?_⟩, ?_⟩
  · have := (List.getElem?_eq_some_iff.1 hx).1
    rw [Array.getElem?_setIfInBounds_ne (by omega)]
    exact h3 j x hx
  · subst e2
    rcases h.rows j x hx with ⟨e3, _⟩ | ⟨g2, e3, _, _, cs2, h4, _⟩
    · rw [e3] at e; cases e
    · rw [e3] at e; cases e; rw [h1] at h4; cases h4
  · subst e; rw [h1] at e2; cases e2
  · rw [tk.cell k, Array.getElem?_setIfInBounds_self_of_lt (by omega)]
theorem DR.snoc {w : World} {B G N k : Nat} {L : List Lv} (h : DR w B G N L) (hk : L.length = k) (x : Lv) (hc : w.cell? ⟨G, k, none⟩ = some (.slice x.a x.l.length x.c)) (hr : RowOk w B x.a x.c x.l) (ha : ∀ g, x.a = some ⟨g, 0, none⟩ → ∀ (k : Nat) (y : Lv), L[k]? = some y → y.a ≠ some ⟨g, 0, none⟩) (hf : ∀ y ∈ x.l, FT w B y) : DR w B G N (L ++ [x]) := by
  have hat : ∀ (j : Nat) (y : Lv), (L ++ [x])[j]? = some y → (j < k ∧ L[j]? = some y) ∨ (j = k ∧ y = x) := fun j y hy => by
    rcases Nat.lt_or_ge j k with h1 | h1
    · rw [List.getElem?_append_left (by omega)] at hy; exact .inl ⟨h1, hy⟩
    · rw [List.getElem?_append_right (by omega), hk] at hy
      have : j - k = 0 := by
        rcases Nat.eq_zero_or_pos (j - k) with e | e
        · exact e
        · rw [List.getElem?_eq_none (by simp; omega)] at hy; cases hy
      rw [this] at hy
      exact .inr ⟨by omega, by simpa using hy.symm⟩
  obtain ⟨cs, h1, h2, h3⟩ := h.head
  refine ⟨⟨cs, h1, h2, fun j y hy => ?_⟩, h.hG, fun j y hy => ?_, fun i j y z hij hy hz g e => ?_, fun y hy z hz => ?_⟩
  · rcases hat j y hy with ⟨_, hy⟩ | ⟨rfl, rfl⟩
    · exact h3 j y hy
    · rw [cell_of_row w G _ cs 50 (0, 0) h1] at hc; exact hc
  · rcases hat j y hy with ⟨_, hy⟩ | ⟨rfl, rfl⟩
    · exact h.rows j y hy
    · exact hr
  · rcases hat i y hy with ⟨_, hy1⟩ | ⟨h5, rfl⟩
    · rcases hat j z hz with ⟨_, hz1⟩ | ⟨h6, rfl⟩
      · exact h.apart i j y z hij hy1 hz1 g e
      · intro e2; exact ha g e2 i y hy1 e
    · rcases hat j z hz with ⟨_, hz1⟩ | ⟨h6, rfl⟩
      · exact ha g e j z hz1
      · omega
  · rcases List.mem_append.1 hy with hy | hy
    · exact h.files y hy z hz
    · obtain rfl : y = x := by simpa using hy
      exact hf z hz
theorem DR.lt {w : World} {B G N : Nat} {L : List Lv} (h : DR w B G N L) {k : Nat} {x : Lv} (hx : L[k]? = some x) {g : Nat} (e : x.a = some ⟨g, 0, none⟩) : g < w.heap.size := by
  rcases h.rows k x hx with ⟨e3, _⟩ | ⟨g2, e3, _, _, cs2, h4, _⟩
  · rw [e3] at e; cases e
  · rw [e3] at e; cases e; exact lt_of_heap h4
/-- A block of another kind turns. -/
theorem DR.alien {w w' : World} {B G N p : Nat} {L : List Lv} (h : DR w B G N L) (t : Turns (fun k => k = p) w w') {cs : Array Value} {ty : TypeId} {z : Nat × Nat} (hp : w.heap[p]? = some (.cells cs ty z)) (h1 : ty ≠ 50) (h2 : ty ≠ 37) (h3 : ty ≠ 5) : DR w' B G N L := by
  refine ⟨?_, h.hG, fun k x hx => (h.rows k x hx).keep t fun g e e2 => ?_, h.apart, fun x hx y hy => (h.files x hx y hy).keep t fun k e _ cs' z' e2 => ?_⟩
  · obtain ⟨cs', e1, e2⟩ := h.head
    exact ⟨cs', t.heap e1 (fun e => by subst e; rw [e1] at hp; cases hp; exact h1 rfl), e2⟩
  · subst e2
    rcases h.rows k x hx with ⟨e3, _⟩ | ⟨g2, e3, _, _, cs2, h4, _⟩
    · rw [e3] at e; cases e
    · rw [e3] at e; cases e; rw [hp] at h4; cases h4; exact h2 rfl
  · subst e; rw [hp] at e2; cases e2; exact h3 rfl
/-- A row turns that is none of theirs. -/
theorem DR.turned {w w' : World} {B Bx G N c : Nat} {L : List Lv} {a : Option Addr} {R : List Tf} (h : DR w B G N L) (t : Turns (fun j => a = some ⟨j, 0, none⟩) w w') (hr : RowOk w Bx a c R) (hn : ∀ g, a = some ⟨g, 0, none⟩ → ∀ (k : Nat) (x : Lv), L[k]? = some x → x.a ≠ some ⟨g, 0, none⟩) : DR w' B G N L := by
  rcases hr with ⟨rfl, _⟩ | ⟨g, rfl, _, _, cs, h4, _⟩
  · exact h.quiet (t.mono fun _ _ e => by cases e)
  · exact h.other (t.mono fun _ _ e => by cases e; rfl) h4 (hn g rfl)
theorem RowOk.mono {w : World} {B B' : Nat} {a : Option Addr} {c : Nat} {R : List Tf} (h : RowOk w B a c R) (hB : B' ≤ B) : RowOk w B' a c R := by
  rcases h with h | ⟨g, h1, h2, h3⟩
  · exact .inl h
  · exact .inr ⟨g, h1, Nat.le_trans hB h2, h3⟩
theorem RowOk.ne {w : World} {B : Nat} {a : Option Addr} {c : Nat} {R : List Tf} (h : RowOk w B a c R) {p : Nat} {cs : Array Value} {ty : TypeId} {z : Nat × Nat} (hp : w.heap[p]? = some (.cells cs ty z)) (h2 : ty ≠ 37) (g : Nat) (e : a = some ⟨g, 0, none⟩) : ¬ g = p := by
  intro e2
  subst e2
  rcases h with ⟨e3, _⟩ | ⟨g2, e3, _, _, cs2, h4, _⟩
  · rw [e3] at e; cases e
  · rw [e3] at e; cases e; rw [hp] at h4; cases h4; exact h2 rfl
/-- Their files. -/
def flL (L : List Lv) : List (List Fl) := L.map fun x => fls x.l
end Go.Proofs.Ytmmcikbedegigaa
