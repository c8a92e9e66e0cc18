/-
  Entries put into order, one by one.
-/
import Derived.Test.YtolaaodhnhdadaaP2
import Derived.Test.YtolaaodhnhdadaaE2
import Derived.Test.YtolaaodhnhdadaaB9
import Derived.Test.YtolaaodhnhdadaaLv
namespace Go.Proofs.Ytolaaodhnhdadaa
open Go.RowKit
set_option maxRecDepth 100000
theorem weigh_append (a b : List Tow) : weigh (a ++ b) = weigh a + weigh b := by
  induction a with
  | nil => simp [weigh]
  | cons x r ih => rw [List.cons_append, weigh, weigh, ih]; omega
theorem weigh_put (x : Tow) (Q : List Tow) : weigh (putL x Q) = weigh Q + (x.e.key.length + x.e.val.length) := by
  have h := weigh_append (Q.take (pIdx x.e.en Q)) (Q.drop (pIdx x.e.en Q))
  rw [List.take_append_drop] at h
  unfold putL
  rw [weigh_append, weigh, h]
  omega
theorem weigh_take (l : List Tow) (j : Nat) (x : Tow) (h : l[j]? = some x) : weigh (l.take (j + 1)) = weigh (l.take j) + (x.e.key.length + x.e.val.length) := by
  rw [List.take_add_one, h]
  exact weigh_snoc x _
theorem weigh_take_le (l : List Tow) (j : Nat) : weigh (l.take j) ≤ weigh l := by
  have h := weigh_append (l.take j) (l.drop j)
  rw [List.take_append_drop] at h
  omega
theorem wt_weigh : ∀ l : List Tow, wt (ents l) = weigh l
  | [] => rfl
  | x :: r => by
    have := wt_weigh r
    simp only [wt, ents, List.map_cons, List.sum_cons] at this ⊢
    rw [weigh]
    omega
/-- What the loop of the laws has put together. -/
structure Inn (w : World) (l : List Tow) (j : Nat) (Q : List Tow) (v : Value) (wr : World) : Prop where
  row : ERow wr w.heap.size v Q
  mem : ∀ x, x ∈ Q → x ∈ l ∧ chk1 x.e = 0
  ord : inOrd (ents Q) = true
  wei : weigh Q ≤ weigh (l.take j)
  len : Q.length ≤ j
  below : Below w.heap.size w wr
section
variable {w wr w' : World} {l : List Tow} {la : Option Addr} {j : Nat} {Q : List Tow}
theorem bytes_in (hl : Ents w la l) (hb : Below w.heap.size w wr) {x : Tow} (hx : x ∈ l) : Bytes wr x.kv x.e.key ∧ Bytes wr x.vv x.e.val := by
  obtain ⟨k, hk⟩ := List.mem_iff_getElem?.1 hx
  obtain ⟨_, h1, h2⟩ := hl k x hk
  have t := Turns.of_below hb (fun _ => False)
  exact ⟨h1.quiet t, h2.quiet t⟩
theorem ents_row (hl : Ents w la l) (hb : Below w.heap.size w wr) {g c : Nat} (hm : ∀ x, x ∈ Q → x ∈ l) (hrow : RowC wr g 28 (c * 4) (entCells Q)) : Ents wr (some ⟨g, 0, none⟩) Q := by
  intro k x hx
  have hxm : x ∈ Q := List.mem_iff_getElem?.2 ⟨k, hx⟩
  refine ⟨⟨g, 0, rfl, fun i u hu => ?_⟩, bytes_in hl hb (hm x hxm)⟩
  obtain ⟨cs, h1, _, h3⟩ := hrow
  have hk := (List.getElem?_eq_some_iff.1 hx).1
  have hi : i < 4 := (List.getElem?_eq_some_iff.1 hu).1
  rw [Nat.zero_add, cell_of_row wr g _ cs 28 (0, 0) h1, h3 _ (by rw [entCells_length]; omega)]
  have e := entCells_at Q k x hx
  have hc : i = 0 ∨ i = 1 ∨ i = 2 ∨ i = 3 := by omega
  rcases hc with rfl | rfl | rfl | rfl
  · rw [Nat.add_zero, e.1]; exact hu
  · rw [e.2.1]; exact hu
  · rw [e.2.2.1]; exact hu
  · rw [e.2.2.2]; exact hu
theorem Inn.ents {a : Option Addr} {n c : Nat} (h : Inn w l j Q (.slice a n c) wr) (hl : Ents w la l) : Ents wr a Q ∧ n = Q.length ∧ n ≤ c ∧ ((a = none ∧ c = 0) ∨ ∃ b off, a = some ⟨b, off, none⟩ ∧ b < wr.heap.size) := by
  rcases h.row with ⟨rfl, e⟩ | ⟨g, c', n', e, hn, hc, hg, hrow⟩
  · cases e
    exact ⟨fun k x hx => by simp at hx, rfl, Nat.le_refl _, .inl ⟨rfl, rfl⟩⟩
  · cases e
    refine ⟨ents_row hl h.below (fun x hx => (h.mem x hx).1) hrow, hn, hc, .inr ⟨g, 0, rfl, ?_⟩⟩
    obtain ⟨cs, h1, _⟩ := hrow
    exact lt_of_heap h1
theorem Inn.shape {v : Value} (h : Inn w l j Q v wr) : ∃ a c, v = .slice a Q.length c := h.row.len
theorem Inn.skip {v : Value} (h : Inn w l j Q v wr) (hb : Below wr.heap.size wr w') : Inn w l (j + 1) Q v w' := by
  refine ⟨h.row.keep (Turns.of_below hb (fun _ => False)) (fun _ _ x => x), h.mem, h.ord, Nat.le_trans h.wei ?_, by have := h.len; omega, h.below.trans (hb.mono h.below.size)⟩
  have := weigh_append (l.take j) ((l.take (j + 1)).drop j)
  have e : l.take j ++ (l.take (j + 1)).drop j = l.take (j + 1) := by
    have := List.take_append_drop j (l.take (j + 1))
    rwa [List.take_take, Nat.min_eq_left (by omega)] at this
  rw [e] at this
  omega
theorem Inn.go {v : Value} (h : Inn w l j Q v wr) (hb : Below wr.heap.size wr w') : Inn w l j Q v w' :=
  ⟨h.row.keep (Turns.of_below hb (fun _ => False)) (fun _ _ x => x), h.mem, h.ord, h.wei, h.len, h.below.trans (hb.mono h.below.size)⟩
theorem Inn.put {v : Value} {x : Tow} (h : Inn w l j Q v wr) (hx : l[j]? = some x) (hc : chk1 x.e = 0) (ho : inOrd (Go.Proofs.Ytolaaodhnhdadaa.ents (putL x Q)) = true) {g c : Nat} (hg : wr.heap.size ≤ g) (hcp : Q.length + 1 ≤ c) (hrow : RowC w' g 28 (c * 4) (entCells (putL x Q))) (hb : Below wr.heap.size wr w') : Inn w l (j + 1) (putL x Q) (.slice (some ⟨g, 0, none⟩) (Q.length + 1) c) w' := by
  have hs := h.below.size
  refine ⟨.inr ⟨g, c, _, rfl, (putL_length x Q).symm, hcp, by omega, hrow⟩, fun y hy => ?_, ho, ?_, by have := h.len; rw [putL_length]; omega, h.below.trans (hb.mono hs)⟩
  · rcases mem_putL.1 hy with rfl | hy
    · exact ⟨List.mem_of_getElem? hx, hc⟩
    · exact h.mem y hy
  · rw [weigh_put, weigh_take l j x hx]
    have := h.wei
    omega
end
/-- Entries in order: which are ahead of one of them. -/
theorem cmpE_lt_trans {x y z : En} (h1 : cmpE x y < 0) (h2 : cmpE y z < 0) : cmpE x z < 0 := by
  have h := cmpE_trans x y z (by omega) (by omega)
  rcases Int.lt_or_eq_of_le h with h | h
  · exact h
  · exfalso
    obtain ⟨e1, e2⟩ := (cmpE_zero x z).1 h
    have : x = z := Prod.ext e1 e2
    subst this
    have := cmpE_swap x y
    omega
theorem inOrd_far {es : List Ent} (h : inOrd es = true) : ∀ (d i : Nat) (x y : Ent), es[i]? = some x → es[i + d + 1]? = some y → cmpE x.en y.en < 0
  | 0, i, x, y, hx, hy => (inOrd_iff es).1 h i x y hx hy
  | d + 1, i, x, y, hx, hy => by
    obtain ⟨z, hz⟩ : ∃ z, es[i + d + 1]? = some z := by
      have := (List.getElem?_eq_some_iff.1 hy).1
      exact ⟨_, List.getElem?_eq_getElem (by omega)⟩
    exact cmpE_lt_trans (inOrd_far h d i x z hx hz) ((inOrd_iff es).1 h (i + d + 1) z y hz (by rw [show i + d + 1 + 1 = i + (d + 1) + 1 by omega]; exact hy))
theorem inOrd_at {es : List Ent} (h : inOrd es = true) (K : Nat) (x : Ent) (hx : es[K]? = some x) (j : Nat) (e : Ent) (he : es[j]? = some e) : cmpE e.en x.en < 0 ↔ j < K := by
  constructor
  · intro hlt
    rcases Nat.lt_trichotomy j K with h1 | h1 | h1
    · exact h1
    · subst h1
      rw [hx] at he
      cases he
      have := (cmpE_zero x.en x.en).2 ⟨rfl, rfl⟩
      omega
    · have := inOrd_far h (j - K - 1) K x e hx (by rw [show K + (j - K - 1) + 1 = j by omega]; exact he)
      have := cmpE_swap e.en x.en
      omega
  · intro hlt
    exact inOrd_far h (K - j - 1) j e x he (by rw [show j + (K - j - 1) + 1 = K by omega]; exact hx)
end Go.Proofs.Ytolaaodhnhdadaa
