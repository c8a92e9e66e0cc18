/-
  The heads of a merge, behind a pointer.
-/
import Derived.Test.YtjnpendihdlgnaaLs
import Derived.Test.YtjnpendihdlgnaaSw
namespace Go.Proofs.Ytjnpendihdlgnaa
open Go.RowKit
set_option maxRecDepth 100000
set_option maxHeartbeats 4000000
/-- A block that bytes of an entry lie in. -/
def Tow.lies (t : Tow) (q : Nat) : Prop := (∃ a : Addr, t.ka = some a ∧ a.block = q ∧ t.e.key ≠ []) ∨ ∃ a : Addr, t.va = some a ∧ a.block = q ∧ t.e.val ≠ []
/-- A block that a head's entries lie in. -/
def Hd.uses (h : Hd) (q : Nat) : Prop := h.b = q ∨ ∃ t, t ∈ h.R ∧ t.lies q
theorem bytes_keep' {S : Nat → Prop} {w w' : World} {a : Option Addr} {n c : Nat} {bs : List (BitVec 8)} (h : Bytes w (.slice a n c) bs) (tt : Turns S w w') (hS : ∀ x : Addr, a = some x → bs ≠ [] → ¬ S x.block) : Bytes w' (.slice a n c) bs := by
  have hl := h.len
  by_cases e : bs = []
  · subst e
    subst hl
    exact Bytes.nothing a c
  · exact bytes_keep h tt fun x hx => hS x hx e
theorem HdOk.keep {S : Nat → Prop} {w w' : World} {h : Hd} (k : HdOk w h) (t : Turns S w w') (hn : ∀ q, h.uses q → ¬ S q) : HdOk w' h := by
  refine ⟨k.ne, fun i x hx => ?_, k.cap, k.size, k.no⟩
  obtain ⟨⟨b, off, e1, hc⟩, h1, h2⟩ := k.ents i x hx
  have hm := List.mem_of_getElem? hx
  refine ⟨⟨b, off, e1, fun j u hu => t.cell (hc j u hu) ?_⟩, bytes_keep' h1 t fun a e hb => hn _ (.inr ⟨x, hm, .inl ⟨a, e, rfl, hb⟩⟩), bytes_keep' h2 t fun a e hb => hn _ (.inr ⟨x, hm, .inr ⟨a, e, rfl, hb⟩⟩)⟩
  cases e1
  exact hn _ (.inl rfl)
theorem bytes_lt {w : World} {a : Addr} {n c : Nat} {bs : List (BitVec 8)} (h : Bytes w (.slice (some a) n c) bs) (hb : bs ≠ []) : a.block < w.heap.size := by
  obtain ⟨a', c', e, hc⟩ := h
  cases e
  obtain ⟨b, off, e1, hcell⟩ := hc 0 (List.length_pos_iff.2 hb)
  cases e1
  exact block_lt_of_cell hcell
theorem HdOk.lt {w : World} {h : Hd} (k : HdOk w h) {q : Nat} (hq : h.uses q) : q < w.heap.size := by
  rcases hq with e | ⟨t, ht, hl⟩
  · cases e2 : h.R with
    | nil => exact absurd e2 k.ne
    | cons y r =>
      obtain ⟨⟨b, off, e1, hc⟩, _⟩ := k.ents 0 y (by rw [e2]; rfl)
      cases e1
      rw [← e]
      exact block_lt_of_cell (hc 0 _ rfl)
  · obtain ⟨i, hi⟩ := List.getElem?_of_mem ht
    obtain ⟨_, h1, h2⟩ := k.ents i t hi
    rcases hl with ⟨a, e, rfl, hb⟩ | ⟨a, e, rfl, hb⟩
    · unfold Tow.kv at h1
      rw [e] at h1
      exact bytes_lt h1 hb
    · unfold Tow.vv at h2
      rw [e] at h2
      exact bytes_lt h2 hb
/-- The heads behind the cell o of the block p: S are the blocks that may turn. -/
structure HB (S : Nat → Prop) (w : World) (p o t : Nat) (cs : Array Value) (v : Value) (L : List Hd) : Prop where
  blk : w.heap[p]? = some (.cells (cs.setIfInBounds o v) t (0, 0))
  at' : o < cs.size
  sp : S p
  up : ∀ k, w.heap.size ≤ k → S k
  row : (v = .slice none 0 0 ∧ L = []) ∨ ∃ g c, v = .slice (some ⟨g, 0, none⟩) L.length c ∧ HRow w g c L ∧ g ≠ p ∧ S g
  each : ∀ x, x ∈ L → HdOk w x ∧ ∀ q, x.uses q → ¬ S q
  len : L.length ≤ 1000000
theorem HB.keep {S S' : Nat → Prop} {w w' : World} {p o t : Nat} {cs : Array Value} {v : Value} {L : List Hd} (h : HB S w p o t cs v L) (tt : Turns S' w w') (h1 : ¬ S' p) (h2 : ∀ k, inRow v k → ¬ S' k) (h3 : ∀ k, S' k → S k) : HB S w' p o t cs v L where
  blk := tt.heap h.blk h1
  at' := h.at'
  sp := h.sp
  up := fun k hk => h.up k (Nat.le_trans tt.size hk)
  row := by
    rcases h.row with e | ⟨g, c, e, hr, hg, hs⟩
    · exact .inl e
    · exact .inr ⟨g, c, e, hr.keep tt (h2 g ⟨_, _, e⟩), hg, hs⟩
  each := fun x hx => ⟨(h.each x hx).1.keep tt fun q hq hs => (h.each x hx).2 q hq (h3 q hs), (h.each x hx).2⟩
  len := h.len
theorem HB.quiet {S : Nat → Prop} {w w' : World} {p o t : Nat} {cs : Array Value} {v : Value} {L : List Hd} (h : HB S w p o t cs v L) (tt : Turns (fun _ => False) w w') : HB S w' p o t cs v L := h.keep tt (fun x => x) (fun _ _ x => x) (fun _ x => x.elim)
theorem HB.cell {S : Nat → Prop} {w : World} {p o t : Nat} {cs : Array Value} {v : Value} {L : List Hd} (h : HB S w p o t cs v L) : w.cell? ⟨p, o, none⟩ = some v := by
  rw [cell_of_row w p o _ t (0, 0) h.blk]
  exact Array.getElem?_setIfInBounds_self_of_lt h.at'
theorem HB.frozen {S : Nat → Prop} {w : World} {p o t : Nat} {cs : Array Value} {v : Value} {L : List Hd} (h : HB S w p o t cs v L) (k : Nat) : w.frozen? ⟨p, k, none⟩ = false := frozen_of_row w p k _ t h.blk
theorem HB.full {S : Nat → Prop} {w : World} {p o t : Nat} {cs : Array Value} {v : Value} {L : List Hd} (h : HB S w p o t cs v L) (hne : L ≠ []) : ∃ g c, v = .slice (some ⟨g, 0, none⟩) L.length c ∧ HRow w g c L ∧ g ≠ p ∧ S g := by
  rcases h.row with ⟨_, e⟩ | h
  · exact absurd e hne
  · exact h
/-- The row alone turned. -/
theorem HB.turn {S : Nat → Prop} {w w' : World} {p o t g c : Nat} {cs : Array Value} {L L' : List Hd} (h : HB S w p o t cs (.slice (some ⟨g, 0, none⟩) L.length c) L) (tt : Turns (fun k => k = g) w w') (hr : HRow w' g c L') (hp : L'.Perm L) (hg : g ≠ p) (hs : S g) : HB S w' p o t cs (.slice (some ⟨g, 0, none⟩) L.length c) L' where
  blk := tt.heap h.blk (Ne.symm hg)
  at' := h.at'
  sp := h.sp
  up := fun k hk => h.up k (Nat.le_trans tt.size hk)
  row := .inr ⟨g, c, by rw [hp.length_eq], hr, hg, hs⟩
  each := fun x hx => by
    have := h.each x (hp.mem_iff.1 hx)
    exact ⟨this.1.keep tt fun q hq e => this.2 q hq (e ▸ hs), this.2⟩
  len := by rw [hp.length_eq]; exact h.len
/-! The list as a function -/
def hf (L : List Hd) : Nat → Hd := fun k => (L[k]?).getD default
theorem hf_at {L : List Hd} {k : Nat} {x : Hd} (h : L[k]? = some x) : hf L k = x := by simp [hf, h]
theorem at_hf {L : List Hd} {k : Nat} (h : k < L.length) : L[k]? = some (hf L k) := by simp [hf, h]
theorem hf_swap (L : List Hd) (i j : Nat) (hi : i < L.length) (hj : j < L.length) : hf (Hp.swapL L i j (hf L i) (hf L j)) = Hp.swapF (hf L) i j := by
  funext k
  show ((Hp.swapL L i j (hf L i) (hf L j))[k]?).getD default = _
  rw [Hp.swapL_get L i j k _ _ (at_hf hi) (at_hf hj)]
  unfold Hp.swapF
  by_cases e1 : k = i
  · simp [e1, hf]
  · by_cases e2 : k = j
    · rw [if_neg e1, if_pos e2, if_neg e1, if_pos e2]; rfl
    · rw [if_neg e1, if_neg e2, if_neg e1, if_neg e2]; rfl
end Go.Proofs.Ytjnpendihdlgnaa
