/-
  The table behind an Insert.
-/
import Derived.Test.YtkeglaplckfllaaIp
namespace Go.Proofs.Ytkeglaplckfllaa
open Go.RowKit
def Grow (A : Nat → Prop) (w : World) : Nat → Prop := fun k => A k ∨ w.heap.size ≤ k
theorem tab_ins {A : Nat → Prop} {w w6 w7 w9 : World} {t bg n : Nat} {ts : List Tow} {cs : Array Value} {Pf : Nat → Nat} {rmn : Nat → Value} {x : Tow} {o : Obj} (hT : Tab A w t bg ts) (t6 : Turns (fun _ => False) w w6) (hxb : x.b = w6.heap.size) (t7 : Turns (fun j => j = x.b ∨ ∃ p, p ≤ ts.length ∧ j = nodeB bg ts p) (w6.alloc o) w7)
    (hN : Nodes w7 bg ts (rmTo ts Pf x.b x.h)) (hO : ∃ cn, NodeAt w7 x.b x.h (rnTo ts Pf rmn x.h) cn ∧ entIn cn x) (t9 : Turns (fun k => k = t) w7 w9) (hrow : w9.heap[t]? = some (.cells #[.pointer (some ⟨bg, 0, none⟩), .int .i64 ((ts.length + 1 : Nat) : Int), .int .i64 ((sizeT ts + (x.e.key.length + x.e.val.length + 32) : Nat) : Int)] 56 (0, 0)))
    (hk : Bytes w6 x.kv x.e.key) (hv : Bytes w6 x.vv x.e.val) (hkb : ∀ a, x.ka = some a → w.heap.size ≤ a.block ∧ a.block < w6.heap.size) (hvb : ∀ a, x.va = some a → w.heap.size ≤ a.block ∧ a.block < w6.heap.size) (hS : Spots bg ts n cs Pf) (hn : n = place x.e.en ts) (hno : ∀ y, ts[n]? = some y → cmpE y.e.en x.e.en ≠ 0) (hh : 1 ≤ x.h ∧ x.h ≤ 12) :
    Tab (Grow A w) w9 t bg (ins ts n x) ∧ Turns A w w9 := by
  have hpl : n ≤ ts.length := hn ▸ place_le x.e.en ts
  have hlt : ∀ p, p ≤ ts.length → nodeB bg ts p < w.heap.size := fun p hp => hT.node_lt hp
  have htl : t < w.heap.size := lt_of_heap hT.tab
  have hsz := t6.size
  have ha : (w6.alloc o).heap.size = w6.heap.size + 1 := by simp
  have ta : Turns (fun _ => False) w6 (w6.alloc o) := (Turns.refl _ w6).alloc o
  have h7 := t7.size
  have h9 := t9.size
  have hne : ∀ p, p ≤ ts.length → x.b ≠ nodeB bg ts p := fun p hp e => by have := hlt p hp; omega
  have hN9 : Nodes w9 bg ts (rmTo ts Pf x.b x.h) := hN.keep t9 fun p hp e => hT.node_ne hp e
  have hO9 : ∃ cn, NodeAt w9 x.b x.h (rnTo ts Pf rmn x.h) cn ∧ entIn cn x := by
    obtain ⟨cn, h1, h2⟩ := hO
    exact ⟨cn, h1.keep t9 (by show ¬ x.b = t; omega), h2⟩
  -- bytes that no step turns
  have keepB : ∀ {a : Option Addr} {m c : Nat} {bs : List (BitVec 8)}, Bytes w6 (.slice a m c) bs → (∀ y : Addr, a = some y → y.block ≠ x.b ∧ (∀ p, p ≤ ts.length → y.block ≠ nodeB bg ts p) ∧ y.block ≠ t) → Bytes w9 (.slice a m c) bs := fun hb hy =>
    bytes_keep (bytes_keep (bytes_keep hb ta (fun _ _ x => x)) t7 (fun y e h => by
      rcases h with h | ⟨p, hp, h⟩
      · exact (hy y e).1 h
      · exact (hy y e).2.1 p hp h)) t9 (fun y e h => (hy y e).2.2 h)
  refine ⟨⟨?_, nodes_ins hpl hS hh.2 (fun p hp => (nodeH_le hT hp).2) hN9 hO9 hne, sorted_ins rfl hT.sorted hn hno, fun y hy => ?_, fun y hy => ?_, .inl hT.at_, fun p hp => ?_, fun y hy q hq => ?_⟩, ?_⟩
  · rw [ins_length hpl, sizeT_ins]; exact hrow
  · rcases ins_mem.1 hy with rfl | hy
    · exact hh
    · exact hT.tall y hy
  · rcases ins_mem.1 hy with rfl | hy
    · refine ⟨keepB hk fun a e => ?_, keepB hv fun a e => ?_⟩
      · have := hkb a e
        exact ⟨by omega, fun p hp h => by have := hlt p hp; omega, by omega⟩
      · have := hvb a e
        exact ⟨by omega, fun p hp h => by have := hlt p hp; omega, by omega⟩
    · refine ⟨keepB ((hT.keys y hy).1.quiet t6) fun a e => ?_, keepB ((hT.keys y hy).2.quiet t6) fun a e => ?_⟩
      · have := hT.ak y hy a.block (.inl ⟨a, e, rfl⟩)
        exact ⟨by omega, fun p hp h => this.2.2.2 p hp h, this.2.2.1⟩
      · have := hT.ak y hy a.block (.inr ⟨a, e, rfl⟩)
        exact ⟨by omega, fun p hp h => this.2.2.2 p hp h, this.2.2.1⟩
  · rw [ins_length hpl] at hp
    rw [nodeB_ins hpl]
    split
    · exact .inl (hT.an p (by omega))
    · split
      · exact .inr (by omega)
      · exact .inl (hT.an (p - 1) (by omega))
  · have hnodes : ∀ {q : Nat}, (∀ p, p ≤ ts.length → q ≠ nodeB bg ts p) → q ≠ x.b → ∀ p, p ≤ (ins ts n x).length → q ≠ nodeB bg (ins ts n x) p := fun h1 h2 p hp => by
      rw [ins_length hpl] at hp
      rw [nodeB_ins hpl]
      split
      · exact h1 p (by omega)
      · split
        · exact h2
        · exact h1 (p - 1) (by omega)
    rcases ins_mem.1 hy with rfl | hy
    · have hb : w.heap.size ≤ q ∧ q < w6.heap.size := by
        rcases hq with ⟨a, e, rfl⟩ | ⟨a, e, rfl⟩
        · exact hkb a e
        · exact hvb a e
      exact ⟨.inr hb.1, by omega, by omega, hnodes (fun p hp h => by have := hlt p hp; omega) (by omega)⟩
    · have h := hT.ak y hy q hq
      exact ⟨.inl h.1, by omega, h.2.2.1, hnodes h.2.2.2 (by omega)⟩
  · have h1 : Turns A w w7 := ((t6.trans ta).mono fun _ _ x => x.elim).andThen t7 fun k hk h => by
      rcases h with h | ⟨p, hp, h⟩
      · omega
      · rw [h]; exact hT.an p hp
    exact h1.andThen t9 fun k _ e => by rw [e]; exact hT.at_
end Go.Proofs.Ytkeglaplckfllaa
