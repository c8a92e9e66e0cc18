/-
  Entries and where their bytes lie; rows in order.
-/
import Derived.Test.YtjnpendihdlgnaaCl
namespace Go.Proofs.Ytjnpendihdlgnaa
open Go.RowKit
structure Ent where
  key : List (BitVec 8)
  seq : Nat
  kind : Int
  val : List (BitVec 8)
def Ent.en (e : Ent) : En := (e.key, e.seq)
/-- An entry and where its bytes lie. -/
structure Tow where
  ka : Option Addr
  kc : Nat
  va : Option Addr
  vc : Nat
  e : Ent
def Tow.kv (x : Tow) : Value := .slice x.ka x.e.key.length x.kc
def Tow.vv (x : Tow) : Value := .slice x.va x.e.val.length x.vc
def Tow.ent (x : Tow) : Array Value := #[x.kv, .int .u64 (x.e.seq : Nat), .int .i64 x.e.kind, x.vv]
/-- A block that an entry's bytes lie in. -/
def Tow.bytesIn (x : Tow) (q : Nat) : Prop := (∃ a : Addr, x.ka = some a ∧ a.block = q) ∨ ∃ a : Addr, x.va = some a ∧ a.block = q
theorem bytes_keep {S : Nat → Prop} {w w' : World} {a : Option Addr} {n c : Nat} {bs : List (BitVec 8)} (h : Bytes w (.slice a n c) bs) (tt : Turns S w w') (hS : ∀ x : Addr, a = some x → ¬ S x.block) : Bytes w' (.slice a n c) bs :=
  h.turns tt fun x n c e => by cases e; exact hS x rfl
def inOrd : List Ent → Bool
  | x :: y :: r => decide (cmpE x.en y.en < 0) && inOrd (y :: r)
  | _ => true
theorem inOrd_iff : ∀ es : List Ent, inOrd es = true ↔ ∀ j x y, es[j]? = some x → es[j + 1]? = some y → cmpE x.en y.en < 0
  | [] => by simp [inOrd]
  | [x] => by simp [inOrd]
  | x :: y :: r => by
    have ih := inOrd_iff (y :: r)
    simp only [inOrd, Bool.and_eq_true, decide_eq_true_eq, ih]
    constructor
    · rintro ⟨h1, h2⟩ j a b ha hb
      cases j with
      | zero =>
        obtain rfl : x = a := by simpa using ha
        obtain rfl : y = b := by simpa using hb
        exact h1
      | succ j => exact h2 j a b (by simpa using ha) (by simpa using hb)
    · intro h
      exact ⟨h 0 x y rfl rfl, fun j a b ha hb => h (j + 1) a b (by simpa using ha) (by simpa using hb)⟩
theorem wrapI (z : Int) (h0 : -9223372036854775808 ≤ z) (h1 : z < 9223372036854775808) : IntKind.i64.wrap z = z := by rw [IntKind.wrap_i64]; omega
def ents (l : List Tow) : List Ent := l.map (·.e)
theorem ents_at {l : List Tow} {k : Nat} (h : k < l.length) : (ents l)[k]? = some l[k].e := by simp [ents, h]
theorem belowN {B : Nat} {a w : World} (h : Below B a w) (n : Nat) : Below B a (w.drewN n) := ⟨h.os, h.tape, h.output, h.size, h.block⟩
end Go.Proofs.Ytjnpendihdlgnaa
