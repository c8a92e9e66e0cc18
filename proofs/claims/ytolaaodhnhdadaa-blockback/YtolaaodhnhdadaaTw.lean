/-
  Entries and where their bytes lie.
-/
import Derived.Test.YtolaaodhnhdadaaBl
import Derived.Test.YtolaaodhnhdadaaCl
namespace Go.Proofs.Ytolaaodhnhdadaa
open Go.RowKit
/-- An entry and where its bytes lie. -/
structure Tow where
  ka : Option Addr
  kc : Nat
  va : Option Addr
  vc : Nat
  e : Ent
def Tow.kv (x : Tow) : Value := .slice x.ka x.e.key.length x.kc
def Tow.vv (x : Tow) : Value := .slice x.va x.e.val.length x.vc
def Tow.ent (x : Tow) : Array Value := #[x.kv, .int .u64 (x.e.seq : Nat), .int .i64 x.e.kind, x.vv]
/-- A block that an entry's bytes lie in. -/
def Tow.bytesIn (x : Tow) (q : Nat) : Prop := (∃ a : Addr, x.ka = some a ∧ a.block = q) ∨ ∃ a : Addr, x.va = some a ∧ a.block = q
theorem bytes_keep {S : Nat → Prop} {w w' : World} {a : Option Addr} {n c : Nat} {bs : List (BitVec 8)} (h : Bytes w (.slice a n c) bs) (tt : Turns S w w') (hS : ∀ x : Addr, a = some x → ¬ S x.block) : Bytes w' (.slice a n c) bs :=
  h.turns tt fun x n c e => by cases e; exact hS x rfl
end Go.Proofs.Ytolaaodhnhdadaa
