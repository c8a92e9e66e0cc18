import Derived.Test.YtjklbhdhjfifhaaGreatM22
import Derived.Test.YtjklbhdhjfifhaaGreatM17
import Derived.Deep.Slices
/-
  Entries that came in, opened.
-/
namespace Go.Proofs.YtjklbhdhjfifhaaGreat
open Go.ChangeShapes Go.WideShapes Go.ChangeAt Go.RowKit
set_option maxRecDepth 100000
instance : Inhabited Tow := ⟨⟨none, 0, none, 0, ⟨[], 0, 0, []⟩⟩⟩
theorem cells5 : Tryz.prog.cellsOf 5 = 1 := by kernel_rfl
/-- Entries, one behind the other, as they lie in memory. -/
def Ents (w : World) (a : Option Addr) (l : List Tow) : Prop :=
  ∀ k x, l[k]? = some x → (∃ b off, a = some ⟨b, off, none⟩ ∧ ∀ j u, [x.kv, .int .u64 (x.e.seq : Nat), .int .i64 x.e.kind, x.vv][j]? = some u → w.cell? ⟨b, off + k * 4 + j, none⟩ = some u) ∧ Bytes w x.kv x.e.key ∧ Bytes w x.vv x.e.val
def Fit (x : Tow) : Prop := x.e.seq < 18446744073709551616 ∧ x.e.key.length ≤ reachBytes ∧ x.e.val.length ≤ reachBytes
/-- Numbers, one behind the other. -/
def Ints (w : World) (a : Option Addr) (n : Nat) : Prop := ∀ k, k < n → ∃ b off z, a = some ⟨b, off, none⟩ ∧ w.cell? ⟨b, off + k, none⟩ = some (.int .i64 z)
end Go.Proofs.YtjklbhdhjfifhaaGreat

/-
  Rows of entries: are they the same? how much do they weigh?
-/
namespace Go.Proofs.YtjklbhdhjfifhaaGreat
open Go.RowKit
set_option maxRecDepth 100000
set_option maxHeartbeats 4000000
theorem Ents.quiet {w w' : World} {a : Option Addr} {l : List Tow} (h : Ents w a l) (t : Turns (fun _ => False) w w') : Ents w' a l := fun k x hx => by
  obtain ⟨⟨b, off, h1, h2⟩, h3, h4⟩ := h k x hx
  exact ⟨⟨b, off, h1, fun j u hu => t.cell (h2 j u hu) (fun x => x)⟩, h3.quiet t, h4.quiet t⟩
/-- How many bytes entries have. -/
def weigh : List Tow → Nat
  | [] => 0
  | x :: r => x.e.key.length + x.e.val.length + weigh r
end Go.Proofs.YtjklbhdhjfifhaaGreat
