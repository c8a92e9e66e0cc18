/-
  A box that the answer is put into.
-/
import Derived.Test.YtkeglaplckfllaaHq
import Derived.Test.YtkeglaplckfllaaPi
import Derived.Test.YtkeglaplckfllaaEs
namespace Go.Proofs.Ytkeglaplckfllaa
open Go.RowKit
set_option maxRecDepth 100000
/-- The box as it is made. -/
def zbox : Obj := .cells #[.slice none 0 0, .int .u64 0, .int .i64 0, .slice none 0 0] 29
theorem Bytes.over {w : World} {g : Nat} {cs : Array Value} {v : Value} {bs : List (BitVec 8)} (h : Bytes w v bs) (hg : w.heap[g]? = some (.cells #[.slice none 0 0, .int .u64 0, .int .i64 0, .slice none 0 0] 29 (0, 0))) : Bytes (w.setRow g cs) v bs := by
  obtain ⟨a, c, rfl, hc⟩ := h
  refine ⟨a, c, rfl, fun k hk => ?_⟩
  obtain ⟨b, off, rfl, hcell⟩ := hc k hk
  refine ⟨b, off, rfl, ?_⟩
  by_cases hb : b = g
  · subst hb
    rw [cell_of_row w b (off + k) _ 29 (0, 0) hg] at hcell
    generalize off + k = j at hcell
    rcases j with _ | _ | _ | _ | j <;> simp at hcell
  · rw [cell_setRow_other w g cs ⟨b, off + k, none⟩ hb]
    exact hcell
theorem Turns.over {w u : World} {g : Nat} {cs : Array Value} (t : Turns (fun _ => False) w u) (hg : w.heap.size ≤ g) : Turns (fun _ => False) w (u.setRow g cs) :=
  ⟨t.os, t.tape, t.output, by have := t.size; simpa using this, fun k hk hn => (setRow_other u g k cs (by omega)).trans (t.block k hk hn)⟩
theorem wrap12 (n : Nat) (h : n ≤ 120) : IntKind.i64.wrap ((n : Int) + 12) = (n : Int) + 12 := by
  simp [IntKind.wrap, IntKind.bits, IntKind.signed]
  omega
end Go.Proofs.Ytkeglaplckfllaa
