/-
  Where frames of a row end, and how many are whole up to a place.
-/
import Derived.Test.YtpighnknldhigaaFMath
namespace Go.Proofs.Ytpighnknldhigaa
namespace Fr

theorem wholes_iff (fs : List (BitVec 8 × List (BitVec 8))) : ∀ n k, n < fs.length → ((rowB (fs.take (n + 1))).length ≤ k ↔ n < wholes fs k) := by
  induction fs with
  | nil => intro n k h; simp at h
  | cons f l ih =>
    intro n k h
    rw [List.take_succ_cons, rowB_cons, List.length_append, frameB_length, wholes]
    cases n with
    | zero =>
      rw [List.take_zero, rowB_nil, List.length_nil]
      split <;> omega
    | succ m =>
      have := ih m (k - (f.2.length + 12)) (by simpa using h)
      split <;> omega
theorem wholes_le (fs : List (BitVec 8 × List (BitVec 8))) : ∀ k, wholes fs k ≤ fs.length := by
  induction fs with
  | nil => intro k; simp [wholes]
  | cons f l ih =>
    intro k
    rw [wholes, List.length_cons]
    have := ih (k - (f.2.length + 12))
    split <;> omega
/-- Where each frame ends. -/
def endAt (fs : List (BitVec 8 × List (BitVec 8))) (n : Nat) : Nat := (rowB (fs.take (n + 1))).length
theorem rowB_len (fs : List (BitVec 8 × List (BitVec 8))) : (rowB fs).length = (fs.map fun f => f.2.length).sum + 12 * fs.length := by
  induction fs with
  | nil => rfl
  | cons f l ih =>
    rw [rowB_cons, List.length_append, frameB_length, ih, List.map_cons, List.sum_cons, List.length_cons]
    omega
end Fr
end Go.Proofs.Ytpighnknldhigaa
