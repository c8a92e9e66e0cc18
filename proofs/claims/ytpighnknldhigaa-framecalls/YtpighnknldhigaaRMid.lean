/-
  The two appends inside the document's Append: what they answer, and that they leave the frame's own variable alone.
-/
import Derived.Test.YtpighnknldhigaaRef
import Derived.Test.YtpighnknldhigaaApd2
namespace Go.Proofs.Ytpighnknldhigaa
open Go.RowKit

theorem rappend_mid (B g c0 m n c ch gh bx : Nat) (bs head body : List (BitVec 8)) (a : Option Addr) (x y : Value) (w1 : World) (hm : m = bs.length) (hB : B ≤ w1.heap.size) (hg : B ≤ g) (hmc : m ≤ c0) (hrow : RowB w1 g c0 bs)
    (hh : Bytes w1 (.slice (some ⟨gh, 0, none⟩) 8 ch) head) (hl : head.length = 8) (hbx : w1.heap[bx]? = some (.cells #[x, y] 27 (0, 0))) (hf : ∀ w', Below B w1 w' → Bytes w' (.slice a n c) body) (hn : n ≤ 1048576) (hb : m ≤ 1000000000) :
    ∃ g1 c1 w2 g2 c2 w3, (Builtin.append_ #[22, 22] 22 #[.slice (some ⟨g, 0, none⟩) m c0, .slice (some ⟨gh, 0, none⟩) 8 ch]).run Try.prog w1 = .ok (.slice (some ⟨g1, 0, none⟩) (m + 8) c1) w2 ∧
      (Builtin.append_ #[22, 22] 22 #[.slice (some ⟨g1, 0, none⟩) (m + 8) c1, .slice a n c]).run Try.prog w2 = .ok (.slice (some ⟨g2, 0, none⟩) (m + 8 + n) c2) w3 ∧
      B ≤ g2 ∧ m + 8 + n ≤ c2 ∧ RowB w3 g2 c2 (bs ++ head ++ body) ∧ Below B w1 w3 ∧ w2.heap[bx]? = some (.cells #[x, y] 27 (0, 0)) ∧ w3.heap[bx]? = some (.cells #[x, y] 27 (0, 0)) := by
  have hne : ∀ (w : World) (g' c' : Nat) (zs : List (BitVec 8)), RowB w g' c' zs → w.heap[bx]? = some (.cells #[x, y] 27 (0, 0)) → (some ⟨g', 0, none⟩ : Option Addr) ≠ some ⟨bx, 0, none⟩ := fun w g' c' zs hr hx e => by
    obtain ⟨cs, h1, _⟩ := hr
    cases e
    rw [hx] at h1
    cases h1
  obtain ⟨g1, c1, w2, r1, hg1, row1, b1, l1, _, _, o1⟩ := append_bytes2 w1 B (some ⟨g, 0, none⟩) m c0 bs hm _ head 8 hl.symm hh hB (.inr ⟨g, rfl, hg, hmc, hrow⟩) (by omega)
  have hx2 := (o1 bx (lt_of_heap hbx) (hne w1 g c0 bs hrow hbx)).trans hbx
  have hbo := hf w2 b1
  obtain ⟨g2, c2, w3, r2, hg2, row2, b2, l2, _, _, o2⟩ := append_bytes2 w2 B (some ⟨g1, 0, none⟩) (m + 8) c1 (bs ++ head) (by rw [List.length_append, hl, hm]) _ body n hbo.len hbo (Nat.le_trans hB b1.size) (.inr ⟨g1, rfl, hg1, l1, row1⟩) (by omega)
  have hx3 := (o2 bx (lt_of_heap hx2) (hne w2 g1 c1 _ row1 hx2)).trans hx2
  exact ⟨g1, c1, w2, g2, c2, w3, r1 22, r2 22, hg2, l2, row2, b1.trans b2, hx2, hx3⟩

end Go.Proofs.Ytpighnknldhigaa
