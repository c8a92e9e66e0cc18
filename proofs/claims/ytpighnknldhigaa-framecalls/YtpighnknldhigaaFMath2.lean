/-
  A head is the one that the document's answer makes anew just where its sum is right.
-/
import Derived.Test.YtpighnknldhigaaFault
namespace Go.Proofs.Ytpighnknldhigaa
namespace Fr

theorem plain_of (b0 b1 b2 b3 : BitVec 8) (t : List (BitVec 8)) : plain b0 (lenOf (b0 :: b1 :: b2 :: b3 :: t)) = [b0, b1, b2, b3] := by
  have h1 := b1.isLt
  have h2 := b2.isLt
  have h3 := b3.isLt
  have hl : lenOf (b0 :: b1 :: b2 :: b3 :: t) = b1.toNat + 256 * b2.toNat + 65536 * b3.toNat := rfl
  rw [hl]
  unfold plain
  have e1 : BitVec.ofNat 8 (b1.toNat + 256 * b2.toNat + 65536 * b3.toNat) = b1 := by
    apply BitVec.eq_of_toNat_eq; rw [BitVec.toNat_ofNat]; omega
  have e2 : BitVec.ofNat 8 ((b1.toNat + 256 * b2.toNat + 65536 * b3.toNat) / 256) = b2 := by
    apply BitVec.eq_of_toNat_eq; rw [BitVec.toNat_ofNat]; omega
  have e3 : BitVec.ofNat 8 ((b1.toNat + 256 * b2.toNat + 65536 * b3.toNat) / 65536) = b3 := by
    apply BitVec.eq_of_toNat_eq; rw [BitVec.toNat_ofNat]; omega
  rw [e1, e2, e3]

theorem head_iff (bs : List (BitVec 8)) (h : 8 ≤ bs.length) : headB (bs.getD 0 0) (lenOf bs) = bs.take 8 ↔ (bs.drop 4).take 4 = msum (bs.take 4) := by
  obtain ⟨b0, b1, b2, b3, b4, b5, b6, b7, t, rfl⟩ := eight h
  unfold headB
  rw [show (b0 :: b1 :: b2 :: b3 :: b4 :: b5 :: b6 :: b7 :: t).getD 0 0 = b0 from rfl, plain_of]
  show [b0, b1, b2, b3] ++ msum [b0, b1, b2, b3] = [b0, b1, b2, b3] ++ [b4, b5, b6, b7] ↔ [b4, b5, b6, b7] = msum [b0, b1, b2, b3]
  rw [List.append_cancel_left_eq]
  exact eq_comm
end Fr
end Go.Proofs.Ytpighnknldhigaa
