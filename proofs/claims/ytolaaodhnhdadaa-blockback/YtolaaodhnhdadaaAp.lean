/-
  Numbers, pieces and writes behind bytes of one's own.
-/
import Derived.Test.YtolaaodhnhdadaaAn
namespace Go.Proofs.Ytolaaodhnhdadaa
open Go.RowKit
set_option maxRecDepth 100000
set_option maxHeartbeats 4000000
theorem number_nil (x : Nat) (hx : x < 18446744073709551616) (w : World) : Calls Try.prog 36 #[.slice none 0 0, .int .u64 x] w fun e w' => ∃ g c, e = .returned (.slice (some ⟨g, 0, none⟩) (short x).length c) ∧ w.heap.size ≤ g ∧ RowB w' g c (short x) ∧ Below w.heap.size w w' := by
  have hz := szN_le x
  go_enter Try.func36, Try.ntmps36
  go_wp2_with fail
  refine (size_any x hx _).mono ?_
  rintro e w1 ⟨rfl, rfl⟩
  obtain ⟨k, hk⟩ : ∃ k : Nat, szN x = (k : Int) := ⟨(szN x).toNat, by omega⟩
  rw [hk] at hz ⊢
  clear hk
  go_wp2_with fail
  refine (extend_nil k (by omega) _).mono ?_
  rintro e w2 ⟨g, rfl, hg, hrow, hb⟩
  go_wp2_with fail
  refine (appendShort_any g k [] 0 rfl x hx _ (Nat.zero_le _) hrow (by omega)).mono ?_
  rintro e w3 ⟨g2, c2, rfl, hc2, hrow2, hb2⟩
  rw [Nat.zero_add]
  have HR := hide hrow2
  have HG := hide (hb2.ge hb.size hg)
  have HB := hide (hb.trans (hb2.below hb.size hg))
  clear hrow2 hb2 hb hrow hc2
  go_wp2_with fail
  go_ret
  exact ⟨g2, c2, rfl, HG.out, HR.out, HB.out⟩
theorem pieceB_len (p : List (BitVec 8)) : (pieceB p).length = (short p.length).length + p.length := by simp [pieceB]
theorem writeB_len1 (key val : List (BitVec 8)) : (writeB (1, key, val)).length = 1 + (pieceB key).length + (pieceB val).length := by simp [writeB]; omega
end Go.Proofs.Ytolaaodhnhdadaa
