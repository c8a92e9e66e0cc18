/-
  How answers are compared: bytes, and lists of frames.
-/
import Derived.Test.YtpighnknldhigaaRowOf
namespace Go.Proofs.Ytpighnknldhigaa
open Go.RowKit

set_option maxRecDepth 100000 in
set_option maxHeartbeats 1000000 in
/-- The same bytes are found the same. -/
theorem bytes_same (a a' : Option Addr) (n c c' : Nat) (bs : List (BitVec 8)) (w : World) (h : Bytes w (.slice a n c) bs) (h' : Bytes w (.slice a' n c') bs) (hn : n ≤ 1000000000) :
    Calls Try.prog 15 #[.slice a n c, .slice a' n c'] w fun e w' => e = .returned (.bool true) ∧ ∃ m, w' = w.drewN m := by
  have hl := h.len
  have H := hide h
  have H' := hide h'
  have HL := hide hl
  clear h h' hl
  go_enter Try.func15, Try.ntmps15
  go_wp2
  go_loopw [5] (fun i wr => ∃ k : Nat, i = .int .i64 (k : Nat) ∧ k ≤ n ∧ ∃ m, wr = w.drewN m) (fun i _ => n - (intOf i).toNat)
  case atStart => exact ⟨0, rfl, Nat.zero_le _, 0, rfl⟩
  case round =>
    obtain ⟨k, rfl, hk, m, rfl⟩ := hrel
    by_cases hkn : k < n
    · obtain ⟨b, off, rfl⟩ := H.out.addr (by omega)
      obtain ⟨b', off', rfl⟩ := H'.out.addr (by omega)
      have h1 := H.out.at k (by have := HL.out; omega)
      have h2 := H'.out.at k (by have := HL.out; omega)
      generalize hx : (bs.getD k 0).toNat = x at *
      clear hx
      have i1 : (k : Int) < (n : Int) := by omega
      have i0 : (0 : Int) ≤ (k : Int) := by omega
      go_wp2_with fail
      go_quiet (fail)
      go_wp2
      go_roundw
      case rel => exact ⟨k + 1, by go_num, by omega, _, rfl⟩
      case measure => simp [intOf]; omega
    · obtain rfl : k = n := by omega
      go_wp2
      go_ret
      exact ⟨rfl, m, rfl⟩
end Go.Proofs.Ytpighnknldhigaa
