/-
  Pick: a number below twelve. Before: the order of keys.
-/
import Derived.Test.YtkeglaplckfllaaEr
namespace Go.Proofs.Ytkeglaplckfllaa
open Go.RowKit
set_option maxRecDepth 100000
set_option maxHeartbeats 4000000
theorem pick_any (n : Int) (w : World) : Calls Try.prog 32 #[.int .i64 n, .int .i64 12] w fun e w' => ∃ p : Nat, p < 12 ∧ e = .returned (.int .i64 (p : Nat)) ∧ w' = w := by
  have h1 : n.tmod 12 < 12 := Int.tmod_lt_of_pos n (by decide)
  have h2 : -12 < n.tmod 12 := by
    have h3 := Int.tmod_lt_of_pos (-n) (b := 12) (by decide)
    rw [Int.neg_tmod] at h3
    omega
  generalize hm : n.tmod 12 = m at *
  by_cases h0 : 0 ≤ m
  · have h4 : ¬ m < 0 := by omega
    go_enter Try.func32, Try.ntmps32
    go_wp2_with fail
    go_ret
    exact ⟨m.toNat, by omega, by rw [Int.toNat_of_nonneg h0]; rfl, rfl⟩
  · have h4 : m < 0 := by omega
    go_enter Try.func32, Try.ntmps32
    go_wp2_with fail
    go_ret
    exact ⟨(m + 12).toNat, by omega, by rw [Int.toNat_of_nonneg (by omega)]; rfl, rfl⟩
theorem less_dec (x y : List (BitVec 8)) : Op.bytesLess (u8s x) (u8s y) = decide (cmpB x y < 0) := by
  have h1 := less_cmp (u8s x) (u8s y)
  have h2 := cmpB_vals x y
  have h3 : Lib.compareBytes (u8s x) (u8s y) = cmpB x y := rfl
  rw [h3] at h1
  by_cases h : cmpB x y = -1
  · rw [h1.2 h, h]; rfl
  · have h4 : ¬ cmpB x y < 0 := by omega
    rw [decide_eq_false h4]
    exact Bool.eq_false_iff.2 fun e => h (h1.1 e)
theorem beforeK_any (a a' : Option Addr) (n n' c c' : Nat) (x y : List (BitVec 8)) (w : World) (h : Bytes w (.slice a n c) x) (h' : Bytes w (.slice a' n' c') y) :
    Calls Try.prog 33 #[.slice a n c, .slice a' n' c'] w fun e w' => e = .returned (.bool (decide (cmpB x y < 0))) ∧ w' = w :=
  (before_any a a' n n' c c' x y w h h').mono fun e w' ⟨h1, h2⟩ => ⟨by rw [h1, less_dec], h2⟩
end Go.Proofs.Ytkeglaplckfllaa
