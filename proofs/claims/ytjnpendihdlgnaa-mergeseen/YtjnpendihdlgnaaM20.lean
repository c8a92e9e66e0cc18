import Derived.Test.YtjnpendihdlgnaaM02
/-
  Pick: a number below four.
-/
namespace Go.Proofs.Ytjnpendihdlgnaa
open Go.RowKit
set_option maxRecDepth 100000
set_option maxHeartbeats 4000000
theorem pick4_any (n : Int) (w : World) : Calls Try.prog 29 #[.int .i64 n, .int .i64 4] w fun e w' => ∃ p : Nat, p < 4 ∧ e = .returned (.int .i64 (p : Nat)) ∧ w' = w := by
  have h1 : n.tmod 4 < 4 := Int.tmod_lt_of_pos n (by decide)
  have h2 : -4 < n.tmod 4 := by
    have h3 := Int.tmod_lt_of_pos (-n) (b := 4) (by decide)
    rw [Int.neg_tmod] at h3
    omega
  generalize hm : n.tmod 4 = m at *
  by_cases h0 : 0 ≤ m
  · have h4 : ¬ m < 0 := by omega
    go_enter Try.func29, Try.ntmps29
    go_wp2_with fail
    go_ret
    exact ⟨m.toNat, by omega, by rw [Int.toNat_of_nonneg h0]; rfl, rfl⟩
  · have h4 : m < 0 := by omega
    go_enter Try.func29, Try.ntmps29
    go_wp2_with fail
    go_ret
    exact ⟨(m + 4).toNat, by omega, by rw [Int.toNat_of_nonneg (by omega)]; rfl, rfl⟩
end Go.Proofs.Ytjnpendihdlgnaa
