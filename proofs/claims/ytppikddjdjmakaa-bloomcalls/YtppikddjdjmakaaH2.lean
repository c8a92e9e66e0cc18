/-
  How many bits a filter has, and how many probes; of the code and of the document's answer.
-/
import Derived.Test.YtppikddjdjmakaaH1
namespace Go.Proofs.Ytppikddjdjmakaa
open Go.RowKit
set_option maxRecDepth 100000
set_option maxHeartbeats 1000000
theorem bytesFor_any (n : Nat) (hn : n ≤ 8388608) (w : World) : Calls Try.prog 22 #[.int .i64 (n : Nat)] w fun e w' => e = .returned (.int .i64 ((n + 7) / 8 : Nat)) ∧ w' = w := by
  go_enter Try.func22, Try.ntmps22
  go_wp2_with fail
  go_ret
  exact ⟨ret_int (by omega), rfl⟩
theorem probesFor_any (c : Nat) (h1 : 1 ≤ c) (h2 : c ≤ 64) (w : World) : Calls Try.prog 23 #[.int .i64 (c : Nat)] w fun e w' => e = .returned (.int .i64 (kOf c : Nat)) ∧ w' = w := by
  go_enter Try.func23, Try.ntmps23
  go_wp2_with fail
  all_goals
    go_ret
    exact ⟨ret_int (by unfold kOf; split at * <;> omega), rfl⟩
def mayB (k : Int) : Bool := decide (1 ≤ k ∧ k ≤ 30)
theorem mayProbe_any (k : Int) (w : World) : Calls Try.prog 25 #[.int .i64 k] w fun e w' => e = .returned (.bool (mayB k)) ∧ w' = w := by
  by_cases h1 : 1 ≤ k
  · by_cases h2 : k ≤ 30
    · have H := hide (show mayB k = true from decide_eq_true (And.intro h1 h2))
      go_enter Try.func25, Try.ntmps25
      go_wp2_with fail
      go_ret
      exact ⟨by rw [H.out]; rfl, rfl⟩
    · have H := hide (show mayB k = false from decide_eq_false (fun h : 1 ≤ k ∧ k ≤ 30 => h2 h.2))
      go_enter Try.func25, Try.ntmps25
      go_wp2_with fail
      go_ret
      exact ⟨by rw [H.out]; rfl, rfl⟩
  · have H := hide (show mayB k = false from decide_eq_false (fun h : 1 ≤ k ∧ k ≤ 30 => h1 h.1))
    go_enter Try.func25, Try.ntmps25
    go_wp2_with fail
    go_ret
    exact ⟨by rw [H.out]; rfl, rfl⟩
theorem bits_arg (m c : Int) (h : m < 0 ∨ c < 1 ∨ 64 < c) (w : World) : Calls Try.prog 6 #[.int .i64 m, .int .i64 c] w fun e w' => e = .returned (.tuple #[.int .i64 0, .int .i64 0, .int .i64 2]) ∧ w' = w := by
  by_cases h1 : m < 0
  · go_enter Try.func6, Try.ntmps6
    go_wp2_with fail
    exact bodyPost_ret (v := .tuple #[.int .i64 0, .int .i64 0, .int .i64 2]) (by simp [results, Try.results6, go_sem]) rfl ⟨rfl, rfl⟩
  · by_cases h2 : c < 1
    · clear h
      go_enter Try.func6, Try.ntmps6
      go_wp2_with fail
      exact bodyPost_ret (v := .tuple #[.int .i64 0, .int .i64 0, .int .i64 2]) (by simp [results, Try.results6, go_sem]) rfl ⟨rfl, rfl⟩
    · have h3 : 64 < c := by omega
      clear h
      go_enter Try.func6, Try.ntmps6
      go_wp2_with fail
      exact bodyPost_ret (v := .tuple #[.int .i64 0, .int .i64 0, .int .i64 2]) (by simp [results, Try.results6, go_sem]) rfl ⟨rfl, rfl⟩
theorem bits_long (m c : Int) (h0 : 0 ≤ m) (h1 : 1 ≤ c) (h2 : c ≤ 64) (h : 8388608 < m * c) (w : World) : Calls Try.prog 6 #[.int .i64 m, .int .i64 c] w fun e w' => e = .returned (.tuple #[.int .i64 0, .int .i64 0, .int .i64 3]) ∧ w' = w := by
  have h3 : 8388608 / c < m := (Int.ediv_lt_iff_lt_mul (by omega)).2 h
  have h4 : 0 ≤ 8388608 / c := Int.ediv_nonneg (by omega) (by omega)
  have n1 : ¬ m < 0 := by omega
  have n2 : ¬ c < 1 := by omega
  have n3 : ¬ 64 < c := by omega
  have n4 : ¬ c = 0 := by omega
  clear h
  go_enter Try.func6, Try.ntmps6
  go_wp2_with fail
  exact bodyPost_ret (v := .tuple #[.int .i64 0, .int .i64 0, .int .i64 3]) (by simp [results, Try.results6, go_sem]) rfl ⟨rfl, rfl⟩
theorem bits_ok (m c : Nat) (h1 : 1 ≤ c) (h2 : c ≤ 64) (h : m * c ≤ 8388608) (w : World) : Calls Try.prog 6 #[.int .i64 (m : Nat), .int .i64 (c : Nat)] w fun e w' => e = .returned (.tuple #[.int .i64 (nBits m c : Nat), .int .i64 (kOf c : Nat), .int .i64 0]) ∧ w' = w := by
  have hI : (m : Int) * (c : Int) ≤ 8388608 := by omega
  have hI0 : (0 : Int) ≤ (m : Int) * (c : Int) := by have := Nat.zero_le (m * c); omega
  have h3 : ¬ (8388608 / (c : Int) < m) := fun x => by have := (Int.ediv_lt_iff_lt_mul (by omega)).1 x; omega
  have n1 : ¬ (m : Int) < 0 := by omega
  have n2 : ¬ (c : Int) < 1 := by omega
  have n3 : ¬ 64 < (c : Int) := by omega
  have n4 : ¬ (c : Int) = 0 := by omega
  have hm : m * c ≤ 8388608 := h
  by_cases h64 : (m : Int) * (c : Int) < 64
  · have HN := hide (show (nBits m c : Int) = 64 by have : m * c < 64 := (by omega); unfold nBits; omega)
    clear h hm
    go_enter Try.func6, Try.ntmps6
    go_wp2_with (first | (go_at_call 22; refine (bytesFor_any 64 (by decide) _).mono ?_; rintro e w1 ⟨rfl, rfl⟩) | (go_at_call 23; refine (probesFor_any _ h1 h2 _).mono ?_; rintro e w1 ⟨rfl, rfl⟩))
    exact bodyPost_ret (v := .tuple #[.int .i64 64, .int .i64 (kOf c : Nat), .int .i64 0]) (by simp [results, Try.results6, go_sem]) rfl ⟨by rw [HN.out], rfl⟩
  · have HB := hide (bytesFor_any (m * c) hm)
    have hq : (m * c + 7) / 8 ≤ 1048576 := by omega
    have HN := hide (show (nBits m c : Int) = (((m * c + 7) / 8 : Nat) : Int) * 8 by have : ¬ m * c < 64 := (by omega); unfold nBits; omega)
    rw [Int.natCast_mul] at HB
    generalize (m * c + 7) / 8 = q at *
    clear h hm
    go_enter Try.func6, Try.ntmps6
    go_wp2_with (first | (go_at_call 22; refine (HB.out _).mono ?_; rintro e w1 ⟨rfl, rfl⟩) | (go_at_call 23; refine (probesFor_any _ h1 h2 _).mono ?_; rintro e w1 ⟨rfl, rfl⟩))
    exact bodyPost_ret (v := .tuple #[.int .i64 ((q : Int) * 8), .int .i64 (kOf c : Nat), .int .i64 0]) (by simp [results, Try.results6, go_sem]) rfl ⟨by rw [HN.out], rfl⟩
end Go.Proofs.Ytppikddjdjmakaa
