/-
  The small functions: how long a number is at most, what may be, what is too long.
-/
import Derived.Test.YtkeglaplckfllaaSh
import Derived.Deep.Light
import Derived.Test.YtkeglaplckfllaaLe
namespace Go.Proofs.Ytkeglaplckfllaa
open Go.RowKit
set_option maxRecDepth 100000
set_option maxHeartbeats 4000000
theorem isKind_any (k : Int) (w : World) : Calls Try.prog 67 #[.int .i64 k] w fun e w' => e = .returned (.bool (k == 1 || k == 2)) ∧ w' = w := by
  go_enter Try.func67, Try.ntmps67
  go_wp2_with fail
  all_goals go_ret
  all_goals refine ⟨?_, rfl⟩
  all_goals simp_all

theorem isWrong_any (k : Int) (ka va : Option Addr) (kn kc vn vc : Nat) (w : World) (x : Wr) (hk : x.1 = k) (hkn : x.2.1.length = kn) (hvn : x.2.2.length = vn) : Calls Try.prog 61 #[.agg #[.int .i64 k, .slice ka kn kc, .slice va vn vc]] w fun e w' => e = .returned (.bool (wrongW x)) ∧ Below w.heap.size w w' := by
  have H1 := hide hk
  have H2 := hide hkn
  have H3 := hide hvn
  clear hk hkn hvn
  go_enter Try.func61, Try.ntmps61
  go_wp2_with fail
  refine (isKind_any _ _).mono ?_
  rintro e w1 ⟨rfl, rfl⟩
  generalize hq : (k == 1 || k == 2) = q
  have HQ := hide hq
  clear hq
  cases q
  all_goals go_wp2_with fail
  all_goals go_ret
  all_goals refine ⟨?_, (Below.refl w.heap.size w).alloc (Nat.le_refl _) _⟩
  all_goals have e1 := H1.out
  all_goals have e2 := H2.out
  all_goals have e3 := H3.out
  all_goals have e4 := HQ.out
  all_goals unfold wrongW
  all_goals rw [e1, e2, e3]
  all_goals simp only [e4]
  all_goals refine congrArg Ending.returned (congrArg Value.bool (Bool.eq_iff_iff.2 ?_))
  all_goals simp_all
  all_goals try omega
theorem hasLong_any (k : Int) (ka va : Option Addr) (kn kc vn vc : Nat) (w : World) (x : Wr) (hkn : x.2.1.length = kn) (hvn : x.2.2.length = vn) : Calls Try.prog 68 #[.agg #[.int .i64 k, .slice ka kn kc, .slice va vn vc]] w fun e w' => e = .returned (.bool (longW x)) ∧ Below w.heap.size w w' := by
  have H2 := hide hkn
  have H3 := hide hvn
  clear hkn hvn
  go_enter Try.func68, Try.ntmps68
  go_wp2_with fail
  all_goals go_ret
  all_goals refine ⟨?_, (Below.refl w.heap.size w).alloc (Nat.le_refl _) _⟩
  all_goals have e2 := H2.out
  all_goals have e3 := H3.out
  all_goals unfold longW
  all_goals rw [e2, e3]
  all_goals refine congrArg Ending.returned (congrArg Value.bool (Bool.eq_iff_iff.2 ?_))
  all_goals simp_all
  all_goals try omega
theorem last_any (s : Nat) (a : Option Addr) (n c : Nat) (w : World) : Calls Try.prog 69 #[.agg #[.int .u64 s, .slice a n c]] w fun e w' => e = .returned (.int .u64 (((s + n + 18446744073709551615) % 18446744073709551616 : Nat) : Int)) ∧ Below w.heap.size w w' := by
  go_enter Try.func69, Try.ntmps69
  go_wp2_with fail
  go_ret
  refine ⟨?_, (Below.refl w.heap.size w).alloc (Nat.le_refl _) _⟩
  exact congrArg Ending.returned (congrArg (Value.int .u64) (by rw [IntKind.wrap_u64, IntKind.wrap_u64, IntKind.wrap_u64]; omega))
theorem pieceSize_any (a : Option Addr) (n c : Nat) (hn : n ≤ 100000) (w : World) : Calls Try.prog 74 #[.slice a n c] w fun e w' => e = .returned (.int .i64 (szN n + n)) ∧ w' = w := by
  have hz := szN_le n
  go_enter Try.func74, Try.ntmps74
  go_wp2_with fail
  refine (size_any n (by omega) _).mono ?_
  rintro e w1 ⟨rfl, rfl⟩
  go_wp2_with fail
  go_ret
  exact ⟨rfl, rfl⟩
end Go.Proofs.Ytkeglaplckfllaa
