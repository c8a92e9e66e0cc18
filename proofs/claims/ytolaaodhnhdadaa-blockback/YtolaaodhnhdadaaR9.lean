/-
  The document's CheckEntry.
-/
import Derived.Test.YtolaaodhnhdadaaR8
namespace Go.Proofs.Ytolaaodhnhdadaa
open Go.RowKit
set_option maxRecDepth 100000
set_option maxHeartbeats 4000000
theorem rodd_any (k : Int) (ka va : Option Addr) (kn kc vn vc : Nat) (w : World) (e : Ent) (hk : e.kind = k) (hkn : e.key.length = kn) (hvn : e.val.length = vn) :
    Calls Try.prog 28 #[.int .i64 k, .slice ka kn kc, .slice va vn vc] w fun r w' => r = .returned (.bool (wrongW (e.kind, e.key, e.val))) ∧ w' = w := by
  have H1 := hide hk
  have H2 := hide hkn
  have H3 := hide hvn
  have hkz : ((kn : Int) == 0) = (kn == 0) := Bool.eq_iff_iff.2 (by simp)
  have hvz : decide ((0 : Int) < (vn : Int)) = decide (0 < vn) := Bool.eq_iff_iff.2 (by simp)
  have HKZ := hide hkz
  have HVZ := hide hvz
  clear hk hkn hvn hkz hvz
  by_cases c1 : k = 1
  · subst c1
    go_enter Try.func28, Try.ntmps28
    go_wp2_with fail
    all_goals go_ret
    all_goals refine ⟨?_, rfl⟩
    all_goals unfold wrongW
    all_goals rw [H1.out, H2.out, H3.out]
    all_goals refine congrArg Ending.returned (congrArg Value.bool ?_)
    all_goals have e1 := HKZ.out
    all_goals have e2 := HVZ.out
    all_goals clear HKZ HVZ H1 H2 H3
    all_goals first | (simp_all; done) | (rw [e1]; simp_all; done) | (rw [e1, e2]; simp_all; done) | (rw [e2]; simp_all; done)
  · by_cases c2 : k = 2
    · subst c2
      go_enter Try.func28, Try.ntmps28
      go_wp2_with fail
      all_goals go_ret
      all_goals refine ⟨?_, rfl⟩
      all_goals unfold wrongW
      all_goals rw [H1.out, H2.out, H3.out]
      all_goals refine congrArg Ending.returned (congrArg Value.bool ?_)
      all_goals have e1 := HKZ.out
      all_goals have e2 := HVZ.out
      all_goals clear HKZ HVZ H1 H2 H3
      all_goals first | (simp_all; done) | (rw [e1]; simp_all; done) | (rw [e1, e2]; simp_all; done) | (rw [e2]; simp_all; done)
    · have c1' : (k == 1) = false := by simpa using c1
      have c2' : (k == 2) = false := by simpa using c2
      go_enter Try.func28, Try.ntmps28
      go_wp2_with fail
      all_goals go_ret
      all_goals refine ⟨?_, rfl⟩
      all_goals unfold wrongW
      all_goals rw [H1.out, H2.out, H3.out]
      all_goals refine congrArg Ending.returned (congrArg Value.bool ?_)
      all_goals have e1 := HKZ.out
      all_goals have e2 := HVZ.out
      all_goals clear HKZ HVZ H1 H2 H3
      all_goals first | (simp_all; done) | (rw [e1]; simp_all; done) | (rw [e1, e2]; simp_all; done) | (rw [e2]; simp_all; done)
theorem rlong_any (ka va : Option Addr) (kn kc vn vc : Nat) (w : World) (e : Ent) (hkn : e.key.length = kn) (hvn : e.val.length = vn) :
    Calls Try.prog 29 #[.slice ka kn kc, .slice va vn vc] w fun r w' => r = .returned (.bool (longW (e.kind, e.key, e.val))) ∧ w' = w := by
  have H2 := hide hkn
  have H3 := hide hvn
  clear hkn hvn
  go_enter Try.func29, Try.ntmps29
  go_wp2_with fail
  all_goals go_ret
  all_goals refine ⟨?_, rfl⟩
  all_goals unfold longW
  all_goals rw [H2.out, H3.out]
  all_goals refine congrArg Ending.returned (congrArg Value.bool (Bool.eq_iff_iff.2 ?_))
  all_goals simp_all
  all_goals try omega
theorem chk1_eq (e : Ent) : chk1 e = if wrongW (e.kind, e.key, e.val) = true ∨ e.seq = 0 then 2 else if longW (e.kind, e.key, e.val) = true ∨ 72057594037927935 < e.seq then 3 else 0 := by
  unfold chk1 chk
  simp only [List.any_cons, List.any_nil, Bool.or_false, List.length_singleton]
  by_cases h1 : e.seq = 0
  · simp [h1]
  · by_cases h2 : wrongW (e.kind, e.key, e.val) = true
    · simp [h2]
    · simp only [h1, h2, or_false, if_false, reduceCtorEq]
      by_cases h3 : longW (e.kind, e.key, e.val) = true
      · simp [h3]
      · by_cases h4 : 72057594037927935 < e.seq
        · simp [h4]
        · rw [if_neg (by rintro (q | q | q); exact h3 q; exact h4 q; omega), if_neg (by rintro (q | q); exact h3 q; exact h4 q)]
theorem rcheck_any (x : Tow) (w : World) : Calls Try.prog 12 #[.agg #[x.kv, .int .u64 (x.e.seq : Nat), .int .i64 x.e.kind, x.vv]] w fun r w' => r = .returned (.int .i64 (chk1 x.e)) ∧ Below w.heap.size w w' := by
  obtain ⟨ka, kc, va, vc, e⟩ := x
  have hv := chk1_eq e
  have HV := hide hv
  have b0 := (Below.refl w.heap.size w).alloc (Nat.le_refl _) (.cells #[.slice ka e.key.length kc, .int .u64 (e.seq : Nat), .int .i64 e.kind, .slice va e.val.length vc] 28)
  have B0 := hide b0
  have HO := hide (fun u => rodd_any e.kind ka va e.key.length kc e.val.length vc u e rfl rfl rfl)
  have HLG := hide (fun u => rlong_any ka va e.key.length kc e.val.length vc u e rfl rfl)
  simp only [Tow.kv, Tow.vv]
  clear hv b0
  generalize hw1 : wrongW (e.kind, e.key, e.val) = p1 at *
  generalize hw2 : longW (e.kind, e.key, e.val) = p2 at *
  generalize hs : e.seq = s at *
  clear hw1 hw2 hs
  go_enter Try.func12, Try.ntmps12
  go_wp2_with fail
  refine (HO.out _).mono ?_
  rintro r w1 ⟨rfl, rfl⟩
  cases p1
  · by_cases h0 : s = 0
    · subst h0
      go_wp2_with fail
      go_ret
      go_light
      exact ⟨by rw [HV.out]; rfl, B0.out⟩
    · have h0' : ¬ (s : Int) = 0 := by omega
      go_wp2_with fail
      refine (HLG.out _).mono ?_
      rintro r w2 ⟨rfl, rfl⟩
      cases p2
      · by_cases h4 : 72057594037927935 < s
        · have h4' : (72057594037927935 : Int) < (s : Int) := by omega
          go_wp2_with fail
          go_ret
          go_light
          exact ⟨by rw [HV.out, if_neg (by simp [h0]), if_pos (.inr h4)]; rfl, B0.out⟩
        · have h4' : ¬ (72057594037927935 : Int) < (s : Int) := by omega
          go_wp2_with fail
          go_ret
          go_light
          exact ⟨by rw [HV.out, if_neg (by simp [h0]), if_neg (by simp; omega)]; rfl, B0.out⟩
      · go_wp2_with fail
        go_ret
        go_light
        exact ⟨by rw [HV.out, if_neg (by simp [h0]), if_pos (by simp)]; rfl, B0.out⟩
  · go_wp2_with fail
    go_ret
    go_light
    exact ⟨by rw [HV.out, if_pos (by simp)]; rfl, B0.out⟩
end Go.Proofs.Ytolaaodhnhdadaa
