/-
  What may be a file's name: the code's answer and the document's, of any text.
-/
import Derived.Test.YtefjljdgdoklmaaV1
namespace Go.Proofs.Ytefjljdgdoklmaa
open Go.RowKit

/-- May a byte be in a name? -/
def goodB (c : UInt8) : Bool := (97 ≤ c.toNat && c.toNat ≤ 122) || (48 ≤ c.toNat && c.toNat ≤ 57) || c.toNat == 45 || c.toNat == 46
/-- May a text be a name? -/
def goodN (s : ByteArray) : Bool := decide (1 ≤ s.size) && decide (s.size ≤ 64) && s.data.toList.all goodB

theorem ret_bool {b x : Bool} (h : b = x) : Ending.returned (.bool b) = .returned (.bool x) := by rw [h]

set_option maxRecDepth 100000 in
set_option maxHeartbeats 1000000 in
theorem stands_any (c : UInt8) (w : World) :
    Calls Try.prog 54 #[.int .u8 (c.toNat : Int)] w fun e w' => e = .returned (.bool (goodB c)) ∧ w' = w := by
  go_enter Try.func54, Try.ntmps54
  go_wp2
  all_goals
    go_ret
    refine ⟨ret_bool (x := goodB c) ?_, rfl⟩
    rw [Bool.eq_iff_iff]
    simp [goodB]
    try omega

theorem all_good (s : ByteArray) : s.data.toList.all goodB = true ↔ ∀ j (hj : j < s.size), goodB s[j] = true := by
  rw [List.all_eq_true]
  constructor
  · intro h j hj
    exact h _ (by rw [show s[j] = s.data[j] from rfl]; exact Array.mem_toList_iff.2 (Array.getElem_mem hj))
  · intro h x hx
    obtain ⟨j, hj, rfl⟩ := Array.mem_iff_getElem.1 (Array.mem_toList_iff.1 hx)
    exact h j hj

set_option maxRecDepth 100000 in
set_option maxHeartbeats 1000000 in
theorem name_any (s : ByteArray) (w : World) :
    Calls Try.prog 22 #[.string s] w fun e w' => e = .returned (.bool (goodN s)) ∧ w' = w := by
  by_cases hlen : 1 ≤ s.size ∧ s.size ≤ 64
  · obtain ⟨l1, l2⟩ := hlen
    have g1 : ¬ (s.size : Int) < 1 := by omega
    have g2 : ¬ (64 : Int) < (s.size : Int) := by omega
    have hgn : goodN s = s.data.toList.all goodB := by unfold goodN; rw [decide_eq_true l1, decide_eq_true l2]; rfl
    have HGN := hide hgn
    clear hgn
    go_enter Try.func22, Try.ntmps22
    go_wp2
    go_loopw [14] (fun iv wr => ∃ k : Nat, iv = .int .i64 (k : Nat) ∧ k ≤ s.size ∧ (∀ j (_ : j < s.size), j < k → goodB s[j] = true) ∧ wr = w) (fun iv _ => s.size - (intOf iv).toNat)
    case atStart => exact ⟨0, rfl, Nat.zero_le _, fun j _ hj => by omega, rfl⟩
    case round =>
      obtain ⟨k, rfl, hk, hall, rfl⟩ := hrel
      have HA := hide hall
      clear hall
      by_cases hkn : k < s.size
      · have i1 : (k : Int) < (s.size : Int) := by omega
        go_wp2_with fail
        refine (stands_any _ _).mono ?_
        rintro e w1 ⟨rfl, rfl⟩
        by_cases hg : goodB s[k] = true
        · rw [hg]
          go_wp2_with fail
          go_roundw
          case rel =>
            refine ⟨k + 1, by go_num, by omega, fun j hj hjk => ?_, by trivial⟩
            rcases Nat.lt_or_ge j k with h | h
            · exact HA.out j hj h
            · obtain rfl : j = k := by omega
              exact hg
          case measure => simp [intOf]; omega
        · rw [Bool.not_eq_true] at hg
          have HG := hide hg
          rw [hg]
          clear hg
          go_wp2_with fail
          go_ret
          refine ⟨ret_bool (x := goodN s) ?_, rfl⟩
          rw [HGN.out, eq_comm, Bool.eq_false_iff]
          intro h
          have := (all_good s).1 h k hkn
          rw [HG.out] at this
          cases this
      · obtain rfl : k = s.size := by omega
        go_wp2_with fail
        go_ret
        refine ⟨ret_bool (x := goodN s) ?_, rfl⟩
        rw [HGN.out, eq_comm]
        exact (all_good s).2 fun j hj => HA.out j hj hj
  · have hgn : goodN s = false := by
      unfold goodN
      rw [Bool.and_eq_false_iff, Bool.and_eq_false_iff]
      left
      rcases Nat.lt_or_ge s.size 1 with h | h
      · left
        exact decide_eq_false (by omega)
      · right
        exact decide_eq_false (by omega)
    have HGN := hide hgn
    clear hgn
    by_cases h1 : s.size < 1
    · have g1 : (s.size : Int) < 1 := by omega
      go_enter Try.func22, Try.ntmps22
      go_wp2
      go_ret
      exact ⟨by rw [HGN.out]; rfl, rfl⟩
    · have g1 : ¬ (s.size : Int) < 1 := by omega
      have g2 : (64 : Int) < (s.size : Int) := by omega
      go_enter Try.func22, Try.ntmps22
      go_wp2
      go_ret
      exact ⟨by rw [HGN.out]; rfl, rfl⟩

theorem byteClass (c : Nat) : (97 ≤ c ∧ c ≤ 122) ∨ (48 ≤ c ∧ c ≤ 57) ∨ c = 45 ∨ c = 46 ∨ 122 < c ∨ (57 < c ∧ c < 97) ∨ (c < 48 ∧ c ≠ 45 ∧ c ≠ 46) := by omega

set_option maxRecDepth 100000 in
set_option maxHeartbeats 2000000 in
theorem rname_any (s : ByteArray) (w : World) (hs : s.size ≤ 1000) :
    Calls Try.prog 28 #[.string s] w fun e w' => e = .returned (.bool (goodN s)) ∧ w' = w := by
  go_enter Try.func28, Try.ntmps28
  go_wp2
  go_loopw [3] (fun iv wr => ∃ k : Nat, iv = .int .i64 (k : Nat) ∧ k ≤ s.size ∧ (∀ j (_ : j < s.size), j < k → goodB s[j] = true) ∧ wr = w) (fun iv _ => s.size - (intOf iv).toNat)
  case atStart => exact ⟨0, rfl, Nat.zero_le _, fun j _ hj => by omega, rfl⟩
  case round =>
    obtain ⟨k, rfl, hk, hall, rfl⟩ := hrel
    have HA := hide hall
    clear hall
    by_cases hkn : k < s.size
    · have i1 : (k : Int) < (s.size : Int) := by omega
      have hgb : goodB s[k] = ((97 ≤ s[k].toNat && s[k].toNat ≤ 122) || (48 ≤ s[k].toNat && s[k].toNat ≤ 57) || s[k].toNat == 45 || s[k].toNat == 46) := rfl
      have hbad : goodB s[k] = false → goodN s = false := fun h => by
        rw [Bool.eq_false_iff]
        intro h2
        unfold goodN at h2
        rw [Bool.and_eq_true] at h2
        have := (all_good s).1 h2.2 k hkn
        rw [h] at this
        cases this
      have hgood : goodB s[k] = true → ∀ j (_ : j < s.size), j < k + 1 → goodB s[j] = true := fun hg j hj hjk => by
        rcases Nat.lt_or_ge j k with h | h
        · exact HA.out j hj h
        · obtain rfl : j = k := by omega
          exact hg
      have HGB := hide hgb
      have HBAD := hide hbad
      have HGOOD := hide hgood
      clear hgb hbad hgood
      rcases byteClass s[k].toNat with ⟨p1, p2⟩ | ⟨p1, p2⟩ | p1 | p1 | p1 | ⟨p1, p2⟩ | ⟨p1, p2, p3⟩
      all_goals
        try have f1 : (97 : Int) ≤ (s[k].toNat : Int) := by omega
        try have f2 : ¬ (97 : Int) ≤ (s[k].toNat : Int) := by omega
        try have f3 : (s[k].toNat : Int) ≤ 122 := by omega
        try have f4 : ¬ (s[k].toNat : Int) ≤ 122 := by omega
        try have f5 : (48 : Int) ≤ (s[k].toNat : Int) := by omega
        try have f6 : ¬ (48 : Int) ≤ (s[k].toNat : Int) := by omega
        try have f7 : (s[k].toNat : Int) ≤ 57 := by omega
        try have f8 : ¬ (s[k].toNat : Int) ≤ 57 := by omega
        try have f9 : ((s[k].toNat : Int) == 45) = true := by rw [beq_iff_eq]; omega
        try have f10 : ((s[k].toNat : Int) == 45) = false := by rw [beq_eq_false_iff_ne]; omega
        try have f11 : ((s[k].toNat : Int) == 46) = true := by rw [beq_iff_eq]; omega
        try have f12 : ((s[k].toNat : Int) == 46) = false := by rw [beq_eq_false_iff_ne]; omega
        go_wp2_with fail
      all_goals first
        | (go_ret
           refine ⟨ret_bool (x := goodN s) ?_, rfl⟩
           rw [HBAD.out (by rw [HGB.out, Bool.eq_false_iff]; simp; omega)])
        | (refine ⟨⟨k + 1, by go_num, by omega, HGOOD.out (by rw [HGB.out]; simp; omega), by trivial⟩, ?_⟩
           simp [intOf]
           omega)
    · obtain rfl : k = s.size := by omega
      have hgn : goodN s = (decide (1 ≤ s.size) && decide (s.size ≤ 64)) := by
        unfold goodN
        rw [(all_good s).2 fun j hj => HA.out j hj hj, Bool.and_true]
      have HGN := hide hgn
      clear hgn
      by_cases h1 : 1 ≤ s.size
      · by_cases h2 : s.size ≤ 64
        · have g1 : (1 : Int) ≤ (s.size : Int) := by omega
          have g2 : (s.size : Int) ≤ 64 := by omega
          go_wp2_with fail
          go_ret
          exact ⟨by rw [HGN.out, decide_eq_true h1, decide_eq_true h2]; rfl, rfl⟩
        · have g1 : (1 : Int) ≤ (s.size : Int) := by omega
          have g2 : ¬ (s.size : Int) ≤ 64 := by omega
          go_wp2_with fail
          go_ret
          exact ⟨by rw [HGN.out, decide_eq_true h1, decide_eq_false h2]; rfl, rfl⟩
      · have g1 : ¬ (1 : Int) ≤ (s.size : Int) := by omega
        go_wp2_with fail
        go_ret
        exact ⟨by rw [HGN.out, decide_eq_false h1]; rfl, rfl⟩
end Go.Proofs.Ytefjljdgdoklmaa
