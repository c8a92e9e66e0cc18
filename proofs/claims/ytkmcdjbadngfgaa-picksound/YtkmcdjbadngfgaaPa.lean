/-
  A setup, a bound, a score.
-/
import Derived.Test.YtkmcdjbadngfgaaWh
namespace Go.Proofs.Ytkmcdjbadngfgaa
open Go.RowKit
set_option maxRecDepth 100000
set_option maxHeartbeats 4000000
def setAgg (t b f : Int) : Value := .agg #[.int .i64 t, .int .i64 b, .int .i64 f]
def setBad (t b f : Int) : Bool := decide (t < 1) || decide (100 < t) || decide (b < 1) || decide (1073741824 < b) || decide (f < 2) || decide (100 < f)
def setE (t b f : Int) : Int := if setBad t b f then 2 else 0
theorem setBad_false {t b f : Int} (h : setBad t b f = false) : 1 ≤ t ∧ t ≤ 100 ∧ 1 ≤ b ∧ b ≤ 1073741824 ∧ 2 ≤ f ∧ f ≤ 100 := by
  unfold setBad at h
  simp only [Bool.or_eq_false_iff, decide_eq_false_iff_not] at h
  omega
theorem checkSetup_any (t b f : Int) (w : World) : Calls Try.prog 13 #[setAgg t b f] w fun e w' => e = .returned (.int .i64 (setE t b f)) ∧ Turns (fun _ => False) w w' := by
  have TA := hide ((Turns.refl (fun _ => False) w).alloc (.cells #[.int .i64 t, .int .i64 b, .int .i64 f] 35))
  have HE := hide (show setE t b f = if setBad t b f then 2 else 0 from rfl)
  have HB := hide (show setBad t b f = (decide (t < 1) || decide (100 < t) || decide (b < 1) || decide (1073741824 < b) || decide (f < 2) || decide (100 < f)) from rfl)
  unfold setAgg
  generalize setE t b f = E at *
  generalize setBad t b f = BD at *
  by_cases h1 : t < 1
  · go_enter Try.func13, Try.ntmps13
    go_wp2_with fail
    go_ret
    exact ⟨by rw [HE.out, HB.out]; simp [h1], TA.out⟩
  by_cases h2 : 100 < t
  · go_enter Try.func13, Try.ntmps13
    go_wp2_with fail
    go_ret
    exact ⟨by rw [HE.out, HB.out]; simp [h2], TA.out⟩
  by_cases h3 : b < 1
  · go_enter Try.func13, Try.ntmps13
    go_wp2_with fail
    go_ret
    exact ⟨by rw [HE.out, HB.out]; simp [h3], TA.out⟩
  by_cases h4 : 1073741824 < b
  · go_enter Try.func13, Try.ntmps13
    go_wp2_with fail
    go_ret
    exact ⟨by rw [HE.out, HB.out]; simp [h4], TA.out⟩
  by_cases h5 : f < 2
  · go_enter Try.func13, Try.ntmps13
    go_wp2_with fail
    go_ret
    exact ⟨by rw [HE.out, HB.out]; simp [h5], TA.out⟩
  by_cases h6 : 100 < f
  · go_enter Try.func13, Try.ntmps13
    go_wp2_with fail
    go_ret
    exact ⟨by rw [HE.out, HB.out]; simp [h6], TA.out⟩
  · go_enter Try.func13, Try.ntmps13
    go_wp2_with fail
    go_ret
    exact ⟨by rw [HE.out, HB.out]; simp [h1, h2, h3, h4, h5, h6], TA.out⟩
def boundP (t b f z : Int) : Int := if setBad t b f || decide (z < 0) || decide (4 ≤ z) then 0 else if z = 0 then t else b * f ^ (z - 1).toNat
theorem pow_le {f : Int} (h2 : 2 ≤ f) (h3 : f ≤ 100) : ∀ k : Nat, k ≤ 2 → 1 ≤ f ^ k ∧ f ^ k ≤ 10000
  | 0, _ => by rw [Int.pow_zero]; omega
  | 1, _ => by rw [Int.pow_succ, Int.pow_zero, Int.one_mul]; omega
  | 2, _ => by
    have e : f ^ 2 = f * f := by rw [Int.pow_succ, Int.pow_succ, Int.pow_zero, Int.one_mul]
    have a1 : f * f ≤ 100 * 100 := Int.mul_le_mul h3 h3 (by omega) (by omega)
    have a2 : 2 * 2 ≤ f * f := Int.mul_le_mul h2 h2 (by omega) (by omega)
    omega
theorem boundP_pos {t b f z : Int} (h : setBad t b f = false) (h0 : 0 ≤ z) (h1 : z < 4) : 1 ≤ boundP t b f z ∧ boundP t b f z ≤ 10737418240000 := by
  obtain ⟨a1, a2, a3, a4, a5, a6⟩ := setBad_false h
  unfold boundP
  rw [h]
  have n0 : ¬ z < 0 := by omega
  have n1 : ¬ 4 ≤ z := by omega
  simp only [n0, n1, decide_false, Bool.or_false, Bool.false_eq_true, if_false]
  split
  · omega
  · obtain ⟨p1, p2⟩ := pow_le a5 a6 (z - 1).toNat (by omega)
    have m1 : b * f ^ (z - 1).toNat ≤ 1073741824 * 10000 := Int.mul_le_mul a4 p2 (by omega) (by omega)
    have m2 : 1 * 1 ≤ b * f ^ (z - 1).toNat := Int.mul_le_mul a3 p1 (by omega) (by omega)
    omega
theorem wrap64_of {X : Int} (h1 : -9223372036854775808 ≤ X) (h2 : X < 9223372036854775808) : wrap64 X = X := by unfold wrap64; omega
theorem wrap64_in {X : Int} (h1 : 1 * 1 ≤ X) (h2 : X ≤ 1073741824 * 10000) : wrap64 X = X := wrap64_of (by omega) (by omega)
theorem bound_any (t b f z : Int) (w : World) : Calls Try.prog 11 #[setAgg t b f, .int .i64 z] w fun e w' => e = .returned (.int .i64 (boundP t b f z)) ∧ Turns (fun _ => False) w w' := by
  have TA := hide ((Turns.refl (fun _ => False) w).alloc (.cells #[.int .i64 t, .int .i64 b, .int .i64 f] 35))
  have R0 := hide (heap_alloc_new w (.cells #[.int .i64 t, .int .i64 b, .int .i64 f] 35))
  have CS := hide (checkSetup_any t b f (w.alloc (.cells #[.int .i64 t, .int .i64 b, .int .i64 f] 35)))
  have HE := hide (show setE t b f = if setBad t b f then 2 else 0 from rfl)
  have HB := hide (show boundP t b f z = if setBad t b f || decide (z < 0) || decide (4 ≤ z) then 0 else if z = 0 then t else b * f ^ (z - 1).toNat from rfl)
  have HS := hide (@setBad_false t b f)
  unfold setAgg at *
  generalize boundP t b f z = BP at *
  generalize setE t b f = E at *
  generalize setBad t b f = BD at *
  go_enter Try.func11, Try.ntmps11
  go_wp2_with fail
  refine CS.out.mono ?_
  rintro e w1 ⟨rfl, t1⟩
  have T1 := hide (TA.out.trans t1)
  have R1 := t1.heap R0.out (fun x => x)
  have q0 := cell_of_row w1 w.heap.size 0 _ 35 (0, 0) R1
  have q1 := cell_of_row w1 w.heap.size 1 _ 35 (0, 0) R1
  have q2 := cell_of_row w1 w.heap.size 2 _ 35 (0, 0) R1
  clear R1 t1 CS
  generalize hP : w.heap.size = P at *
  clear hP
  cases BD with
  | true =>
    have hE : E = 2 := by rw [HE.out]; rfl
    subst hE
    go_wp2_with fail
    go_ret
    exact ⟨by rw [HB.out]; simp, T1.out⟩
  | false =>
    have hE : E = 0 := by rw [HE.out]; rfl
    subst hE
    by_cases z0 : z < 0
    · go_wp2_with fail
      go_ret
      exact ⟨by rw [HB.out]; simp [z0], T1.out⟩
    by_cases z4 : 4 ≤ z
    · go_wp2_with fail
      go_ret
      exact ⟨by rw [HB.out]; simp [z4], T1.out⟩
    by_cases z1 : z = 0
    · have HB1 := hide (show BP = t by rw [HB.out]; simp [z1])
      clear HB
      go_wp2_with fail
      go_ret
      exact ⟨by rw [HB1.out]; rfl, T1.out⟩
    · have HB1 := hide (show BP = b * f ^ (z - 1).toNat by rw [HB.out]; simp [z0, z1, z4])
      clear HB
      obtain ⟨a1, a2, a3, a4, a5, a6⟩ := HS.out rfl
      have hz1 : IntKind.i64.wrap (z - 1) = z - 1 := wrapI _ (by omega) (by omega)
      obtain ⟨n, rfl⟩ : ∃ n : Nat, z = (n : Int) + 1 := ⟨(z - 1).toNat, by omega⟩
      have hn : n ≤ 2 := by omega
      have PW := hide (fun k h => pow_le a5 a6 k h)
      clear hz1
      go_wp2_with fail
      go_loopw [5, 23] (fun v i wr => ∃ k : Nat, i = .int .i64 (k : Nat) ∧ v = .int .i64 (b * f ^ k) ∧ k ≤ n ∧ Turns (fun _ => False) w1 wr) (fun _ i _ => n - (intOf i).toNat)
      case atStart => exact ⟨0, rfl, by simp, Nat.zero_le _, Turns.refl _ _⟩
      case round =>
        obtain ⟨k, rfl, rfl, hk, tr⟩ := hrel
        have TR := hide tr
        have q2' := tr.cell q2 (fun x => x)
        clear tr
        by_cases hkn : k < n
        · have HM := hide (show wrap64 (b * f ^ k * f) = b * f ^ (k + 1) by
            have e : b * f ^ (k + 1) = b * f ^ k * f := by rw [Int.pow_succ, Int.mul_assoc]
            obtain ⟨p1, p2⟩ := PW.out (k + 1) (by omega)
            have m1 : b * f ^ (k + 1) ≤ 1073741824 * 10000 := Int.mul_le_mul a4 p2 (Int.le_trans (by decide) p1) (by decide)
            have m2 : 1 * 1 ≤ b * f ^ (k + 1) := Int.mul_le_mul a3 p1 (by decide) (by omega)
            rw [← e]; exact wrap64_in m2 m1)
          go_wp2_with fail
          go_roundw
          case rel => exact ⟨k + 1, by go_num, by rw [HM.out], by omega, TR.out⟩
          case measure => simp [intOf]; omega
        · obtain rfl : k = n := by omega
          go_wp2_with fail
          go_ret
          exact ⟨by rw [HB1.out, show ((k : Int) + 1 - 1).toNat = k by omega]; rfl, T1.out.trans TR.out⟩
theorem pcheck_any (a : Option Addr) (n c next seq log : Nat) (L : List Lv) (t b f : Int) (w : World) (h : VerIn w a n L next seq log) :
    Calls Try.prog 25 #[verAgg a n c next seq log, setAgg t b f] w fun e w' => e = .returned (.int .i64 (if wrongVF (flL L) next seq log || setBad t b f then 2 else 0)) ∧ Turns (fun _ => False) w w' := by
  have TA := hide (((Turns.refl (fun _ => False) w).alloc (.cells #[.slice a n c, .int .u64 (next : Nat), .int .u64 (seq : Nat), .int .u64 (log : Nat)] 25)).alloc (.cells #[.int .i64 t, .int .i64 b, .int .i64 f] 35))
  have R1 := hide (heap_alloc_new (w.alloc (.cells #[.slice a n c, .int .u64 (next : Nat), .int .u64 (seq : Nat), .int .u64 (log : Nat)] 25)) (.cells #[.int .i64 t, .int .i64 b, .int .i64 f] 35))
  have CK := hide (check_any a n c next seq log L _ (h.quiet TA.out))
  have CS := hide (checkSetup_any t b f)
  have HC := hide (show chkV L next seq log = if wrongV L next seq log then 2 else 0 from rfl)
  have HE := hide (show setE t b f = if setBad t b f then 2 else 0 from rfl)
  have HW := hide (wrongV_F L next seq log)
  obtain ⟨RV, HRV⟩ : ∃ r : Int, r = if wrongVF (flL L) next seq log || setBad t b f then 2 else 0 := ⟨_, rfl⟩
  rw [← HRV]
  have HR := hide HRV
  clear HRV
  simp only [World.size_alloc] at R1
  unfold verAgg setAgg at *
  clear h
  generalize chkV L next seq log = CV at *
  generalize wrongVF (flL L) next seq log = WV at *
  generalize setE t b f = E at *
  generalize setBad t b f = BD at *
  go_enter Try.func25, Try.ntmps25
  go_wp2_with fail
  refine CK.out.mono ?_
  rintro e w1 ⟨rfl, t1⟩
  have T1 := hide (TA.out.trans t1)
  have r1 := t1.heap R1.out (fun x => x)
  have q0 := cell_of_row w1 (w.heap.size + 1) 0 _ 35 (0, 0) r1
  have q1 := cell_of_row w1 (w.heap.size + 1) 1 _ 35 (0, 0) r1
  have q2 := cell_of_row w1 (w.heap.size + 1) 2 _ 35 (0, 0) r1
  clear r1 t1 CK
  cases WV with
  | true =>
    have hV : CV = 2 := by rw [HC.out, HW.out]; rfl
    subst hV
    go_wp2_with fail
    go_ret
    exact ⟨by rw [HR.out]; rfl, T1.out⟩
  | false =>
    have hV : CV = 0 := by rw [HC.out, HW.out]; rfl
    subst hV
    go_wp2_with fail
    refine (CS.out _).mono ?_
    rintro e w2 ⟨rfl, t2⟩
    have T2 := hide (T1.out.trans t2)
    clear t2
    go_wp2_with fail
    go_ret
    exact ⟨by rw [HR.out, HE.out]; rfl, T2.out⟩
end Go.Proofs.Ytkmcdjbadngfgaa
