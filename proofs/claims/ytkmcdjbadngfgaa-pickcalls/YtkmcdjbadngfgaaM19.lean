import Derived.Test.YtkmcdjbadngfgaaM16
import Derived.Test.YtkmcdjbadngfgaaM18
/-
  The document's side: setups, bounds, parts.
-/
namespace Go.Proofs.Ytkmcdjbadngfgaa
open Go.RowKit
set_option maxRecDepth 100000
set_option maxHeartbeats 4000000
theorem rcheckSetup_any (t b f : Int) (w : World) : Calls Try.prog 18 #[setAgg t b f] w fun e w' => e = .returned (.int .i64 (setE t b f)) ∧ Turns (fun _ => False) w w' := by
  have TA := hide ((Turns.refl (fun _ => False) w).alloc (.cells #[.int .i64 t, .int .i64 b, .int .i64 f] 35))
  have HE := hide (show setE t b f = if setBad t b f then 2 else 0 from rfl)
  have HB := hide (show setBad t b f = (decide (t < 1) || decide (100 < t) || decide (b < 1) || decide (1073741824 < b) || decide (f < 2) || decide (100 < f)) from rfl)
  unfold setAgg
  generalize setE t b f = E at *
  generalize setBad t b f = BD at *
  by_cases h1 : t < 1
  · go_enter Try.func18, Try.ntmps18
    go_wp2_with fail
    go_ret
    exact ⟨by rw [HE.out, HB.out]; simp [h1], TA.out⟩
  by_cases h2 : 100 < t
  · go_enter Try.func18, Try.ntmps18
    go_wp2_with fail
    go_ret
    exact ⟨by rw [HE.out, HB.out]; simp [h2], TA.out⟩
  by_cases h3 : b < 1
  · go_enter Try.func18, Try.ntmps18
    go_wp2_with fail
    go_ret
    exact ⟨by rw [HE.out, HB.out]; simp [h3], TA.out⟩
  by_cases h4 : 1073741824 < b
  · go_enter Try.func18, Try.ntmps18
    go_wp2_with fail
    go_ret
    exact ⟨by rw [HE.out, HB.out]; simp [h4], TA.out⟩
  by_cases h5 : f < 2
  · go_enter Try.func18, Try.ntmps18
    go_wp2_with fail
    go_ret
    exact ⟨by rw [HE.out, HB.out]; simp [h5], TA.out⟩
  by_cases h6 : 100 < f
  · go_enter Try.func18, Try.ntmps18
    go_wp2_with fail
    go_ret
    exact ⟨by rw [HE.out, HB.out]; simp [h6], TA.out⟩
  · go_enter Try.func18, Try.ntmps18
    go_wp2_with fail
    go_ret
    exact ⟨by rw [HE.out, HB.out]; simp [h1, h2, h3, h4, h5, h6], TA.out⟩
theorem rbound_any (t b f z : Int) (w : World) : Calls Try.prog 19 #[setAgg t b f, .int .i64 z] w fun e w' => e = .returned (.int .i64 (boundP t b f z)) ∧ Turns (fun _ => False) w w' := by
  have TA := hide ((Turns.refl (fun _ => False) w).alloc (.cells #[.int .i64 t, .int .i64 b, .int .i64 f] 35))
  have R0 := hide (heap_alloc_new w (.cells #[.int .i64 t, .int .i64 b, .int .i64 f] 35))
  have CS := hide (rcheckSetup_any t b f (w.alloc (.cells #[.int .i64 t, .int .i64 b, .int .i64 f] 35)))
  have HE := hide (show setE t b f = if setBad t b f then 2 else 0 from rfl)
  have HB := hide (show boundP t b f z = if setBad t b f || decide (z < 0) || decide (4 ≤ z) then 0 else if z = 0 then t else b * f ^ (z - 1).toNat from rfl)
  have HS := hide (@setBad_false t b f)
  unfold setAgg at *
  generalize boundP t b f z = BP at *
  generalize setE t b f = E at *
  generalize setBad t b f = BD at *
  go_enter Try.func19, Try.ntmps19
  go_wp2_with fail
  refine CS.out.mono ?_
  rintro e w1 ⟨rfl, t1⟩
  have T1 := hide (TA.out.trans t1)
  have R1 := t1.heap R0.out (fun x => x)
  have q0 := cell_of_row w1 w.heap.size 0 _ 35 (0, 0) R1
  have q1 := cell_of_row w1 w.heap.size 1 _ 35 (0, 0) R1
  have q2 := cell_of_row w1 w.heap.size 2 _ 35 (0, 0) R1
  clear R1 t1 CS
  generalize hP : w.heap.size = P at *
  clear hP
  cases BD with
  | true =>
    have hE : E = 2 := by rw [HE.out]; rfl
    subst hE
    go_wp2_with fail
    go_ret
    exact ⟨by rw [HB.out]; simp, T1.out⟩
  | false =>
    have hE : E = 0 := by rw [HE.out]; rfl
    subst hE
    by_cases z0 : z < 0
    · go_wp2_with fail
      go_ret
      exact ⟨by rw [HB.out]; simp [z0], T1.out⟩
    by_cases z4 : 4 ≤ z
    · go_wp2_with fail
      go_ret
      exact ⟨by rw [HB.out]; simp [z4], T1.out⟩
    by_cases z1 : z = 0
    · have HB1 := hide (show BP = t by rw [HB.out]; simp [z1])
      clear HB
      have z0' : ¬ z < 0 := z0
      go_wp2_with fail
      go_ret
      exact ⟨by rw [HB1.out]; rfl, T1.out⟩
    · have HB1 := hide (show BP = b * f ^ (z - 1).toNat by rw [HB.out]; simp [z0, z1, z4])
      clear HB
      obtain ⟨a1, a2, a3, a4, a5, a6⟩ := HS.out rfl
      obtain ⟨n, rfl⟩ : ∃ n : Nat, z = (n : Int) + 1 := ⟨(z - 1).toNat, by omega⟩
      have hn : n ≤ 2 := by omega
      have PW := hide (fun k h => pow_le a5 a6 k h)
      go_wp2_with fail
      go_loopw [5, 6] (fun v i wr => ∃ k : Nat, i = .int .i64 ((k : Nat) + 1 : Int) ∧ v = .int .i64 (b * f ^ k) ∧ k ≤ n ∧ Turns (fun _ => False) w1 wr) (fun _ i _ => n + 1 - (intOf i).toNat)
      case atStart => exact ⟨0, rfl, by simp, Nat.zero_le _, Turns.refl _ _⟩
      case round =>
        obtain ⟨k, rfl, rfl, hk, tr⟩ := hrel
        have TR := hide tr
        have q2' := tr.cell q2 (fun x => x)
        clear tr
        by_cases hkn : k < n
        · have HM := hide (show wrap64 (b * f ^ k * f) = b * f ^ (k + 1) ∧ min 1152921504606846976 (b * f ^ (k + 1)) = b * f ^ (k + 1) by
            have e : b * f ^ (k + 1) = b * f ^ k * f := by rw [Int.pow_succ, Int.mul_assoc]
            obtain ⟨p1, p2⟩ := PW.out (k + 1) (by omega)
            have m1 : b * f ^ (k + 1) ≤ 1073741824 * 10000 := Int.mul_le_mul a4 p2 (Int.le_trans (by decide) p1) (by decide)
            have m2 : 1 * 1 ≤ b * f ^ (k + 1) := Int.mul_le_mul a3 p1 (by decide) (by omega)
            exact ⟨by rw [← e]; exact wrap64_in m2 m1, Int.min_eq_right (Int.le_trans m1 (by decide))⟩)
          have hki : (k : Int) + 1 < n + 1 := by omega
          have hk1 : wrap64 ((k : Int) + 1 + 1) = ((k + 1 : Nat) : Int) + 1 := by rw [wrap64_of (by omega) (by omega)]; omega
          go_wp2_with fail
          go_roundw
          case rel => exact ⟨k + 1, by go_num, by rw [HM.out.1, HM.out.2], by omega, TR.out⟩
          case measure => simp [intOf]; omega
        · obtain rfl : k = n := by omega
          go_wp2_with fail
          go_ret
          exact ⟨by rw [HB1.out, show ((k : Int) + 1 - 1).toNat = k by omega]; rfl, T1.out.trans TR.out⟩
end Go.Proofs.Ytkmcdjbadngfgaa

/-
  The document's side: parts, scores.
-/
namespace Go.Proofs.Ytkmcdjbadngfgaa
open Go.RowKit
set_option maxRecDepth 100000
set_option maxHeartbeats 4000000
theorem part_eq {n b : Int} (hb : 1 ≤ b) : n / b * 100 + n % b * 100 / b = n * 100 / b := by
  have h : n = b * (n / b) + n % b := (Int.mul_ediv_add_emod n b).symm
  have e : n * 100 = n % b * 100 + b * (n / b * 100) := by
    conv => lhs; rw [h]
    rw [Int.add_mul, Int.mul_assoc]
    omega
  rw [e, Int.add_mul_ediv_left _ _ (by omega)]
  omega
theorem part_any (n b : Int) (h0 : 0 ≤ n) (h1 : n ≤ 100000000000) (hb : 1 ≤ b) (hb2 : b ≤ 10737418240000) (w : World) : Calls Try.prog 37 #[.int .i64 n, .int .i64 b] w fun e w' => e = .returned (.int .i64 (n * 100 / b)) ∧ Turns (fun _ => False) w w' := by
  have t0 : ¬ b = 0 := by omega
  have a1 : 0 ≤ n / b := Int.ediv_nonneg h0 (by omega)
  have a2 : n / b ≤ n := Int.ediv_le_self b h0
  have a3 : 0 ≤ n % b := Int.emod_nonneg n t0
  have a4 : n % b < b := Int.emod_lt_of_pos n (by omega)
  have a5 : 0 ≤ n % b * 100 / b := Int.ediv_nonneg (by omega) (by omega)
  have a6 : n % b * 100 / b ≤ n % b * 100 := Int.ediv_le_self b (by omega)
  have HP := hide (part_eq (n := n) hb)
  have e3 : (n % b * 100).tdiv b = n % b * 100 / b := Int.tdiv_eq_ediv_of_nonneg (by omega)
  have HV := hide (show wrap64 (wrap64 (n / b * 100) + wrap64 ((wrap64 (n % b * 100)).tdiv b)) = n * 100 / b by
    rw [wrap64_of (X := n / b * 100) (by omega) (by omega), wrap64_of (X := n % b * 100) (by omega) (by omega), e3, wrap64_of (X := n % b * 100 / b) (by omega) (by omega), wrap64_of (by omega) (by omega)]
    exact HP.out)
  clear a1 a2 a3 a4 a5 a6 e3 HP
  go_enter Try.func37, Try.ntmps37
  go_wp2_with fail
  go_quiet (fail)
  go_wp2
  go_ret
  exact ⟨by rw [← HV.out]; rfl, (Turns.refl _ _).drewN _⟩
theorem files_at0 {LL : List (List Fl)} {next seq log : Nat} {t : Nat} {l : List Fl} (h : wrongVF LL next seq log = false) (ht : t < 5) (hl : LL[t]? = some l) : filesF LL next seq log (t : Nat) = l := by
  unfold filesF goodLev
  rw [h, decide_eq_true (show (0 : Int) ≤ (t : Nat) by omega), decide_eq_true (show ((t : Nat) : Int) < 5 by omega)]
  simp [List.getD, hl]
theorem rScore_any (a : Option Addr) (n c next seq log : Nat) (L : List Lv) (t b f z : Int) (w : World) (h : VerIn w a n L next seq log) :
    Calls Try.prog 20 #[verAgg a n c next seq log, setAgg t b f, .int .i64 z] w fun e w' => e = .returned (.int .i64 (ScoreP (flL L) next seq log t b f z)) ∧ Turns (fun _ => False) w w' := by
  have TA := hide (((Turns.refl (fun _ => False) w).alloc (.cells #[.slice a n c, .int .u64 (next : Nat), .int .u64 (seq : Nat), .int .u64 (log : Nat)] 25)).alloc (.cells #[.int .i64 t, .int .i64 b, .int .i64 f] 35))
  have R0 := hide (((Turns.refl (fun _ => False) (w.alloc (.cells #[.slice a n c, .int .u64 (next : Nat), .int .u64 (seq : Nat), .int .u64 (log : Nat)] 25))).alloc (.cells #[.int .i64 t, .int .i64 b, .int .i64 f] 35)).heap (heap_alloc_new w (.cells #[.slice a n c, .int .u64 (next : Nat), .int .u64 (seq : Nat), .int .u64 (log : Nat)] 25)) (fun x => x))
  have HS := hide (show ScoreP (flL L) next seq log t b f z = if z < 0 ∨ 5 ≤ z ∨ (wrongVF (flL L) next seq log || setBad t b f) = true then 0 else scoreP (flL L) t b f z from rfl)
  have BD := hide (fun u => rbound_any t b f z u)
  have CK := hide (fun (u : World) (tu : Turns (fun _ => False) w u) => rcheck_any a n c next seq log L u (h.quiet tu))
  have BY := hide (fun (u : World) (tu : Turns (fun _ => False) w u) => rBytes_any a n c next seq log L z u (h.quiet tu))
  have HC := hide (show chkV L next seq log = if wrongVF (flL L) next seq log then 2 else 0 by unfold chkV; rw [wrongV_F])
  have HBZ := hide (show boundP t b f z = 0 → ScoreP (flL L) next seq log t b f z = 0 from fun h0 => by
    rw [HS.out]
    split
    · rfl
    · next hh =>
      simp only [not_or, Bool.not_eq_true, Bool.or_eq_false_iff] at hh
      by_cases z4 : z = 4
      · subst z4; rfl
      · have := boundP_pos hh.2.2.2 (show 0 ≤ z by omega) (show z < 4 by omega)
        omega)
  have HVI := hide h
  clear h
  unfold verAgg setAgg at *
  go_enter Try.func20, Try.ntmps20
  go_wp2_with fail
  obtain ⟨w0, hw0⟩ : ∃ u, u = (w.alloc (.cells #[.slice a n c, .int .u64 (next : Nat), .int .u64 (seq : Nat), .int .u64 (log : Nat)] 25)).alloc (.cells #[.int .i64 t, .int .i64 b, .int .i64 f] 35) := ⟨_, rfl⟩
  rw [← hw0] at TA R0 ⊢
  clear hw0
  generalize w.heap.size = P at *
  refine (BD.out _).mono ?_
  rintro e w1 ⟨rfl, t1⟩
  have T1 := hide (TA.out.trans t1)
  have Q0 := hide (t1.heap R0.out (fun x => x))
  clear t1 R0 TA BD
  by_cases hb0 : boundP t b f z = 0
  · have HR := hide (HBZ.out hb0)
    rw [hb0]
    clear hb0 HBZ HS
    go_wp2_with fail
    go_ret
    exact ⟨by rw [HR.out]; rfl, T1.out⟩
  · obtain ⟨hz0, hz4, hsb⟩ : 0 ≤ z ∧ z < 4 ∧ setBad t b f = false := by
      unfold boundP at hb0
      split at hb0
      · exact absurd rfl hb0
      · next hh =>
        simp only [Bool.or_eq_true, decide_eq_true_iff, not_or, Bool.not_eq_true] at hh
        exact ⟨by omega, by omega, hh.1.1⟩
    have hbp := boundP_pos hsb hz0 hz4
    have hb1 := hide hbp
    have HSC := hide (show wrongVF (flL L) next seq log = false → ScoreP (flL L) next seq log t b f z = scoreP (flL L) t b f z from fun hv => by rw [HS.out, if_neg (by rw [hv, hsb]; simp; omega)])
    have HSW := hide (show wrongVF (flL L) next seq log = true → ScoreP (flL L) next seq log t b f z = 0 from fun hv => by rw [HS.out, if_pos (by rw [hv]; simp)])
    have hsc : scoreP (flL L) t b f z = if z = 0 then (((flL L).getD 0 []).length : Int) * 100 / t else if z = 4 then 0 else sizesF ((flL L).getD z.toNat []) * 100 / boundP t b f z := rfl
    have hb0z : z = 0 → boundP t b f z = t := fun e => by subst e; unfold boundP; rw [hsb]; simp
    have HSP := hide hsc
    have HBT := hide hb0z
    clear hsc hb0z hbp HS HBZ
    generalize hBP : boundP t b f z = BP at *
    have HBP := hide hBP
    clear hBP
    obtain ⟨p0, p1, p2, p3⟩ : (w1.cell? ⟨P, 0, none⟩ = some (.slice a n c)) ∧ (w1.cell? ⟨P, 1, none⟩ = some (.int .u64 (next : Nat))) ∧ (w1.cell? ⟨P, 2, none⟩ = some (.int .u64 (seq : Nat))) ∧ (w1.cell? ⟨P, 3, none⟩ = some (.int .u64 (log : Nat))) := ⟨cell_of_row w1 P 0 _ 25 (0, 0) Q0.out, cell_of_row w1 P 1 _ 25 (0, 0) Q0.out, cell_of_row w1 P 2 _ 25 (0, 0) Q0.out, cell_of_row w1 P 3 _ 25 (0, 0) Q0.out⟩
    generalize chkV L next seq log = CV at *
    go_wp2_with fail
    refine (CK.out _ T1.out).mono ?_
    rintro e w2 ⟨rfl, t2⟩
    have T2 := hide (T1.out.trans t2)
    have Q0 := hide (t2.heap Q0.out (fun x => x))
    clear t2 CK p0 p1 p2 p3
    cases hWV : wrongVF (flL L) next seq log with
    | true =>
      have hcv : CV = 2 := by rw [HC.out, hWV]; rfl
      subst hcv
      have HR := hide (HSW.out hWV)
      clear hWV HC HSC HSW
      go_wp2_with fail
      go_ret
      exact ⟨by rw [HR.out]; rfl, T2.out⟩
    | false =>
      have hcv : CV = 0 := by rw [HC.out, hWV]; rfl
      subst hcv
      have HR := hide (HSC.out hWV)
      have h5 := len_of_ok hWV
      rw [flL_length] at h5
      have hfs : ∀ k : Nat, k < 5 → ∃ x : Lv, L[k]? = some x ∧ (flL L).getD k [] = fls x.l ∧ x.l.length ≤ 5000 ∧ 0 ≤ sizesF (fls x.l) ∧ sizesF (fls x.l) ≤ 5000 * 16777216 := fun k hk => by
        obtain ⟨x, hx⟩ : ∃ x, L[k]? = some x := ⟨_, List.getElem?_eq_getElem (by omega)⟩
        have c1 := cnt_take hx
        have c2 := cnt_take_le L (k + 1)
        have c3 := HVI.out.cnt
        obtain ⟨q1, q2⟩ := sizes_le (fls x.l) fun g hg => by
          obtain ⟨y, hy, rfl⟩ := List.mem_map.1 hg
          exact wrongV_files ((wrongV_F L next seq log).trans hWV) x (List.mem_of_getElem? hx) y hy
        have hl : (fls x.l).length = x.l.length := by simp [fls]
        rw [hl] at q2
        exact ⟨x, hx, by rw [List.getD, flL_at hx]; rfl, by omega, q1, by omega⟩
      obtain ⟨xz, hxz, hgz, hlz, hs0, hs1⟩ := hfs z.toNat (by omega)
      have hff : filesF (flL L) next seq log z = fls xz.l := by
        have e1 : z = ((z.toNat : Nat) : Int) := by omega
        rw [e1]
        exact (files_at0 hWV (by omega) (flL_at hxz))
      rw [hff] at BY
      have hn5 : n = 5 := by have := HVI.out.len; omega
      have HFS := hide (hfs 0 (by omega))
      clear hfs hWV HC HSC HSW hff h5
      have HGZ := hide hgz
      generalize hSZ : sizesF (fls xz.l) = SZ at *
      have HSZ := hide hSZ
      clear hSZ hgz hlz hxz
      subst hn5
      obtain ⟨p0, p1, p2, p3⟩ : (w2.cell? ⟨P, 0, none⟩ = some (.slice a 5 c)) ∧ (w2.cell? ⟨P, 1, none⟩ = some (.int .u64 (next : Nat))) ∧ (w2.cell? ⟨P, 2, none⟩ = some (.int .u64 (seq : Nat))) ∧ (w2.cell? ⟨P, 3, none⟩ = some (.int .u64 (log : Nat))) := ⟨cell_of_row w2 P 0 _ 25 (0, 0) Q0.out, cell_of_row w2 P 1 _ 25 (0, 0) Q0.out, cell_of_row w2 P 2 _ 25 (0, 0) Q0.out, cell_of_row w2 P 3 _ 25 (0, 0) Q0.out⟩
      go_wp2_with fail
      refine (BY.out _ T2.out).mono ?_
      rintro e w3 ⟨rfl, t3⟩
      have T3 := hide (T2.out.trans t3)
      have q0 := cell_of_row w3 P 0 _ 25 (0, 0) (t3.heap Q0.out (fun x => x))
      clear t3 BY p0 p1 p2 p3
      obtain ⟨b1, b2⟩ := hb1.out
      by_cases z0 : z = 0
      · obtain ⟨x, hx, hg, hl, _, _⟩ := HFS.out
        obtain ⟨⟨bk, off, rfl, hc⟩, _⟩ := (HVI.out.quiet T3.out).levs 0 x hx
        rw [Nat.add_zero] at hc
        have PT := hide (fun u => part_any (x.l.length : Nat) BP (by omega) (by omega) b1 b2 u)
        have HFIN := hide (show ScoreP (flL L) next seq log t b f z = (x.l.length : Int) * 100 / BP by
          rw [HR.out, HSP.out, if_pos z0, hg, HBT.out z0, show (fls x.l).length = x.l.length by simp [fls]])
        clear hx hg HSP HBT HR HFS
        generalize x.l.length = XL at *
        go_wp2_with fail
        refine (PT.out _).mono ?_
        rintro e w4 ⟨rfl, t4⟩
        go_wp2_with fail
        go_ret
        exact ⟨by rw [HFIN.out]; rfl, T3.out.trans t4⟩
      · have PT := hide (fun u => part_any SZ BP hs0 (by omega) b1 b2 u)
        have HFIN := hide (show ScoreP (flL L) next seq log t b f z = SZ * 100 / BP by
          rw [HR.out, HSP.out, if_neg z0, if_neg (by omega), HGZ.out, HSZ.out])
        clear HSP HBT HR HFS q0
        go_wp2_with fail
        refine (PT.out _).mono ?_
        rintro e w4 ⟨rfl, t4⟩
        go_wp2_with fail
        go_ret
        exact ⟨by rw [HFIN.out]; rfl, T3.out.trans t4⟩
end Go.Proofs.Ytkmcdjbadngfgaa

/-
  The document's side: rest; the least and the greatest key of some files.
-/
namespace Go.Proofs.Ytkmcdjbadngfgaa
open Go.RowKit
set_option maxRecDepth 100000
set_option maxHeartbeats 4000000
theorem scoresL_at (LL : List (List Fl)) (t b f : Int) (k : Nat) (h : k < 5) : (scoresL LL t b f)[k]? = some (scoreP LL t b f (k : Nat)) := by
  obtain rfl | rfl | rfl | rfl | rfl : k = 0 ∨ k = 1 ∨ k = 2 ∨ k = 3 ∨ k = 4 := by omega
  all_goals rfl
theorem ScoreP_ok {LL : List (List Fl)} {next seq log : Nat} {t b f : Int} (hv : wrongVF LL next seq log = false) (hs : setBad t b f = false) (k : Nat) (h : k < 5) : ScoreP LL next seq log t b f (k : Nat) = scoreP LL t b f (k : Nat) := by
  unfold ScoreP
  rw [if_neg (by rw [hv, hs]; simp; omega)]
theorem rRest_any (a : Option Addr) (n c next seq log : Nat) (L : List Lv) (t b f : Int) (w : World) (h : VerIn w a n L next seq log) :
    Calls Try.prog 21 #[verAgg a n c next seq log, setAgg t b f] w fun e w' => e = .returned (.bool (restP (flL L) next seq log t b f)) ∧ Turns (fun _ => False) w w' := by
  have TA := hide (((Turns.refl (fun _ => False) w).alloc (.cells #[.slice a n c, .int .u64 (next : Nat), .int .u64 (seq : Nat), .int .u64 (log : Nat)] 25)).alloc (.cells #[.int .i64 t, .int .i64 b, .int .i64 f] 35))
  have R0 := hide (((Turns.refl (fun _ => False) (w.alloc (.cells #[.slice a n c, .int .u64 (next : Nat), .int .u64 (seq : Nat), .int .u64 (log : Nat)] 25))).alloc (.cells #[.int .i64 t, .int .i64 b, .int .i64 f] 35)).heap (heap_alloc_new w (.cells #[.slice a n c, .int .u64 (next : Nat), .int .u64 (seq : Nat), .int .u64 (log : Nat)] 25)) (fun x => x))
  have R1 := hide (heap_alloc_new (w.alloc (.cells #[.slice a n c, .int .u64 (next : Nat), .int .u64 (seq : Nat), .int .u64 (log : Nat)] 25)) (.cells #[.int .i64 t, .int .i64 b, .int .i64 f] 35))
  simp only [World.size_alloc] at R1
  have HR := hide (show restP (flL L) next seq log t b f = (!(wrongVF (flL L) next seq log || setBad t b f) && !(dueP (scoresL (flL L) t b f)).2) from rfl)
  have CS := hide (fun u => rcheckSetup_any t b f u)
  have HE := hide (show setE t b f = if setBad t b f then 2 else 0 from rfl)
  have CK := hide (fun (u : World) (tu : Turns (fun _ => False) w u) => rcheck_any a n c next seq log L u (h.quiet tu))
  have HC := hide (show chkV L next seq log = if wrongVF (flL L) next seq log then 2 else 0 by unfold chkV; rw [wrongV_F])
  have SC := hide (fun (k : Nat) (u : World) (tu : Turns (fun _ => False) w u) => rScore_any a n c next seq log L t b f (k : Nat) u (h.quiet tu))
  clear h
  unfold verAgg setAgg at *
  generalize restP (flL L) next seq log t b f = RP at *
  generalize chkV L next seq log = CV at *
  generalize setE t b f = E at *
  go_enter Try.func21, Try.ntmps21
  go_wp2_with fail
  obtain ⟨w0, hw0⟩ : ∃ u, u = (w.alloc (.cells #[.slice a n c, .int .u64 (next : Nat), .int .u64 (seq : Nat), .int .u64 (log : Nat)] 25)).alloc (.cells #[.int .i64 t, .int .i64 b, .int .i64 f] 35) := ⟨_, rfl⟩
  rw [← hw0] at TA R0 R1 ⊢
  clear hw0
  generalize w.heap.size = P at *
  refine (CS.out _).mono ?_
  rintro e w1 ⟨rfl, t1⟩
  have T1 := hide (TA.out.trans t1)
  have Q0 := hide (t1.heap R0.out (fun x => x))
  have Q1 := hide (t1.heap R1.out (fun x => x))
  clear t1 R0 R1 TA CS
  have SK := hide (fun (u : World) (tu : Turns (fun _ => False) w1 u) => show (u.cell? ⟨P, 0, none⟩ = some (.slice a n c) ∧ u.cell? ⟨P, 1, none⟩ = some (.int .u64 (next : Nat)) ∧ u.cell? ⟨P, 2, none⟩ = some (.int .u64 (seq : Nat)) ∧ u.cell? ⟨P, 3, none⟩ = some (.int .u64 (log : Nat))) ∧ u.cell? ⟨P + 1, 0, none⟩ = some (.int .i64 t) ∧ u.cell? ⟨P + 1, 1, none⟩ = some (.int .i64 b) ∧ u.cell? ⟨P + 1, 2, none⟩ = some (.int .i64 f) from ⟨⟨cell_of_row u P 0 _ 25 (0, 0) (tu.heap Q0.out (fun x => x)), cell_of_row u P 1 _ 25 (0, 0) (tu.heap Q0.out (fun x => x)), cell_of_row u P 2 _ 25 (0, 0) (tu.heap Q0.out (fun x => x)), cell_of_row u P 3 _ 25 (0, 0) (tu.heap Q0.out (fun x => x))⟩, cell_of_row u (P + 1) 0 _ 35 (0, 0) (tu.heap Q1.out (fun x => x)), cell_of_row u (P + 1) 1 _ 35 (0, 0) (tu.heap Q1.out (fun x => x)), cell_of_row u (P + 1) 2 _ 35 (0, 0) (tu.heap Q1.out (fun x => x))⟩)
  cases hBD : setBad t b f with
  | true =>
    have hE : E = 2 := by rw [HE.out, hBD]; rfl
    subst hE
    have HF := hide (show RP = false by rw [HR.out, hBD]; simp)
    clear hBD HE HR
    go_wp2_with fail
    go_ret
    exact ⟨by rw [HF.out]; rfl, T1.out⟩
  | false =>
    have hE : E = 0 := by rw [HE.out, hBD]; rfl
    subst hE
    have HBD := hide hBD
    clear hBD HE
    obtain ⟨⟨p0, p1, p2, p3⟩, _⟩ := SK.out w1 (Turns.refl _ _)
    go_wp2_with fail
    refine (CK.out _ T1.out).mono ?_
    rintro e w2 ⟨rfl, t2⟩
    have T2 := hide t2
    clear t2 CK p0 p1 p2 p3
    cases hWV : wrongVF (flL L) next seq log with
    | true =>
      have hV : CV = 2 := by rw [HC.out, hWV]; rfl
      subst hV
      have HF := hide (show RP = false by rw [HR.out, hWV]; simp)
      clear hWV HC HR
      go_wp2_with fail
      go_ret
      exact ⟨by rw [HF.out]; rfl, T1.out.trans T2.out⟩
    | false =>
      have hV : CV = 0 := by rw [HC.out, hWV]; rfl
      subst hV
      have HRR := hide (show RP = !(dueP (scoresL (flL L) t b f)).2 by rw [HR.out, hWV, HBD.out]; simp)
      have HSP := hide (fun (k : Nat) (hk : k < 5) => ScoreP_ok (LL := flL L) hWV HBD.out k hk)
      clear hWV HC HR
      go_wp2_with fail
      go_loopw [5] (fun i wr => ∃ k : Nat, i = .int .i64 (k : Nat) ∧ k ≤ 5 ∧ (∀ j : Nat, j < k → scoreP (flL L) t b f (j : Nat) < 100) ∧ Turns (fun _ => False) w1 wr) (fun i _ => 5 - (intOf i).toNat)
      case atStart => exact ⟨0, rfl, Nat.zero_le _, fun j hj => by omega, T2.out⟩
      case round =>
        obtain ⟨k, rfl, hk, hlt, htr⟩ := hrel
        have HLT := hide hlt
        have HTR := hide htr
        clear hlt htr
        by_cases hk5 : k < 5
        · have k1 : (k : Int) < 5 := by omega
          have SCk := hide (fun (u : World) (tu : Turns (fun _ => False) w u) => SC.out k u tu)
          rw [HSP.out k hk5] at SCk
          have HAT := hide (scoresL_at (flL L) t b f k hk5)
          have HLN := hide (fun (hx : scoreP (flL L) t b f (k : Nat) < 100) (j : Nat) (hj : j < k + 1) => show scoreP (flL L) t b f (j : Nat) < 100 by
            rcases Nat.lt_or_ge j k with h | h
            · exact HLT.out j h
            · obtain rfl : j = k := by omega
              exact hx)
          generalize scoreP (flL L) t b f (k : Nat) = s at *
          obtain ⟨⟨p0, p1, p2, p3⟩, q0, q1, q2⟩ := SK.out wr HTR.out
          go_wp2_with fail
          refine (SCk.out _ (T1.out.trans HTR.out)).mono ?_
          rintro e w3 ⟨rfl, t3⟩
          have T3 := hide (HTR.out.trans t3)
          clear t3 SCk p0 p1 p2 p3 q0 q1 q2
          by_cases hs : 100 ≤ s
          · have HF := hide (show RP = false by
              rw [HRR.out]
              cases hd : (dueP (scoresL (flL L) t b f)).2 with
              | true => rfl
              | false => have := due_none hd s (List.mem_of_getElem? HAT.out); omega)
            go_wp2_with fail
            go_ret
            exact ⟨by rw [HF.out]; rfl, T1.out.trans T3.out⟩
          · have hs' : s < 100 := by omega
            go_wp2_with fail
            go_roundw
            case rel => exact ⟨k + 1, by go_num, by omega, HLN.out hs', T3.out⟩
            case measure => simp [intOf]; omega
        · obtain rfl : k = 5 := by omega
          have HF := hide (show RP = true by
            rw [HRR.out]
            cases hd : (dueP (scoresL (flL L) t b f)).2 with
            | false => rfl
            | true =>
              obtain ⟨z, _, s, hs, h100, _⟩ := due_spec hd
              have hz : z < 5 := (List.getElem?_eq_some_iff.1 hs).1
              rw [scoresL_at _ _ _ _ z hz] at hs
              cases hs
              have := HLT.out z hz
              omega)
          go_wp2_with fail
          go_ret
          exact ⟨by rw [HF.out]; rfl, T1.out.trans HTR.out⟩
end Go.Proofs.Ytkmcdjbadngfgaa

/-
  The document's side: the least and the greatest key of some files.
-/
namespace Go.Proofs.Ytkmcdjbadngfgaa
open Go.RowKit
set_option maxRecDepth 100000
set_option maxHeartbeats 4000000
def minK (k : Kk) (x : Tf) : Kk := if cmpB x.f.least k.lo < 0 then ⟨x.la, x.lc, k.ma, k.mc, x.f.least, k.hi⟩ else k
def maxK (k : Kk) (x : Tf) : Kk := if 0 < cmpB x.f.most k.hi then ⟨k.la, k.lc, x.ma, x.mc, k.lo, x.f.most⟩ else k
theorem minK_of {l : List Tf} {k : Kk} {z : Tf} (h : Kof l k) (hz : z ∈ l) : Kof l (minK k z) := by
  obtain ⟨x, hx, y, hy, rfl⟩ := h
  unfold minK
  split
  · exact ⟨z, hz, y, hy, rfl⟩
  · exact ⟨x, hx, y, hy, rfl⟩
theorem maxK_of {l : List Tf} {k : Kk} {z : Tf} (h : Kof l k) (hz : z ∈ l) : Kof l (maxK k z) := by
  obtain ⟨x, hx, y, hy, rfl⟩ := h
  unfold maxK
  split
  · exact ⟨x, hx, z, hz, rfl⟩
  · exact ⟨x, hx, y, hy, rfl⟩
theorem minK_lo (k : Kk) (x : Tf) : (minK k x).lo = minB x.f k.lo ∧ (minK k x).hi = k.hi := by unfold minK minB; split <;> exact ⟨rfl, rfl⟩
theorem maxK_hi (k : Kk) (x : Tf) : (maxK k x).hi = maxB x.f k.hi ∧ (maxK k x).lo = k.lo := by unfold maxK maxB; split <;> exact ⟨rfl, rfl⟩
theorem ends_any (a : Option Addr) (n c : Nat) (l : List Tf) (x0 : Tf) (w : World) (h : Fils w a l) (hn : n = l.length) (hmx : n ≤ 1000000) (h0 : l[0]? = some x0) (hk : ∀ y ∈ l, y.f.least.length ≤ 1000000 ∧ y.f.most.length ≤ 1000000) :
    Calls Try.prog 31 #[.slice a n c] w fun e w' => ∃ k : Kk, e = .returned (.tuple #[.slice k.la k.lo.length k.lc, .slice k.ma k.hi.length k.mc]) ∧ Kof l k ∧ k.lo = loF (fls l).tail x0.f.least ∧ k.hi = hiF (fls l).tail x0.f.most ∧ Turns (fun _ => False) w w' := by
  have HN := hide hn
  have H0 := hide h0
  obtain ⟨b, off, rfl, h6, hfb⟩ := fc_of h h0
  rw [Nat.zero_mul, Nat.add_zero] at h6
  have HF := hide h
  have HK := hide hk
  have K0 := hide (show Kof l x0.keys from ⟨x0, List.mem_of_getElem? h0, x0, List.mem_of_getElem? h0, rfl⟩)
  have hlen := (List.getElem?_eq_some_iff.1 h0).1
  have y2 := h6.c2
  have y3 := h6.c3
  have HT1 := hide (show (fls (l.take 1)).tail = [] by rw [List.take_add_one, h0]; rfl)
  clear h h0 hfb h6 hk
  have hn1 : (1 : Int) ≤ n := by omega
  have hn0 : (0 : Int) < n := by omega
  have hm : (n : Int) ≤ 1000000 := by omega
  have hnn : 1 ≤ n := by omega
  clear hn hlen
  obtain ⟨la, lc, ma, mc, ⟨no, sz, ls, ms, en, sq⟩⟩ := x0
  unfold Tf.keys at K0
  simp only at *
  go_enter Try.func31, Try.ntmps31
  go_upto_region 1 with (fail)
  go_quiet (fail)
  go_wp2_with fail
  go_loopw [4, 5, 6] (fun v4 v5 i wr => ∃ (k : Nat) (kk : Kk), v4 = .slice kk.la kk.lo.length kk.lc ∧ v5 = .slice kk.ma kk.hi.length kk.mc ∧ i = .int .i64 (k : Nat) ∧ 1 ≤ k ∧ k ≤ n ∧ Kof l kk ∧ kk.lo = loF (fls (l.take k)).tail ls ∧ kk.hi = hiF (fls (l.take k)).tail ms ∧ Turns (fun _ => False) w wr) (fun _ _ i _ => n - (intOf i).toNat)
  case atStart =>
    refine ⟨1, ⟨la, lc, ma, mc, ls, ms⟩, rfl, rfl, rfl, Nat.le_refl _, hnn, K0.out, by rw [HT1.out]; rfl, by rw [HT1.out]; rfl, ?_⟩
    first
      | exact (Turns.refl _ _).drew
      | exact (Turns.refl _ _).drewN _
  case round =>
    obtain ⟨k, kk, rfl, rfl, rfl, hk1, hk, hko, hlo, hhi, htr⟩ := hrel
    have HKO := hide hko
    have HLO := hide hlo
    have HHI := hide hhi
    have HTR := hide htr
    clear hko hlo hhi htr y2 y3
    by_cases hkn : k < n
    · obtain ⟨y, hy⟩ : ∃ y, l[k]? = some y := ⟨_, List.getElem?_eq_getElem (by have := HN.out; omega)⟩
      obtain ⟨bb, oo, hbo, h6, _⟩ := fc_of (HF.out.quiet HTR.out) hy
      cases hbo
      have i1 : (k : Int) < n := by omega
      have i0 : (0 : Int) ≤ k := by omega
      have hym := List.mem_of_getElem? hy
      have HNX := hide (show (fls (l.take (k + 1))).tail = (fls (l.take k)).tail ++ [y.f] by
        rw [List.take_add_one, hy]
        simp only [fls, List.map_append, Option.toList_some, List.map_cons, List.map_nil]
        rw [List.tail_append_of_ne_nil]
        intro e
        have := congrArg List.length e
        simp only [List.length_map, List.length_take, List.length_nil] at this
        have := HN.out
        omega)
      have hkl : kk.lo.length ≤ 1000000 ∧ kk.hi.length ≤ 1000000 := by
        obtain ⟨x, hx, z, hz, rfl⟩ := HKO.out
        exact ⟨(HK.out x hx).1, (HK.out z hz).2⟩
      have hyl := HK.out y hym
      have C1 := hide (fun (u : World) (tu : Turns (fun _ => False) w u) => rBefore_any y.la kk.la y.f.least.length kk.lo.length y.lc kk.lc y.f.least kk.lo u ((HF.out.quiet tu) k y hy).2.1 (HKO.out.kb (HF.out.quiet tu)).1 (by omega) (by omega))
      have C2 := hide (fun (u : World) (tu : Turns (fun _ => False) w u) => rBefore_any kk.ma y.ma kk.hi.length y.f.most.length kk.mc y.mc kk.hi y.f.most u (HKO.out.kb (HF.out.quiet tu)).2 ((HF.out.quiet tu) k y hy).2.2 (by omega) (by omega))
      have HSW := hide (show cmpB kk.hi y.f.most < 0 ↔ 0 < cmpB y.f.most kk.hi by rw [cmpB_swap y.f.most kk.hi]; omega)
      have HM := hide (maxK_of (minK_of HKO.out hym) hym)
      have HMM := hide (show maxK (minK kk y) y = maxK (minK kk y) y from rfl)
      have HV1 := hide (show (maxK (minK kk y) y).lo = minB y.f kk.lo ∧ (maxK (minK kk y) y).hi = maxB y.f kk.hi by
        rw [(maxK_hi _ _).2, (maxK_hi _ _).1, (minK_lo _ _).1, (minK_lo _ _).2]; exact ⟨rfl, rfl⟩)
      have HVA := hide (show ((maxK (minK kk y) y).la, (maxK (minK kk y) y).lc) = (if cmpB y.f.least kk.lo < 0 then (y.la, y.lc) else (kk.la, kk.lc)) ∧ ((maxK (minK kk y) y).ma, (maxK (minK kk y) y).mc) = (if 0 < cmpB y.f.most kk.hi then (y.ma, y.mc) else (kk.ma, kk.mc)) by
        unfold maxK minK
        by_cases h1 : cmpB y.f.least kk.lo < 0 <;> by_cases h2 : 0 < cmpB y.f.most kk.hi <;> simp [h1, h2])
      clear HMM hyl hkl hym hy
      have Y6 := hide (fun (u : World) (tu : Turns (fun _ => False) wr u) => And.intro (h6.quiet tu).c2 (h6.quiet tu).c3)
      clear h6
      generalize maxK (minK kk y) y = km at *
      obtain ⟨la', lc', ma', mc', ⟨no', sz', ls', ms', en', sq'⟩⟩ := y
      obtain ⟨ka, kc, ja, jc, lo, hi⟩ := kk
      obtain ⟨ka2, kc2, ja2, jc2, lo2, hi2⟩ := km
      simp only at *
      obtain ⟨y2, y3⟩ := Y6.out wr (Turns.refl _ _)
      have HLL := hide (show (cmpB ls' lo < 0 → lo2 = ls') ∧ (¬ cmpB ls' lo < 0 → lo2 = lo) ∧ (0 < cmpB ms' hi → hi2 = ms') ∧ (¬ 0 < cmpB ms' hi → hi2 = hi) by
        obtain ⟨e1, e2⟩ := HV1.out
        unfold minB at e1
        unfold maxB at e2
        refine ⟨fun h => by rw [e1, if_pos h], fun h => by rw [e1, if_neg h], fun h => by rw [e2, if_pos h], fun h => by rw [e2, if_neg h]⟩)
      generalize hX1 : cmpB ls' lo = X1 at *
      generalize hX2 : cmpB ms' hi = X2 at *
      generalize cmpB hi ms' = X3 at *
      clear hX1 hX2
      have HREL := hide (show Kof l ⟨ka2, kc2, ja2, jc2, lo2, hi2⟩ ∧ lo2 = loF (fls (l.take (k + 1))).tail ls ∧ hi2 = hiF (fls (l.take (k + 1))).tail ms from ⟨HM.out, by
        rw [HNX.out, loF, List.foldl_append]; show lo2 = minB _ (loF (fls (l.take k)).tail ls); rw [← HLO.out]; exact HV1.out.1, by
        rw [HNX.out, hiF, List.foldl_append]; show hi2 = maxB _ (hiF (fls (l.take k)).tail ms); rw [← HHI.out]; exact HV1.out.2⟩)
      clear HV1 HM HNX HLO HHI
      go_wp2_with fail
      refine (C1.out _ HTR.out).mono ?_
      rintro e w2 ⟨rfl, t2⟩
      have T2 := hide (HTR.out.trans t2)
      have Z2 := hide t2
      clear t2 C1 y2 y3
      by_cases x1 : X1 < 0
      · rw [decide_eq_true x1]
        obtain rfl : lo2 = ls' := HLL.out.1 x1
        have hv := HVA.out.1
        rw [if_pos x1] at hv
        cases hv
        obtain ⟨y2, y3⟩ := Y6.out w2 Z2.out
        clear x1
        go_wp2_with fail
        refine (C2.out _ T2.out).mono ?_
        rintro e w3 ⟨rfl, t3⟩
        have T3 := hide (T2.out.trans t3)
        have Z3 := hide (Z2.out.trans t3)
        clear t3 C2 y2 y3
        by_cases x3 : X3 < 0
        · rw [decide_eq_true x3]
          have x2 := HSW.out.1 x3
          obtain rfl : hi2 = ms' := HLL.out.2.2.1 x2
          have hv := HVA.out.2
          rw [if_pos x2] at hv
          cases hv
          obtain ⟨y2, y3⟩ := Y6.out w3 Z3.out
          clear x2 x3
          go_wp2_with fail
          go_roundw
          case rel => exact ⟨k + 1, ⟨_, _, _, _, _, _⟩, rfl, rfl, by go_num, by omega, by omega, HREL.out.1, HREL.out.2.1, HREL.out.2.2, T3.out⟩
          case measure => simp [intOf]; omega
        · rw [decide_eq_false x3]
          have x2 := mt HSW.out.2 x3
          obtain rfl : hi2 = hi := HLL.out.2.2.2 (by omega)
          have hv := HVA.out.2
          rw [if_neg x2] at hv
          cases hv
          obtain ⟨y2, y3⟩ := Y6.out w3 Z3.out
          clear x2 x3
          go_wp2_with fail
          go_roundw
          case rel => exact ⟨k + 1, ⟨_, _, _, _, _, _⟩, rfl, rfl, by go_num, by omega, by omega, HREL.out.1, HREL.out.2.1, HREL.out.2.2, T3.out⟩
          case measure => simp [intOf]; omega
      · rw [decide_eq_false x1]
        obtain rfl : lo2 = lo := HLL.out.2.1 (by omega)
        have hv := HVA.out.1
        rw [if_neg x1] at hv
        cases hv
        obtain ⟨y2, y3⟩ := Y6.out w2 Z2.out
        clear x1
        go_wp2_with fail
        refine (C2.out _ T2.out).mono ?_
        rintro e w3 ⟨rfl, t3⟩
        have T3 := hide (T2.out.trans t3)
        have Z3 := hide (Z2.out.trans t3)
        clear t3 C2 y2 y3
        by_cases x3 : X3 < 0
        · rw [decide_eq_true x3]
          have x2 := HSW.out.1 x3
          obtain rfl : hi2 = ms' := HLL.out.2.2.1 x2
          have hv := HVA.out.2
          rw [if_pos x2] at hv
          cases hv
          obtain ⟨y2, y3⟩ := Y6.out w3 Z3.out
          clear x2 x3
          go_wp2_with fail
          go_roundw
          case rel => exact ⟨k + 1, ⟨_, _, _, _, _, _⟩, rfl, rfl, by go_num, by omega, by omega, HREL.out.1, HREL.out.2.1, HREL.out.2.2, T3.out⟩
          case measure => simp [intOf]; omega
        · rw [decide_eq_false x3]
          have x2 := mt HSW.out.2 x3
          obtain rfl : hi2 = hi := HLL.out.2.2.2 (by omega)
          have hv := HVA.out.2
          rw [if_neg x2] at hv
          cases hv
          obtain ⟨y2, y3⟩ := Y6.out w3 Z3.out
          clear x2 x3
          go_wp2_with fail
          go_roundw
          case rel => exact ⟨k + 1, ⟨_, _, _, _, _, _⟩, rfl, rfl, by go_num, by omega, by omega, HREL.out.1, HREL.out.2.1, HREL.out.2.2, T3.out⟩
          case measure => simp [intOf]; omega
    · obtain rfl : k = n := by omega
      have htk : l.take k = l := List.take_of_length_le (by have := HN.out; omega)
      rw [htk] at HLO HHI
      clear htk
      go_wp2_with fail
      go_ret2
      exact ⟨kk, rfl, HKO.out, HLO.out, HHI.out, HTR.out⟩
end Go.Proofs.Ytkmcdjbadngfgaa

/-
  What is put together, as the document says: pure.
-/
namespace Go.Proofs.Ytkmcdjbadngfgaa
set_option maxRecDepth 100000
set_option maxHeartbeats 4000000
theorem asc0 {l : List Fl} (ho : ordF 0 l = true) : ∀ (d i : Nat) (f g : Fl), l[i]? = some f → l[i + d + 1]? = some g → f.no < g.no
  | 0, i, f, g, hf, hg => by
    have h := (ordF_iff 0 l).1 ho i f g hf hg
    unfold aheadF at h
    simpa using h
  | d + 1, i, f, g, hf, hg => by
    obtain ⟨m, hm⟩ : ∃ m, l[i + d + 1]? = some m := ⟨_, List.getElem?_eq_getElem (by have := (List.getElem?_eq_some_iff.1 hg).1; omega)⟩
    have h1 := asc0 ho d i f m hf hm
    have h := (ordF_iff 0 l).1 ho (i + d + 1) m g hm hg
    unfold aheadF at h
    have h2 : m.no < g.no := by simpa using h
    omega
theorem loF_le : ∀ (l : List Fl) (lo : List (BitVec 8)), cle (loF l lo) lo ∧ (∀ f ∈ l, cle (loF l lo) f.least) ∧ (loF l lo = lo ∨ ∃ f ∈ l, loF l lo = f.least)
  | [], lo => ⟨cle_refl _, ⟨fun f h => (by simp at h), Or.inl rfl⟩⟩
  | f :: r, lo => by
    obtain ⟨h1, h2, h3⟩ := loF_le r (minB f lo)
    obtain ⟨m1, m2⟩ := minB_le f lo
    show cle (loF r (minB f lo)) lo ∧ _ ∧ (loF r (minB f lo) = lo ∨ _)
    refine ⟨cle_trans h1 m1, fun g hg => ?_, ?_⟩
    · show cle (loF r (minB f lo)) g.least
      rcases List.mem_cons.1 hg with rfl | hg
      · exact cle_trans h1 m2
      · exact h2 g hg
    · rcases h3 with h3 | ⟨g, hg, h3⟩
      · rw [h3]
        unfold minB
        split
        · exact Or.inr ⟨f, List.mem_cons_self, by show loF r (minB f lo) = f.least; rw [h3]; unfold minB; rw [if_pos ‹_›]⟩
        · exact Or.inl rfl
      · exact Or.inr ⟨g, List.mem_cons_of_mem _ hg, h3⟩
theorem hiF_le : ∀ (l : List Fl) (hi : List (BitVec 8)), cle hi (hiF l hi) ∧ (∀ f ∈ l, cle f.most (hiF l hi)) ∧ (hiF l hi = hi ∨ ∃ f ∈ l, hiF l hi = f.most)
  | [], lo => ⟨cle_refl _, ⟨fun f h => (by simp at h), Or.inl rfl⟩⟩
  | f :: r, hi => by
    obtain ⟨h1, h2, h3⟩ := hiF_le r (maxB f hi)
    obtain ⟨m1, m2⟩ := maxB_le f hi
    show cle hi (hiF r (maxB f hi)) ∧ _ ∧ (hiF r (maxB f hi) = hi ∨ _)
    refine ⟨cle_trans m1 h1, fun g hg => ?_, ?_⟩
    · show cle g.most (hiF r (maxB f hi))
      rcases List.mem_cons.1 hg with rfl | hg
      · exact cle_trans m2 h1
      · exact h2 g hg
    · rcases h3 with h3 | ⟨g, hg, h3⟩
      · rw [h3]
        unfold maxB
        split
        · exact Or.inr ⟨f, List.mem_cons_self, by show hiF r (maxB f hi) = f.most; rw [h3]; unfold maxB; rw [if_pos ‹_›]⟩
        · exact Or.inl rfl
      · exact Or.inr ⟨g, List.mem_cons_of_mem _ hg, h3⟩
def endLo : List Fl → List (BitVec 8)
  | [] => []
  | f :: r => loF r f.least
def endHi : List Fl → List (BitVec 8)
  | [] => []
  | f :: r => hiF r f.most
theorem ends_all {U : List Fl} (h : U ≠ []) : (∀ f ∈ U, cle (endLo U) f.least ∧ cle f.most (endHi U)) ∧ (∃ f ∈ U, endLo U = f.least) ∧ (∃ f ∈ U, endHi U = f.most) := by
  cases U with
  | nil => exact absurd rfl h
  | cons f r =>
    obtain ⟨a1, a2, a3⟩ := loF_le r f.least
    obtain ⟨b1, b2, b3⟩ := hiF_le r f.most
    show (∀ g ∈ f :: r, cle (loF r f.least) g.least ∧ cle g.most (hiF r f.most)) ∧ (∃ g ∈ f :: r, loF r f.least = g.least) ∧ (∃ g ∈ f :: r, hiF r f.most = g.most)
    refine ⟨fun g hg => ?_, ?_, ?_⟩
    · rcases List.mem_cons.1 hg with rfl | hg
      · exact ⟨a1, b1⟩
      · exact ⟨a2 g hg, b2 g hg⟩
    · rcases a3 with a3 | ⟨g, hg, a3⟩
      · exact ⟨f, List.mem_cons_self, a3⟩
      · exact ⟨g, List.mem_cons_of_mem _ hg, a3⟩
    · rcases b3 with b3 | ⟨g, hg, b3⟩
      · exact ⟨f, List.mem_cons_self, b3⟩
      · exact ⟨g, List.mem_cons_of_mem _ hg, b3⟩
/-- What is taken so far of level 0. -/
structure OutP (l : List Fl) (f0 : Fl) (U : List Fl) : Prop where
  sub : U.Sublist l
  has : f0 ∈ U
  least : ∀ lo' hi', Closed l lo' hi' → cle lo' f0.least → cle f0.most hi' → ∀ f ∈ U, cle lo' f.least ∧ cle f.most hi'
theorem OutP.ne {l : List Fl} {f0 : Fl} {U : List Fl} (h : OutP l f0 U) : U ≠ [] := fun e => by have := h.has; rw [e] at this; cases this
theorem OutP.step {l : List Fl} {f0 : Fl} {U : List Fl} (h : OutP l f0 U) (hw : ∀ f ∈ l, wrongF f = false) : OutP l f0 (l.filter (overF (endLo U) (endHi U))) ∧ U.Sublist (l.filter (overF (endLo U) (endHi U))) ∧ 1 ≤ (endHi U).length := by
  obtain ⟨e1, ⟨fl, hfl, e2⟩, ⟨fh, hfh, e3⟩⟩ := ends_all h.ne
  have hh : 1 ≤ (endHi U).length := by rw [e3]; exact (file_le (hw fh (h.sub.subset hfh))).2.2
  have hin : ∀ f ∈ U, overF (endLo U) (endHi U) f = true := fun f hf => by
    rw [ovF_ovK hh, ovK_iff]
    have hle := (file_le (hw f (h.sub.subset hf))).1
    exact ⟨cle_trans (e1 f hf).1 hle, cle_trans hle (e1 f hf).2⟩
  have hs : U.Sublist (l.filter (overF (endLo U) (endHi U))) := by
    have := h.sub.filter (overF (endLo U) (endHi U))
    rwa [List.filter_eq_self.2 hin] at this
  refine ⟨⟨List.filter_sublist, hs.subset h.has, fun lo' hi' hc h1 h2 f hf => ?_⟩, hs, hh⟩
  rw [List.mem_filter, ovF_ovK hh, ovK_iff] at hf
  have a1 := (h.least lo' hi' hc h1 h2 fl hfl).1
  have a2 := (h.least lo' hi' hc h1 h2 fh hfh).2
  rw [← e2] at a1
  rw [← e3] at a2
  exact hoK_iff.1 (hc f hf.1 (ovK_iff.2 ⟨cle_trans a1 hf.2.1, cle_trans hf.2.2 a2⟩))
theorem OutP.done {l : List Fl} {f0 : Fl} {U : List Fl} (h : OutP l f0 U) (hw : ∀ f ∈ l, wrongF f = false) (hf0 : l[0]? = some f0) (hlen : (l.filter (overF (endLo U) (endHi U))).length = U.length) : U = l.filter (overF (endLo U) (endHi U)) ∧ UpP l 0 (endLo U) (endHi U) := by
  obtain ⟨_, hs, hh⟩ := h.step hw
  have he := hs.eq_of_length hlen.symm
  obtain ⟨e1, ⟨fl, hfl, e2⟩, ⟨fh, hfh, e3⟩⟩ := ends_all h.ne
  refine ⟨he, ?_⟩
  unfold UpP
  rw [if_pos rfl]
  refine ⟨f0, hf0, ⟨⟨fl, h.sub.subset hfl, e2⟩, ⟨fh, h.sub.subset hfh, e3⟩, e1 f0 h.has, fun lo' hi' hc h1 h2 => ?_⟩, fun f hf ho => ?_⟩
  · exact ⟨by rw [e2]; exact (h.least lo' hi' hc h1 h2 fl hfl).1, by rw [e3]; exact (h.least lo' hi' hc h1 h2 fh hfh).2⟩
  · have : f ∈ U := by rw [he, List.mem_filter, ovF_ovK hh]; exact ⟨hf, ho⟩
    exact hoK_iff.2 (e1 f this)
theorem OutP.start {l : List Fl} {f0 : Fl} (h : l[0]? = some f0) : OutP l f0 [f0] := ⟨List.singleton_sublist.2 (List.mem_of_getElem? h), List.mem_singleton.2 rfl, fun lo' hi' _ h1 h2 f hf => by
  obtain rfl := List.mem_singleton.1 hf
  exact ⟨h1, h2⟩⟩
theorem filter_one {α : Type} {p : α → Bool} {f : α} : ∀ {l : List α}, l.Nodup → f ∈ l → p f = true → (∀ g ∈ l, p g = true → g = f) → l.filter p = [f]
  | [], _, h, _, _ => by cases h
  | a :: r, hn, h, hp, ho => by
    obtain ⟨ha, hr⟩ := List.nodup_cons.1 hn
    by_cases e : a = f
    · subst e
      rw [List.filter_cons, if_pos hp]
      congr 1
      rw [List.filter_eq_nil_iff]
      intro g hg hpg
      have := ho g (List.mem_cons_of_mem _ hg) hpg
      subst this
      exact ha hg
    · rw [List.filter_cons, if_neg (fun h2 => e (ho a List.mem_cons_self h2))]
      rcases List.mem_cons.1 h with h | h
      · exact absurd h.symm e
      · exact filter_one hr h hp fun g hg => ho g (List.mem_cons_of_mem _ hg)
theorem level_nodup {LL : List (List Fl)} {next seq log : Nat} (h : wrongVF LL next seq log = false) {k : Nat} {l : List Fl} (hk : LL[k]? = some l) : (l.map Fl.no).Nodup := by
  unfold wrongVF at h
  simp only [Bool.or_eq_false_iff, Bool.not_eq_eq_eq_not, Bool.not_false, decide_eq_true_iff] at h
  have hn := h.2
  unfold numsF at hn
  rw [List.flatMap_def] at hn
  have hs : (l.map Fl.no).Sublist (LL.map fun l => l.map fun f => f.no).flatten := List.sublist_flatten_of_mem (List.mem_map.2 ⟨l, List.mem_of_getElem? hk, rfl⟩)
  exact hs.nodup hn
theorem no_inj {l : List Fl} (h : (l.map Fl.no).Nodup) {f g : Fl} (hf : f ∈ l) (hg : g ∈ l) (e : f.no = g.no) : f = g := by
  obtain ⟨i, hi⟩ := List.getElem?_of_mem hf
  obtain ⟨j, hj⟩ := List.getElem?_of_mem hg
  have h1 : (l.map Fl.no)[i]? = some f.no := by rw [List.getElem?_map, hi]; rfl
  have h2 : (l.map Fl.no)[j]? = some f.no := by rw [List.getElem?_map, hj, e]; rfl
  have hij := (List.getElem?_inj (List.getElem?_eq_some_iff.1 h1).1 h).1 (h1.trans h2.symm)
  subst hij
  rw [hi] at hj
  cases hj
  rfl
theorem UpP_unique {LL : List (List Fl)} {next seq log : Nat} (h : wrongVF LL next seq log = false) {k : Nat} {l : List Fl} (hk : LL[k]? = some l) {lo hi lo' hi' : List (BitVec 8)} (h1 : UpP l (k : Nat) lo hi) (h2 : UpP l (k : Nat) lo' hi') : lo = lo' ∧ hi = hi' := by
  unfold UpP at h1 h2
  split at h1
  · next h0 =>
    rw [if_pos h0] at h2
    obtain ⟨f0, hf0, hg, hc⟩ := h1
    obtain ⟨g0, hg0, hg', hc'⟩ := h2
    rw [hf0] at hg0
    cases hg0
    have a := hg.least lo' hi' hc' hg'.hold.1 hg'.hold.2
    have b := hg'.least lo hi hc hg.hold.1 hg.hold.2
    exact ⟨cle_antisymm b.1 a.1, cle_antisymm a.2 b.2⟩
  · next h0 =>
    rw [if_neg h0] at h2
    obtain ⟨f, hf, rfl, rfl, hm⟩ := h1
    obtain ⟨g, hg, rfl, rfl, hm'⟩ := h2
    have := no_inj (level_nodup h hk) hf hg (Nat.le_antisymm (hm g hg) (hm' f hf))
    subst this
    exact ⟨rfl, rfl⟩
end Go.Proofs.Ytkmcdjbadngfgaa
