import Derived.Test.YtkmcdjbadngfgaaM09
import Derived.Test.YtkmcdjbadngfgaaM02
/-
  A setup, a bound, a score.
-/
namespace Go.Proofs.Ytkmcdjbadngfgaa
open Go.RowKit
set_option maxRecDepth 100000
set_option maxHeartbeats 4000000
def setAgg (t b f : Int) : Value := .agg #[.int .i64 t, .int .i64 b, .int .i64 f]
def setBad (t b f : Int) : Bool := decide (t < 1) || decide (100 < t) || decide (b < 1) || decide (1073741824 < b) || decide (f < 2) || decide (100 < f)
def setE (t b f : Int) : Int := if setBad t b f then 2 else 0
theorem setBad_false {t b f : Int} (h : setBad t b f = false) : 1 ≤ t ∧ t ≤ 100 ∧ 1 ≤ b ∧ b ≤ 1073741824 ∧ 2 ≤ f ∧ f ≤ 100 := by
  unfold setBad at h
  simp only [Bool.or_eq_false_iff, decide_eq_false_iff_not] at h
  omega
theorem checkSetup_any (t b f : Int) (w : World) : Calls Try.prog 13 #[setAgg t b f] w fun e w' => e = .returned (.int .i64 (setE t b f)) ∧ Turns (fun _ => False) w w' := by
  have TA := hide ((Turns.refl (fun _ => False) w).alloc (.cells #[.int .i64 t, .int .i64 b, .int .i64 f] 35))
  have HE := hide (show setE t b f = if setBad t b f then 2 else 0 from rfl)
  have HB := hide (show setBad t b f = (decide (t < 1) || decide (100 < t) || decide (b < 1) || decide (1073741824 < b) || decide (f < 2) || decide (100 < f)) from rfl)
  unfold setAgg
  generalize setE t b f = E at *
  generalize setBad t b f = BD at *
  by_cases h1 : t < 1
  · go_enter Try.func13, Try.ntmps13
    go_wp2_with fail
    go_ret
    exact ⟨by rw [HE.out, HB.out]; simp [h1], TA.out⟩
  by_cases h2 : 100 < t
  · go_enter Try.func13, Try.ntmps13
    go_wp2_with fail
    go_ret
    exact ⟨by rw [HE.out, HB.out]; simp [h2], TA.out⟩
  by_cases h3 : b < 1
  · go_enter Try.func13, Try.ntmps13
    go_wp2_with fail
    go_ret
    exact ⟨by rw [HE.out, HB.out]; simp [h3], TA.out⟩
  by_cases h4 : 1073741824 < b
  · go_enter Try.func13, Try.ntmps13
    go_wp2_with fail
    go_ret
    exact ⟨by rw [HE.out, HB.out]; simp [h4], TA.out⟩
  by_cases h5 : f < 2
  · go_enter Try.func13, Try.ntmps13
    go_wp2_with fail
    go_ret
    exact ⟨by rw [HE.out, HB.out]; simp [h5], TA.out⟩
  by_cases h6 : 100 < f
  · go_enter Try.func13, Try.ntmps13
    go_wp2_with fail
    go_ret
    exact ⟨by rw [HE.out, HB.out]; simp [h6], TA.out⟩
  · go_enter Try.func13, Try.ntmps13
    go_wp2_with fail
    go_ret
    exact ⟨by rw [HE.out, HB.out]; simp [h1, h2, h3, h4, h5, h6], TA.out⟩
def boundP (t b f z : Int) : Int := if setBad t b f || decide (z < 0) || decide (4 ≤ z) then 0 else if z = 0 then t else b * f ^ (z - 1).toNat
theorem pow_le {f : Int} (h2 : 2 ≤ f) (h3 : f ≤ 100) : ∀ k : Nat, k ≤ 2 → 1 ≤ f ^ k ∧ f ^ k ≤ 10000
  | 0, _ => by rw [Int.pow_zero]; omega
  | 1, _ => by rw [Int.pow_succ, Int.pow_zero, Int.one_mul]; omega
  | 2, _ => by
    have e : f ^ 2 = f * f := by rw [Int.pow_succ, Int.pow_succ, Int.pow_zero, Int.one_mul]
    have a1 : f * f ≤ 100 * 100 := Int.mul_le_mul h3 h3 (by omega) (by omega)
    have a2 : 2 * 2 ≤ f * f := Int.mul_le_mul h2 h2 (by omega) (by omega)
    omega
theorem boundP_pos {t b f z : Int} (h : setBad t b f = false) (h0 : 0 ≤ z) (h1 : z < 4) : 1 ≤ boundP t b f z ∧ boundP t b f z ≤ 10737418240000 := by
  obtain ⟨a1, a2, a3, a4, a5, a6⟩ := setBad_false h
  unfold boundP
  rw [h]
  have n0 : ¬ z < 0 := by omega
  have n1 : ¬ 4 ≤ z := by omega
  simp only [n0, n1, decide_false, Bool.or_false, Bool.false_eq_true, if_false]
  split
  · omega
  · obtain ⟨p1, p2⟩ := pow_le a5 a6 (z - 1).toNat (by omega)
    have m1 : b * f ^ (z - 1).toNat ≤ 1073741824 * 10000 := Int.mul_le_mul a4 p2 (by omega) (by omega)
    have m2 : 1 * 1 ≤ b * f ^ (z - 1).toNat := Int.mul_le_mul a3 p1 (by omega) (by omega)
    omega
theorem wrap64_of {X : Int} (h1 : -9223372036854775808 ≤ X) (h2 : X < 9223372036854775808) : wrap64 X = X := by unfold wrap64; omega
theorem wrap64_in {X : Int} (h1 : 1 * 1 ≤ X) (h2 : X ≤ 1073741824 * 10000) : wrap64 X = X := wrap64_of (by omega) (by omega)
theorem bound_any (t b f z : Int) (w : World) : Calls Try.prog 11 #[setAgg t b f, .int .i64 z] w fun e w' => e = .returned (.int .i64 (boundP t b f z)) ∧ Turns (fun _ => False) w w' := by
  have TA := hide ((Turns.refl (fun _ => False) w).alloc (.cells #[.int .i64 t, .int .i64 b, .int .i64 f] 35))
  have R0 := hide (heap_alloc_new w (.cells #[.int .i64 t, .int .i64 b, .int .i64 f] 35))
  have CS := hide (checkSetup_any t b f (w.alloc (.cells #[.int .i64 t, .int .i64 b, .int .i64 f] 35)))
  have HE := hide (show setE t b f = if setBad t b f then 2 else 0 from rfl)
  have HB := hide (show boundP t b f z = if setBad t b f || decide (z < 0) || decide (4 ≤ z) then 0 else if z = 0 then t else b * f ^ (z - 1).toNat from rfl)
  have HS := hide (@setBad_false t b f)
  unfold setAgg at *
  generalize boundP t b f z = BP at *
  generalize setE t b f = E at *
  generalize setBad t b f = BD at *
  go_enter Try.func11, Try.ntmps11
  go_wp2_with fail
  refine CS.out.mono ?_
  rintro e w1 ⟨rfl, t1⟩
  have T1 := hide (TA.out.trans t1)
  have R1 := t1.heap R0.out (fun x => x)
  have q0 := cell_of_row w1 w.heap.size 0 _ 35 (0, 0) R1
  have q1 := cell_of_row w1 w.heap.size 1 _ 35 (0, 0) R1
  have q2 := cell_of_row w1 w.heap.size 2 _ 35 (0, 0) R1
  clear R1 t1 CS
  generalize hP : w.heap.size = P at *
  clear hP
  cases BD with
  | true =>
    have hE : E = 2 := by rw [HE.out]; rfl
    subst hE
    go_wp2_with fail
    go_ret
    exact ⟨by rw [HB.out]; simp, T1.out⟩
  | false =>
    have hE : E = 0 := by rw [HE.out]; rfl
    subst hE
    by_cases z0 : z < 0
    · go_wp2_with fail
      go_ret
      exact ⟨by rw [HB.out]; simp [z0], T1.out⟩
    by_cases z4 : 4 ≤ z
    · go_wp2_with fail
      go_ret
      exact ⟨by rw [HB.out]; simp [z4], T1.out⟩
    by_cases z1 : z = 0
    · have HB1 := hide (show BP = t by rw [HB.out]; simp [z1])
      clear HB
      go_wp2_with fail
      go_ret
      exact ⟨by rw [HB1.out]; rfl, T1.out⟩
    · have HB1 := hide (show BP = b * f ^ (z - 1).toNat by rw [HB.out]; simp [z0, z1, z4])
      clear HB
      obtain ⟨a1, a2, a3, a4, a5, a6⟩ := HS.out rfl
      have hz1 : IntKind.i64.wrap (z - 1) = z - 1 := wrapI _ (by omega) (by omega)
      obtain ⟨n, rfl⟩ : ∃ n : Nat, z = (n : Int) + 1 := ⟨(z - 1).toNat, by omega⟩
      have hn : n ≤ 2 := by omega
      have PW := hide (fun k h => pow_le a5 a6 k h)
      clear hz1
      go_wp2_with fail
      go_loopw [5, 23] (fun v i wr => ∃ k : Nat, i = .int .i64 (k : Nat) ∧ v = .int .i64 (b * f ^ k) ∧ k ≤ n ∧ Turns (fun _ => False) w1 wr) (fun _ i _ => n - (intOf i).toNat)
      case atStart => exact ⟨0, rfl, by simp, Nat.zero_le _, Turns.refl _ _⟩
      case round =>
        obtain ⟨k, rfl, rfl, hk, tr⟩ := hrel
        have TR := hide tr
        have q2' := tr.cell q2 (fun x => x)
        clear tr
        by_cases hkn : k < n
        · have HM := hide (show wrap64 (b * f ^ k * f) = b * f ^ (k + 1) by
            have e : b * f ^ (k + 1) = b * f ^ k * f := by rw [Int.pow_succ, Int.mul_assoc]
            obtain ⟨p1, p2⟩ := PW.out (k + 1) (by omega)
            have m1 : b * f ^ (k + 1) ≤ 1073741824 * 10000 := Int.mul_le_mul a4 p2 (Int.le_trans (by decide) p1) (by decide)
            have m2 : 1 * 1 ≤ b * f ^ (k + 1) := Int.mul_le_mul a3 p1 (by decide) (by omega)
            rw [← e]; exact wrap64_in m2 m1)
          go_wp2_with fail
          go_roundw
          case rel => exact ⟨k + 1, by go_num, by rw [HM.out], by omega, TR.out⟩
          case measure => simp [intOf]; omega
        · obtain rfl : k = n := by omega
          go_wp2_with fail
          go_ret
          exact ⟨by rw [HB1.out, show ((k : Int) + 1 - 1).toNat = k by omega]; rfl, T1.out.trans TR.out⟩
theorem pcheck_any (a : Option Addr) (n c next seq log : Nat) (L : List Lv) (t b f : Int) (w : World) (h : VerIn w a n L next seq log) :
    Calls Try.prog 25 #[verAgg a n c next seq log, setAgg t b f] w fun e w' => e = .returned (.int .i64 (if wrongVF (flL L) next seq log || setBad t b f then 2 else 0)) ∧ Turns (fun _ => False) w w' := by
  have TA := hide (((Turns.refl (fun _ => False) w).alloc (.cells #[.slice a n c, .int .u64 (next : Nat), .int .u64 (seq : Nat), .int .u64 (log : Nat)] 25)).alloc (.cells #[.int .i64 t, .int .i64 b, .int .i64 f] 35))
  have R1 := hide (heap_alloc_new (w.alloc (.cells #[.slice a n c, .int .u64 (next : Nat), .int .u64 (seq : Nat), .int .u64 (log : Nat)] 25)) (.cells #[.int .i64 t, .int .i64 b, .int .i64 f] 35))
  have CK := hide (check_any a n c next seq log L _ (h.quiet TA.out))
  have CS := hide (checkSetup_any t b f)
  have HC := hide (show chkV L next seq log = if wrongV L next seq log then 2 else 0 from rfl)
  have HE := hide (show setE t b f = if setBad t b f then 2 else 0 from rfl)
  have HW := hide (wrongV_F L next seq log)
  obtain ⟨RV, HRV⟩ : ∃ r : Int, r = if wrongVF (flL L) next seq log || setBad t b f then 2 else 0 := ⟨_, rfl⟩
  rw [← HRV]
  have HR := hide HRV
  clear HRV
  simp only [World.size_alloc] at R1
  unfold verAgg setAgg at *
  clear h
  generalize chkV L next seq log = CV at *
  generalize wrongVF (flL L) next seq log = WV at *
  generalize setE t b f = E at *
  generalize setBad t b f = BD at *
  go_enter Try.func25, Try.ntmps25
  go_wp2_with fail
  refine CK.out.mono ?_
  rintro e w1 ⟨rfl, t1⟩
  have T1 := hide (TA.out.trans t1)
  have r1 := t1.heap R1.out (fun x => x)
  have q0 := cell_of_row w1 (w.heap.size + 1) 0 _ 35 (0, 0) r1
  have q1 := cell_of_row w1 (w.heap.size + 1) 1 _ 35 (0, 0) r1
  have q2 := cell_of_row w1 (w.heap.size + 1) 2 _ 35 (0, 0) r1
  clear r1 t1 CK
  cases WV with
  | true =>
    have hV : CV = 2 := by rw [HC.out, HW.out]; rfl
    subst hV
    go_wp2_with fail
    go_ret
    exact ⟨by rw [HR.out]; rfl, T1.out⟩
  | false =>
    have hV : CV = 0 := by rw [HC.out, HW.out]; rfl
    subst hV
    go_wp2_with fail
    refine (CS.out _).mono ?_
    rintro e w2 ⟨rfl, t2⟩
    have T2 := hide (T1.out.trans t2)
    clear t2
    go_wp2_with fail
    go_ret
    exact ⟨by rw [HR.out, HE.out]; rfl, T2.out⟩
end Go.Proofs.Ytkmcdjbadngfgaa

/-
  Scores.
-/
namespace Go.Proofs.Ytkmcdjbadngfgaa
open Go.RowKit
set_option maxRecDepth 100000
set_option maxHeartbeats 4000000
def scoreP (LL : List (List Fl)) (t b f z : Int) : Int := if z = 0 then ((LL.getD 0 []).length : Int) * 100 / t else if z = 4 then 0 else sizesF (LL.getD z.toNat []) * 100 / boundP t b f z
theorem div_wrap {x t : Int} (h0 : 0 ≤ x) (h1 : x < 9223372036854775808) (ht : 1 ≤ t) : IntKind.i64.wrap (x.tdiv t) = x / t := by
  rw [Int.tdiv_eq_ediv_of_nonneg h0]
  have a1 : 0 ≤ x / t := Int.ediv_nonneg h0 (by omega)
  have a2 : x / t ≤ x := Int.ediv_le_self t h0
  exact wrapI _ (by omega) (by omega)
theorem sizes_le : ∀ (l : List Fl), (∀ f ∈ l, wrongF f = false) → 0 ≤ sizesF l ∧ sizesF l ≤ l.length * 16777216
  | [], _ => by simp [sizesF]
  | f :: r, h => by
    obtain ⟨h1, h2⟩ := sizes_le r fun x hx => h x (List.mem_cons_of_mem _ hx)
    obtain ⟨v1, v2, v3, v4, _⟩ := wrongF_false (h f List.mem_cons_self)
    unfold sizesF at *
    simp only [List.map_cons, List.sum_cons, List.length_cons]
    push_cast
    omega
theorem score_any (a : Option Addr) (n c next seq log : Nat) (L : List Lv) (t b f z : Int) (w : World) (h : VerIn w a n L next seq log) (hv : wrongVF (flL L) next seq log = false) (hs : setBad t b f = false) (h0 : 0 ≤ z) (h4 : z < 5) :
    Calls Try.prog 26 #[verAgg a n c next seq log, setAgg t b f, .int .i64 z] w fun e w' => e = .returned (.int .i64 (scoreP (flL L) t b f z)) ∧ Turns (fun _ => False) w w' := by
  have TA := hide (((Turns.refl (fun _ => False) w).alloc (.cells #[.slice a n c, .int .u64 (next : Nat), .int .u64 (seq : Nat), .int .u64 (log : Nat)] 25)).alloc (.cells #[.int .i64 t, .int .i64 b, .int .i64 f] 35))
  have R0 := hide (((Turns.refl (fun _ => False) (w.alloc (.cells #[.slice a n c, .int .u64 (next : Nat), .int .u64 (seq : Nat), .int .u64 (log : Nat)] 25))).alloc (.cells #[.int .i64 t, .int .i64 b, .int .i64 f] 35)).heap (heap_alloc_new w (.cells #[.slice a n c, .int .u64 (next : Nat), .int .u64 (seq : Nat), .int .u64 (log : Nat)] 25)) (fun x => x))
  have R1 := hide (heap_alloc_new (w.alloc (.cells #[.slice a n c, .int .u64 (next : Nat), .int .u64 (seq : Nat), .int .u64 (log : Nat)] 25)) (.cells #[.int .i64 t, .int .i64 b, .int .i64 f] 35))
  have H5 := len_of_ok hv
  rw [flL_length] at H5
  have hn := h.len
  have hcnt := h.cnt
  have hwf := wrongV_files ((wrongV_F L next seq log).trans hv)
  obtain ⟨s1, s2, _, _, _, _⟩ := setBad_false hs
  have hscore : scoreP (flL L) t b f z = if z = 0 then (((flL L).getD 0 []).length : Int) * 100 / t else if z = 4 then 0 else sizesF ((flL L).getD z.toNat []) * 100 / boundP t b f z := rfl
  have hfl : ∀ k : Nat, k < 5 → ∃ x : Lv, L[k]? = some x ∧ (flL L).getD k [] = fls x.l ∧ x.l.length ≤ 5000 ∧ 0 ≤ sizesF (fls x.l) ∧ sizesF (fls x.l) ≤ 5000 * 16777216 := fun k hk => by
    obtain ⟨x, hx⟩ : ∃ x, L[k]? = some x := ⟨_, List.getElem?_eq_getElem (by omega)⟩
    have c1 := cnt_take hx
    have c2 := cnt_take_le L (k + 1)
    obtain ⟨q1, q2⟩ := sizes_le (fls x.l) fun g hg => by
      obtain ⟨y, hy, rfl⟩ := List.mem_map.1 hg
      exact hwf x (List.mem_of_getElem? hx) y hy
    have hl : (fls x.l).length = x.l.length := by simp [fls]
    rw [hl] at q2
    exact ⟨x, hx, by rw [List.getD, flL_at hx]; rfl, by omega, q1, by omega⟩
  have BD := hide (fun u => bound_any t b f z u)
  have VB := hide (fun (u : World) (tu : Turns (fun _ => False) w u) => vbytes_any a n c next seq log L z u (h.quiet tu))
  simp only [World.size_alloc] at R1
  by_cases z0 : z = 0
  · subst z0
    obtain ⟨x, hx, hg, hxl, _⟩ := hfl 0 (by omega)
    obtain ⟨⟨bk, off, rfl, hc⟩, _⟩ := (h.quiet TA.out).levs 0 x hx
    have hbp : boundP t b f 0 = t := by unfold boundP; rw [hs]; simp
    rw [hbp] at BD
    rw [if_pos rfl, hg, show (fls x.l).length = x.l.length by simp [fls]] at hscore
    have HSC := hide hscore
    have hxi : (x.l.length : Int) ≤ 5000 := by omega
    have e0 : n ≠ 0 := by omega
    generalize x.l.length = XL at *
    generalize scoreP (flL L) t b f 0 = SC at *
    have q2 := cell_of_row _ w.heap.size 0 _ 25 (0, 0) R0.out
    obtain rfl : n = 5 := by omega
    have t0 : ¬ t = 0 := by omega
    rw [Nat.add_zero] at hc
    have hm : IntKind.i64.wrap ((XL : Int) * 100) = (XL : Int) * 100 := wrapI _ (by omega) (by omega)
    have hq : IntKind.i64.wrap (((XL : Int) * 100).tdiv t) = (XL : Int) * 100 / t := div_wrap (by omega) (by omega) (by omega)
    clear hfl hwf hscore hx hg h hv VB hxl hcnt H5 hs hbp hn e0
    unfold verAgg setAgg at *
    go_enter Try.func26, Try.ntmps26
    go_wp2_with fail
    generalize hP : w.heap.size = P at *
    generalize hw0 : (w.alloc (.cells #[.slice (some ⟨bk, off, none⟩) 5 c, .int .u64 (next : Nat), .int .u64 (seq : Nat), .int .u64 (log : Nat)] 25)).alloc (.cells #[.int .i64 t, .int .i64 b, .int .i64 f] 35) = w0 at *
    clear hw0 hP
    have SK := hide (fun (u : World) (tu : Turns (fun _ => False) w0 u) => show u.cell? ⟨P, 0, none⟩ = some (.slice (some ⟨bk, off, none⟩) 5 c) ∧ u.cell? ⟨bk, off, none⟩ = some (.slice x.a XL x.c) ∧ u.cell? ⟨P + 1, 0, none⟩ = some (.int .i64 t) ∧ u.cell? ⟨P + 1, 1, none⟩ = some (.int .i64 b) ∧ u.cell? ⟨P + 1, 2, none⟩ = some (.int .i64 f) from ⟨tu.cell q2 (fun x => x), tu.cell hc (fun x => x), cell_of_row u (P + 1) 0 _ 35 (0, 0) (tu.heap R1.out (fun x => x)), cell_of_row u (P + 1) 1 _ 35 (0, 0) (tu.heap R1.out (fun x => x)), cell_of_row u (P + 1) 2 _ 35 (0, 0) (tu.heap R1.out (fun x => x))⟩)
    clear q2 hc
    have tV := (Turns.refl (fun _ => False) w0).drew
    refine wp_region_held_drew (S := fun u => u.cell? ⟨P, 0, none⟩ = some (.slice (some ⟨bk, off, none⟩) 5 c) ∧ u.cell? ⟨bk, off, none⟩ = some (.slice x.a XL x.c) ∧ u.cell? ⟨P + 1, 0, none⟩ = some (.int .i64 t) ∧ u.cell? ⟨P + 1, 1, none⟩ = some (.int .i64 b) ∧ u.cell? ⟨P + 1, 2, none⟩ = some (.int .i64 f)) (by kernel_rfl) (SK.out _ tV) (fun _ => ?_)
    change wpAnyH _ _ _ _ _ 10 (Array.replicate 10 false) _ _
    refine wpAnyH_take (i := 0) (oi := { dst := some 10, op := Op.fieldAddr 25 (Operand.tmp 3) 0, type := 0, pos := "score.go:28", after := #[], guard := none }) (v := .pointer (some ⟨P, 0, none⟩)) rfl (by kernel_rfl) (by kernel_rfl) (by kernel_rfl) (fun _ _ _ h => h) (Or.inl ⟨by rfl, ?_⟩) (SK.out _ tV) ?_
    · rintro w ⟨s1, s2, s3, s4, s5⟩
      go_simp
    simp only [Act.put, List.setIfInBounds_toArray, List.set_cons_zero, List.set_cons_succ]
    refine wpAnyH_take (i := 1) (oi := { dst := some 11, op := Op.load 22 (Operand.tmp 10), type := 22, pos := "score.go:28", after := #[{ on := 0, ground := Ground.data }], guard := none }) (v := .slice (some ⟨bk, off, none⟩) 5 c) rfl (by kernel_rfl) (by kernel_rfl) (by kernel_rfl) (fun _ _ _ h => h) (Or.inl ⟨by rfl, ?_⟩) (SK.out _ tV) ?_
    · rintro w ⟨s1, s2, s3, s4, s5⟩
      go_simp
    simp only [Act.put, List.setIfInBounds_toArray, List.set_cons_zero, List.set_cons_succ]
    refine wpAnyH_take (i := 2) (oi := { dst := some 12, op := Op.indexAddr 22 (Operand.tmp 11) (Operand.const (Value.int IntKind.i64 0)), type := 0, pos := "score.go:28", after := #[{ on := 1, ground := Ground.data }], guard := none }) (v := .pointer (some ⟨bk, off, none⟩)) rfl (by kernel_rfl) (by kernel_rfl) (by kernel_rfl) (fun _ _ _ h => h) (Or.inl ⟨by rfl, ?_⟩) (SK.out _ tV) ?_
    · rintro w ⟨s1, s2, s3, s4, s5⟩
      go_simp
    simp only [Act.put, List.setIfInBounds_toArray, List.set_cons_zero, List.set_cons_succ]
    refine wpAnyH_take (i := 3) (oi := { dst := some 13, op := Op.load 31 (Operand.tmp 12), type := 31, pos := "score.go:28", after := #[{ on := 2, ground := Ground.data }], guard := none }) (v := .slice x.a XL x.c) rfl (by kernel_rfl) (by kernel_rfl) (by kernel_rfl) (fun _ _ _ h => h) (Or.inl ⟨by rfl, ?_⟩) (SK.out _ tV) ?_
    · rintro w ⟨s1, s2, s3, s4, s5⟩
      go_simp
    simp only [Act.put, List.setIfInBounds_toArray, List.set_cons_zero, List.set_cons_succ]
    refine wpAnyH_take (i := 4) (oi := { dst := some 14, op := Op.call { callee := Callee.builtin Builtin.len, args := #[Operand.tmp 13], argTypes := #[31] }, type := 3, pos := "score.go:28", after := #[{ on := 3, ground := Ground.data }], guard := none }) (v := .int .i64 ((XL : Nat) : Int)) rfl (by kernel_rfl) (by kernel_rfl) (by kernel_rfl) (fun _ _ _ h => h) (Or.inl ⟨by rfl, ?_⟩) (SK.out _ tV) ?_
    · rintro w ⟨s1, s2, s3, s4, s5⟩
      go_simp
    simp only [Act.put, List.setIfInBounds_toArray, List.set_cons_zero, List.set_cons_succ]
    refine wpAnyH_take (i := 5) (oi := { dst := some 15, op := Op.binOp BinOp.mul 3 (Operand.tmp 14) (Operand.const (Value.int IntKind.i64 100)) 3, type := 3, pos := "score.go:28", after := #[{ on := 4, ground := Ground.data }], guard := none }) (v := .int .i64 ((XL : Int) * 100)) rfl (by kernel_rfl) (by kernel_rfl) (by kernel_rfl) (fun _ _ _ h => h) (Or.inl ⟨by rfl, ?_⟩) (SK.out _ tV) ?_
    · rintro w ⟨s1, s2, s3, s4, s5⟩
      go_simp
    simp only [Act.put, List.setIfInBounds_toArray, List.set_cons_zero, List.set_cons_succ]
    refine wpAnyH_take (i := 6) (oi := { dst := some 16, op := Op.load 35 (Operand.tmp 4), type := 35, pos := "score.go:28", after := #[], guard := none }) (v := .agg #[.int .i64 t, .int .i64 b, .int .i64 f]) rfl (by kernel_rfl) (by kernel_rfl) (by kernel_rfl) (fun _ _ _ h => h) (Or.inl ⟨by rfl, ?_⟩) (SK.out _ tV) ?_
    · rintro w ⟨s1, s2, s3, s4, s5⟩
      go_simp
    simp only [Act.put, List.setIfInBounds_toArray, List.set_cons_zero, List.set_cons_succ]
    refine wpAnyH_ready (rs := [7]) (by kernel_rfl) (by simp) ?_
    refine AllReadyH.cons rfl (fun K hK => ?_) AllReadyH.nil
    go_simp
    refine (BD.out _).mono ?_
    rintro oo Vn ⟨rfl, tC⟩
    have tN := tC
    have tV := tV.trans tN
    clear tC
    clear tN
    go_simp
    refine hK.out _ _ (SK.out _ tV) (fun _ => ?_)
    clear hK K
    refine wpAnyH_take (i := 8) (oi := { dst := some 18, op := Op.binOp BinOp.quo 3 (Operand.tmp 15) (Operand.tmp 17) 3, type := 3, pos := "score.go:28", after := #[{ on := 5, ground := Ground.data }, { on := 7, ground := Ground.data }], guard := none }) (v := .int .i64 ((XL : Int) * 100 / t)) rfl (by kernel_rfl) (by kernel_rfl) (by kernel_rfl) (fun _ _ _ h => h) (Or.inl ⟨by rfl, ?_⟩) (SK.out _ tV) ?_
    · rintro w ⟨s1, s2, s3, s4, s5⟩
      go_simp
    simp only [Act.put, List.setIfInBounds_toArray, List.set_cons_zero, List.set_cons_succ]
    refine wpAnyH_take (i := 9) (oi := { dst := some 6, op := Op.assign (Operand.tmp 18), type := 3, pos := "score.go:28", after := #[{ on := 8, ground := Ground.data }, { on := 7, ground := Ground.chain }, { on := 0, ground := Ground.phase }, { on := 1, ground := Ground.phase }, { on := 2, ground := Ground.phase }, { on := 3, ground := Ground.phase }, { on := 4, ground := Ground.phase }, { on := 5, ground := Ground.phase }, { on := 6, ground := Ground.phase }, { on := 7, ground := Ground.phase }, { on := 8, ground := Ground.phase }], guard := none }) (v := .int .i64 ((XL : Int) * 100 / t)) rfl (by kernel_rfl) (by kernel_rfl) (by kernel_rfl) (fun _ _ _ h => h) (Or.inl ⟨by rfl, ?_⟩) (SK.out _ tV) ?_
    · rintro w ⟨s1, s2, s3, s4, s5⟩
      go_simp
    simp only [Act.put, List.setIfInBounds_toArray, List.set_cons_zero, List.set_cons_succ]
    refine wpAnyH_done (by kernel_rfl) ?_ _
    go_wp2_with fail
    go_ret
    exact ⟨by rw [HSC.out]; rfl, TA.out.trans tV⟩
  by_cases z4 : z = 4
  · subst z4
    rw [if_neg (by decide), if_pos rfl] at hscore
    have HSC := hide hscore
    generalize scoreP (flL L) t b f 4 = SC at *
    clear hfl hwf hscore h hv VB BD hcnt H5 hs hn
    unfold verAgg setAgg at *
    go_enter Try.func26, Try.ntmps26
    go_wp2_with fail
    go_ret
    exact ⟨by rw [HSC.out]; rfl, TA.out⟩
  · obtain ⟨x, hx, hg, hxl, hsz0, hsz1⟩ := hfl z.toNat (by omega)
    obtain ⟨hb1, hb2⟩ := boundP_pos hs h0 (show z < 4 by omega)
    have hff : filesF (flL L) next seq log z = fls x.l := by unfold filesF goodLev; rw [hv, hg]; simp; omega
    rw [hff] at VB
    rw [if_neg z0, if_neg z4, hg] at hscore
    have HSC := hide hscore
    have hvq : ∀ (u : World) (tu : Turns (fun _ => False) w u), True := fun _ _ => trivial
    generalize scoreP (flL L) t b f z = SC at *
    generalize sizesF (fls x.l) = SZ at *
    generalize boundP t b f z = BP at *
    have hm : IntKind.i64.wrap (SZ * 100) = SZ * 100 := wrapI _ (by omega) (by omega)
    have hq : IntKind.i64.wrap ((SZ * 100).tdiv BP) = SZ * 100 / BP := div_wrap (by omega) (by omega) (by omega)
    have t0 : ¬ BP = 0 := by omega
    have z5 : z < 4 := by omega
    clear hfl hwf hscore hx hg h hv hxl hcnt H5 hs hn hff hb1 hb2 hsz0 hsz1 hvq
    unfold verAgg setAgg at *
    go_enter Try.func26, Try.ntmps26
    go_wp2_with fail
    generalize hw0 : (w.alloc (.cells #[.slice a n c, .int .u64 (next : Nat), .int .u64 (seq : Nat), .int .u64 (log : Nat)] 25)).alloc (.cells #[.int .i64 t, .int .i64 b, .int .i64 f] 35) = w0 at *
    replace VB := hide (fun (u : World) (tu : Turns (fun _ => False) w0 u) => VB.out u (TA.out.trans tu))
    generalize hP : w.heap.size = P at *
    clear hw0 hP
    have SK := hide (fun (u : World) (tu : Turns (fun _ => False) w0 u) => show (u.cell? ⟨P, 0, none⟩ = some (.slice a n c) ∧ u.cell? ⟨P, 1, none⟩ = some (.int .u64 (next : Nat)) ∧ u.cell? ⟨P, 2, none⟩ = some (.int .u64 (seq : Nat)) ∧ u.cell? ⟨P, 3, none⟩ = some (.int .u64 (log : Nat))) ∧ u.cell? ⟨P + 1, 0, none⟩ = some (.int .i64 t) ∧ u.cell? ⟨P + 1, 1, none⟩ = some (.int .i64 b) ∧ u.cell? ⟨P + 1, 2, none⟩ = some (.int .i64 f) from ⟨⟨cell_of_row u P 0 _ 25 (0, 0) (tu.heap R0.out (fun x => x)), cell_of_row u P 1 _ 25 (0, 0) (tu.heap R0.out (fun x => x)), cell_of_row u P 2 _ 25 (0, 0) (tu.heap R0.out (fun x => x)), cell_of_row u P 3 _ 25 (0, 0) (tu.heap R0.out (fun x => x))⟩, cell_of_row u (P + 1) 0 _ 35 (0, 0) (tu.heap R1.out (fun x => x)), cell_of_row u (P + 1) 1 _ 35 (0, 0) (tu.heap R1.out (fun x => x)), cell_of_row u (P + 1) 2 _ 35 (0, 0) (tu.heap R1.out (fun x => x))⟩)
    have tV := (Turns.refl (fun _ => False) w0).drew
    refine wp_region_held_drew (S := fun u => (u.cell? ⟨P, 0, none⟩ = some (.slice a n c) ∧ u.cell? ⟨P, 1, none⟩ = some (.int .u64 (next : Nat)) ∧ u.cell? ⟨P, 2, none⟩ = some (.int .u64 (seq : Nat)) ∧ u.cell? ⟨P, 3, none⟩ = some (.int .u64 (log : Nat))) ∧ u.cell? ⟨P + 1, 0, none⟩ = some (.int .i64 t) ∧ u.cell? ⟨P + 1, 1, none⟩ = some (.int .i64 b) ∧ u.cell? ⟨P + 1, 2, none⟩ = some (.int .i64 f)) (by kernel_rfl) (SK.out _ tV) (fun _ => ?_)
    change wpAnyH _ _ _ _ _ 9 (Array.replicate 9 false) _ _
    refine wpAnyH_take (i := 0) (oi := { dst := some 21, op := Op.load 25 (Operand.tmp 3), type := 25, pos := "score.go:32", after := #[], guard := none }) (v := .agg #[.slice a n c, .int .u64 (next : Nat), .int .u64 (seq : Nat), .int .u64 (log : Nat)]) rfl (by kernel_rfl) (by kernel_rfl) (by kernel_rfl) (fun _ _ _ h => h) (Or.inl ⟨by rfl, ?_⟩) (SK.out _ tV) ?_
    · rintro w ⟨⟨s1, s2, s3, s4⟩, s5, s6, s7⟩
      go_simp
    simp only [Act.put, List.setIfInBounds_toArray, List.set_cons_zero, List.set_cons_succ]
    refine wpAnyH_take (i := 1) (oi := { dst := some 22, op := Op.move (Operand.tmp 2), type := 3, pos := "score.go:32", after := #[], guard := none }) (v := .int .i64 z) rfl (by kernel_rfl) (by kernel_rfl) (by kernel_rfl) (fun _ _ _ h => h) (Or.inl ⟨by rfl, ?_⟩) (SK.out _ tV) ?_
    · rintro w ⟨⟨s1, s2, s3, s4⟩, s5, s6, s7⟩
      go_simp
    simp only [Act.put, List.setIfInBounds_toArray, List.set_cons_zero, List.set_cons_succ]
    refine wpAnyH_take (i := 4) (oi := { dst := some 25, op := Op.load 35 (Operand.tmp 4), type := 35, pos := "score.go:32", after := #[], guard := none }) (v := .agg #[.int .i64 t, .int .i64 b, .int .i64 f]) rfl (by kernel_rfl) (by kernel_rfl) (by kernel_rfl) (fun _ _ _ h => h) (Or.inl ⟨by rfl, ?_⟩) (SK.out _ tV) ?_
    · rintro w ⟨⟨s1, s2, s3, s4⟩, s5, s6, s7⟩
      go_simp
    simp only [Act.put, List.setIfInBounds_toArray, List.set_cons_zero, List.set_cons_succ]
    refine wpAnyH_take (i := 5) (oi := { dst := some 26, op := Op.move (Operand.tmp 2), type := 3, pos := "score.go:32", after := #[], guard := none }) (v := .int .i64 z) rfl (by kernel_rfl) (by kernel_rfl) (by kernel_rfl) (fun _ _ _ h => h) (Or.inl ⟨by rfl, ?_⟩) (SK.out _ tV) ?_
    · rintro w ⟨⟨s1, s2, s3, s4⟩, s5, s6, s7⟩
      go_simp
    simp only [Act.put, List.setIfInBounds_toArray, List.set_cons_zero, List.set_cons_succ]
    refine wpAnyH_ready (rs := [2]) (by kernel_rfl) (by simp) ?_
    refine AllReadyH.cons rfl (fun K hK => ?_) AllReadyH.nil
    go_simp
    refine (VB.out _ tV).mono ?_
    rintro oo Vn ⟨rfl, tC⟩
    have tV := tV.trans tC
    clear tC
    go_simp
    refine hK.out _ _ (SK.out _ tV) (fun _ => ?_)
    clear hK K
    refine wpAnyH_take (i := 3) (oi := { dst := some 24, op := Op.binOp BinOp.mul 3 (Operand.tmp 23) (Operand.const (Value.int IntKind.i64 100)) 3, type := 3, pos := "score.go:32", after := #[{ on := 2, ground := Ground.data }], guard := none }) (v := .int .i64 (SZ * 100)) rfl (by kernel_rfl) (by kernel_rfl) (by kernel_rfl) (fun _ _ _ h => h) (Or.inl ⟨by rfl, ?_⟩) (SK.out _ tV) ?_
    · rintro w ⟨⟨s1, s2, s3, s4⟩, s5, s6, s7⟩
      go_simp
    simp only [Act.put, List.setIfInBounds_toArray, List.set_cons_zero, List.set_cons_succ]
    refine wpAnyH_ready (rs := [6]) (by kernel_rfl) (by simp) ?_
    refine AllReadyH.cons rfl (fun K hK => ?_) AllReadyH.nil
    go_simp
    refine (BD.out _).mono ?_
    rintro oo Vn ⟨rfl, tC⟩
    have tV := tV.trans tC
    clear tC
    go_simp
    refine hK.out _ _ (SK.out _ tV) (fun _ => ?_)
    clear hK K
    refine wpAnyH_take (i := 7) (oi := { dst := some 28, op := Op.binOp BinOp.quo 3 (Operand.tmp 24) (Operand.tmp 27) 3, type := 3, pos := "score.go:32", after := #[{ on := 3, ground := Ground.data }, { on := 6, ground := Ground.data }], guard := none }) (v := .int .i64 (SZ * 100 / BP)) rfl (by kernel_rfl) (by kernel_rfl) (by kernel_rfl) (fun _ _ _ h => h) (Or.inl ⟨by rfl, ?_⟩) (SK.out _ tV) ?_
    · rintro w ⟨⟨s1, s2, s3, s4⟩, s5, s6, s7⟩
      go_simp
    simp only [Act.put, List.setIfInBounds_toArray, List.set_cons_zero, List.set_cons_succ]
    refine wpAnyH_take (i := 8) (oi := { dst := some 6, op := Op.assign (Operand.tmp 28), type := 3, pos := "score.go:32", after := #[{ on := 7, ground := Ground.data }, { on := 6, ground := Ground.chain }, { on := 0, ground := Ground.phase }, { on := 1, ground := Ground.phase }, { on := 2, ground := Ground.phase }, { on := 3, ground := Ground.phase }, { on := 4, ground := Ground.phase }, { on := 5, ground := Ground.phase }, { on := 6, ground := Ground.phase }, { on := 7, ground := Ground.phase }], guard := none }) (v := .int .i64 (SZ * 100 / BP)) rfl (by kernel_rfl) (by kernel_rfl) (by kernel_rfl) (fun _ _ _ h => h) (Or.inl ⟨by rfl, ?_⟩) (SK.out _ tV) ?_
    · rintro w ⟨⟨s1, s2, s3, s4⟩, s5, s6, s7⟩
      go_simp
    simp only [Act.put, List.setIfInBounds_toArray, List.set_cons_zero, List.set_cons_succ]
    refine wpAnyH_done (by kernel_rfl) ?_ _
    go_wp2_with fail
    go_ret
    exact ⟨by rw [HSC.out]; rfl, TA.out.trans tV⟩
end Go.Proofs.Ytkmcdjbadngfgaa

/-
  The scores of all levels, and which is due.
-/
namespace Go.Proofs.Ytkmcdjbadngfgaa
open Go.RowKit
set_option maxRecDepth 100000
set_option maxHeartbeats 4000000
def ScoreP (LL : List (List Fl)) (next seq log : Nat) (t b f z : Int) : Int := if z < 0 ∨ 5 ≤ z ∨ (wrongVF LL next seq log || setBad t b f) = true then 0 else scoreP LL t b f z
theorem Score_any (a : Option Addr) (n c next seq log : Nat) (L : List Lv) (t b f z : Int) (w : World) (h : VerIn w a n L next seq log) :
    Calls Try.prog 9 #[verAgg a n c next seq log, setAgg t b f, .int .i64 z] w fun e w' => e = .returned (.int .i64 (ScoreP (flL L) next seq log t b f z)) ∧ Turns (fun _ => False) w w' := by
  have TA := hide (((Turns.refl (fun _ => False) w).alloc (.cells #[.slice a n c, .int .u64 (next : Nat), .int .u64 (seq : Nat), .int .u64 (log : Nat)] 25)).alloc (.cells #[.int .i64 t, .int .i64 b, .int .i64 f] 35))
  have R0 := hide (((Turns.refl (fun _ => False) (w.alloc (.cells #[.slice a n c, .int .u64 (next : Nat), .int .u64 (seq : Nat), .int .u64 (log : Nat)] 25))).alloc (.cells #[.int .i64 t, .int .i64 b, .int .i64 f] 35)).heap (heap_alloc_new w (.cells #[.slice a n c, .int .u64 (next : Nat), .int .u64 (seq : Nat), .int .u64 (log : Nat)] 25)) (fun x => x))
  have R1 := hide (heap_alloc_new (w.alloc (.cells #[.slice a n c, .int .u64 (next : Nat), .int .u64 (seq : Nat), .int .u64 (log : Nat)] 25)) (.cells #[.int .i64 t, .int .i64 b, .int .i64 f] 35))
  simp only [World.size_alloc] at R1
  have HS := hide (show ScoreP (flL L) next seq log t b f z = if z < 0 ∨ 5 ≤ z ∨ (wrongVF (flL L) next seq log || setBad t b f) = true then 0 else scoreP (flL L) t b f z from rfl)
  have CK := hide (fun (u : World) (tu : Turns (fun _ => False) w u) => pcheck_any a n c next seq log L t b f u (h.quiet tu))
  have SC := hide (fun (u : World) (tu : Turns (fun _ => False) w u) (hv : wrongVF (flL L) next seq log = false) (hs : setBad t b f = false) (h0 : 0 ≤ z) (h4 : z < 5) => score_any a n c next seq log L t b f z u (h.quiet tu) hv hs h0 h4)
  clear h
  generalize ScoreP (flL L) next seq log t b f z = RS at *
  generalize scoreP (flL L) t b f z = SV at *
  generalize wrongVF (flL L) next seq log = WV at *
  generalize setBad t b f = BD at *
  unfold verAgg setAgg at *
  by_cases z0 : z < 0
  · go_enter Try.func9, Try.ntmps9
    go_wp2_with fail
    go_ret
    exact ⟨by rw [HS.out, if_pos (.inl z0)]; rfl, TA.out⟩
  by_cases z5 : 5 ≤ z
  · go_enter Try.func9, Try.ntmps9
    go_wp2_with fail
    go_ret
    exact ⟨by rw [HS.out, if_pos (.inr (.inl z5))]; rfl, TA.out⟩
  · obtain ⟨ER, hER⟩ : ∃ r : Int, r = if (WV || BD) = true then 2 else 0 := ⟨_, rfl⟩
    rw [← hER] at CK
    have HER := hide hER
    clear hER
    go_enter Try.func9, Try.ntmps9
    go_wp2_with fail
    refine (CK.out _ TA.out).mono ?_
    rintro e w1 ⟨rfl, t1⟩
    have T1 := hide (TA.out.trans t1)
    have r0 := t1.heap R0.out (fun x => x)
    have r1 := t1.heap R1.out (fun x => x)
    have p0 := cell_of_row w1 w.heap.size 0 _ 25 (0, 0) r0
    have p1 := cell_of_row w1 w.heap.size 1 _ 25 (0, 0) r0
    have p2 := cell_of_row w1 w.heap.size 2 _ 25 (0, 0) r0
    have p3 := cell_of_row w1 w.heap.size 3 _ 25 (0, 0) r0
    have q0 := cell_of_row w1 (w.heap.size + 1) 0 _ 35 (0, 0) r1
    have q1 := cell_of_row w1 (w.heap.size + 1) 1 _ 35 (0, 0) r1
    have q2 := cell_of_row w1 (w.heap.size + 1) 2 _ 35 (0, 0) r1
    clear t1 r0 r1 CK
    cases hWB : (WV || BD) with
    | true =>
      rw [hWB, if_pos rfl] at HER
      obtain rfl : ER = 2 := HER.out
      have HR := hide (show RS = 0 by rw [HS.out, if_pos (.inr (.inr hWB))])
      clear HS hWB SC
      go_wp2_with fail
      go_ret
      exact ⟨by rw [HR.out]; rfl, T1.out⟩
    | false =>
      rw [hWB] at HER
      obtain rfl : ER = 0 := HER.out
      simp only [Bool.or_eq_false_iff] at hWB
      have HR := hide (show RS = SV by rw [HS.out, if_neg (by simp [hWB.1, hWB.2]; omega)])
      have SC := hide (SC.out w1 T1.out hWB.1 hWB.2 (by omega) (by omega))
      clear HS hWB
      go_wp2_with fail
      refine SC.out.mono ?_
      rintro e w2 ⟨rfl, t2⟩
      have T2 := hide (T1.out.trans t2)
      clear t2
      go_wp2_with fail
      go_ret
      exact ⟨by rw [HR.out]; rfl, T2.out⟩
end Go.Proofs.Ytkmcdjbadngfgaa

/-
  The scores of all levels, and which is due.
-/
namespace Go.Proofs.Ytkmcdjbadngfgaa
open Go.RowKit
set_option maxRecDepth 100000
set_option maxHeartbeats 4000000
def sArr (s : Nat → Int) (k : Nat) : Array Value := #[.int .i64 (if 0 < k then s 0 else 0), .int .i64 (if 1 < k then s 1 else 0), .int .i64 (if 2 < k then s 2 else 0), .int .i64 (if 3 < k then s 3 else 0), .int .i64 (if 4 < k then s 4 else 0)]
theorem sArr_set (s : Nat → Int) (k : Nat) (h : k < 5) : (sArr s k).setIfInBounds k (.int .i64 (s k)) = sArr s (k + 1) := by
  obtain rfl | rfl | rfl | rfl | rfl : k = 0 ∨ k = 1 ∨ k = 2 ∨ k = 3 ∨ k = 4 := by omega
  all_goals rfl
theorem sArr_at (s : Nat → Int) (k : Nat) (h : k < 5) : (sArr s k)[k]? = some (.int .i64 0) := by
  obtain rfl | rfl | rfl | rfl | rfl : k = 0 ∨ k = 1 ∨ k = 2 ∨ k = 3 ∨ k = 4 := by omega
  all_goals rfl
theorem sz54 : (Try.prog.info? 54).map (·.size) = some 5 := by kernel_rfl
theorem scores_any (a : Option Addr) (n c next seq log : Nat) (L : List Lv) (t b f : Int) (w : World) (h : VerIn w a n L next seq log) (hv : wrongVF (flL L) next seq log = false) (hs : setBad t b f = false) :
    Calls Try.prog 28 #[verAgg a n c next seq log, setAgg t b f] w fun e w' => e = .returned (.agg #[.int .i64 (scoreP (flL L) t b f 0), .int .i64 (scoreP (flL L) t b f 1), .int .i64 (scoreP (flL L) t b f 2), .int .i64 (scoreP (flL L) t b f 3), .int .i64 (scoreP (flL L) t b f 4)]) ∧ Turns (fun _ => False) w w' := by
  have CS := hide (fun (k : Nat) (hk : k < 5) (u : World) (tu : Turns (fun _ => False) w u) => score_any a n c next seq log L t b f (k : Nat) u (h.quiet tu) hv hs (by omega) (by omega))
  generalize hS : (fun k : Nat => scoreP (flL L) t b f (k : Nat)) = S
  have e0 : scoreP (flL L) t b f 0 = S 0 := by rw [← hS]; rfl
  have e1 : scoreP (flL L) t b f 1 = S 1 := by rw [← hS]; rfl
  have e2 : scoreP (flL L) t b f 2 = S 2 := by rw [← hS]; rfl
  have e3 : scoreP (flL L) t b f 3 = S 3 := by rw [← hS]; rfl
  have e4 : scoreP (flL L) t b f 4 = S 4 := by rw [← hS]; rfl
  have eS : ∀ k : Nat, scoreP (flL L) t b f (k : Nat) = S k := fun k => by rw [← hS]
  simp only [eS] at CS
  rw [e0, e1, e2, e3, e4]
  clear e0 e1 e2 e3 e4 eS hS h hv hs
  unfold verAgg setAgg at *
  go_enter Try.func28, Try.ntmps28
  go_wp2_with fail
  generalize hP : w.heap.size = P at *
  obtain ⟨w1, hw1⟩ : ∃ u, u = (((w.alloc (.cells #[.slice a n c, .int .u64 (next : Nat), .int .u64 (seq : Nat), .int .u64 (log : Nat)] 25)).alloc (.cells #[.int .i64 t, .int .i64 b, .int .i64 f] 35)).alloc (.cells #[.int .i64 0, .int .i64 0, .int .i64 0, .int .i64 0, .int .i64 0] 54)).alloc (.cells #[.int .i64 0, .int .i64 0, .int .i64 0, .int .i64 0, .int .i64 0] 54) := ⟨_, rfl⟩
  rw [← hw1]
  have T1 := hide (show Turns (fun _ => False) w w1 by rw [hw1]; exact ((((Turns.refl _ w).alloc _).alloc _).alloc _).alloc _)
  have r0 : w1.heap[P]? = some (.cells #[.slice a n c, .int .u64 (next : Nat), .int .u64 (seq : Nat), .int .u64 (log : Nat)] 25 (0, 0)) := by
    rw [hw1, ← hP]; exact ((((Turns.refl (fun _ => False) _).alloc _).alloc _).alloc _).heap (heap_alloc_new w _) (fun x => x)
  have r1 : w1.heap[P + 1]? = some (.cells #[.int .i64 t, .int .i64 b, .int .i64 f] 35 (0, 0)) := by
    rw [hw1, ← hP, ← World.size_alloc]; exact (((Turns.refl (fun _ => False) _).alloc _).alloc _).heap (heap_alloc_new (w.alloc _) _) (fun x => x)
  have r2 : w1.heap[P + 2]? = some (.cells #[.int .i64 0, .int .i64 0, .int .i64 0, .int .i64 0, .int .i64 0] 54 (0, 0)) := by
    rw [hw1, ← hP, show w.heap.size + 2 = ((w.alloc (.cells #[.slice a n c, .int .u64 (next : Nat), .int .u64 (seq : Nat), .int .u64 (log : Nat)] 25)).alloc (.cells #[.int .i64 t, .int .i64 b, .int .i64 f] 35)).heap.size by simp only [World.size_alloc]]
    exact ((Turns.refl (fun _ => False) _).alloc _).heap (heap_alloc_new _ _) (fun x => x)
  have r3 : w1.heap[P + 3]? = some (.cells (sArr S 0) 54 (0, 0)) := by
    rw [hw1, ← hP, show w.heap.size + 3 = (((w.alloc (.cells #[.slice a n c, .int .u64 (next : Nat), .int .u64 (seq : Nat), .int .u64 (log : Nat)] 25)).alloc (.cells #[.int .i64 t, .int .i64 b, .int .i64 f] 35)).alloc (.cells #[.int .i64 0, .int .i64 0, .int .i64 0, .int .i64 0, .int .i64 0] 54)).heap.size by simp only [World.size_alloc]]
    exact heap_alloc_new _ _
  have R0 := hide r0
  have R1 := hide r1
  have R2 := hide r2
  have hlt := (Array.getElem?_eq_some_iff.1 r3).1
  have HP := hide (show w.heap.size ≤ P ∧ P + 3 < w1.heap.size from ⟨by omega, hlt⟩)
  clear hw1 hP r0 r1 r2 hlt
  go_loopw [7] (fun i wr => ∃ k : Nat, i = .int .i64 (k : Nat) ∧ k ≤ 5 ∧ wr.heap[P + 3]? = some (.cells (sArr S k) 54 (0, 0)) ∧ Turns (fun j => j = P + 3) w1 wr) (fun i _ => 5 - (intOf i).toNat)
  case atStart => exact ⟨0, rfl, by omega, r3, Turns.refl _ _⟩
  case round =>
    clear r3
    obtain ⟨k, rfl, hk, hrow, tr⟩ := hrel
    have TR := hide tr
    have HT := hide (show Turns (fun _ => False) w wr from T1.out.andThen tr fun j hj e => by have := HP.out; omega)
    have p0 := cell_of_row wr P 0 _ 25 (0, 0) (tr.heap R0.out (by omega))
    have p1 := cell_of_row wr P 1 _ 25 (0, 0) (tr.heap R0.out (by omega))
    have p2 := cell_of_row wr P 2 _ 25 (0, 0) (tr.heap R0.out (by omega))
    have p3 := cell_of_row wr P 3 _ 25 (0, 0) (tr.heap R0.out (by omega))
    have q0 := cell_of_row wr (P + 1) 0 _ 35 (0, 0) (tr.heap R1.out (by omega))
    have q1 := cell_of_row wr (P + 1) 1 _ 35 (0, 0) (tr.heap R1.out (by omega))
    have q2 := cell_of_row wr (P + 1) 2 _ 35 (0, 0) (tr.heap R1.out (by omega))
    clear tr
    by_cases hk5 : k < 5
    · have HROW := hide hrow
      clear hrow
      have CC := hide (CS.out k hk5 wr HT.out)
      have ik : (k : Int) < 5 := by omega
      have i0 : (0 : Int) ≤ k := by omega
      go_wp2_with fail
      refine CC.out.mono ?_
      rintro e w2 ⟨rfl, t2⟩
      have TK := hide (Tick.refl (t2.heap HROW.out (fun x => x)))
      have T2 := hide t2
      have hc : w2.cell? ⟨P + 3, k, none⟩ = some (.int .i64 0) := by rw [TK.out.cell k]; exact sArr_at S k hk5
      have hfz := TK.out.frozen k
      clear t2
      go_wp2_with fail
      go_roundw
      case rel => 
        have tk := TK.out.set k (.int .i64 (S k))
        rw [sArr_set S k hk5] at tk
        exact ⟨k + 1, by go_num, by omega, tk.1, (TR.out.trans (T2.out.mono fun _ _ x => x.elim)).trans (Turns.of_tick tk)⟩
      case measure => simp [intOf]; omega
    · obtain rfl : k = 5 := by omega
      have c0 : wr.cell? ⟨P + 1 + 1 + 1, 0, none⟩ = some (.int .i64 (S 0)) := cell_of_row wr (P + 3) 0 _ 54 (0, 0) hrow
      have c1 : wr.cell? ⟨P + 1 + 1 + 1, 1, none⟩ = some (.int .i64 (S 1)) := cell_of_row wr (P + 3) 1 _ 54 (0, 0) hrow
      have c2 : wr.cell? ⟨P + 1 + 1 + 1, 2, none⟩ = some (.int .i64 (S 2)) := cell_of_row wr (P + 3) 2 _ 54 (0, 0) hrow
      have c3 : wr.cell? ⟨P + 1 + 1 + 1, 3, none⟩ = some (.int .i64 (S 3)) := cell_of_row wr (P + 3) 3 _ 54 (0, 0) hrow
      have c4 : wr.cell? ⟨P + 1 + 1 + 1, 4, none⟩ = some (.int .i64 (S 4)) := cell_of_row wr (P + 3) 4 _ 54 (0, 0) hrow
      have R2' := hide (TR.out.heap R2.out (by omega))
      clear hrow p0 p1 p2 p3 q0 q1 q2
      go_wp2_with (refine wpList_store_row rfl 54 _ _ rfl _ _ rfl rfl _ _ R2'.out ?_ ?_ ?_ ?_; (exact sz54); (simp only [List.size_toArray, List.length_cons, List.length_nil]); (simp [Value.oneCell']))
      have tz : Turns (fun j => j = P + 2) wr (wr.setRow (P + 2) #[.int .i64 (S 0), .int .i64 (S 1), .int .i64 (S 2), .int .i64 (S 3), .int .i64 (S 4)]) := ⟨rfl, rfl, rfl, by simp, fun k _ hk => setRow_other _ _ _ _ hk⟩
      refine bodyPost_ret (v := .agg #[.int .i64 (S 0), .int .i64 (S 1), .int .i64 (S 2), .int .i64 (S 3), .int .i64 (S 4)]) ?_ rfl ?_
      · exact results_cell_row Try.results28 _ _ _ _ _ _ _ rfl (setRow_heap _ _ _ _ _ _ R2'.out) Try.underlying54 rfl sz54
      · exact ⟨rfl, HT.out.andThen tz fun j hj e => by have := HP.out; omega⟩
def idxOfI (l : List Int) (v : Int) : Int := if v ∈ l then ((l.findIdx fun x => x == v : Nat) : Int) else -1
theorem findIdx_at {l : List Int} {v : Int} {k : Nat} (h : l[k]? = some v) (hno : ∀ j, j < k → l[j]? ≠ some v) : idxOfI l v = (k : Int) := by
  unfold idxOfI
  have hk := (List.getElem?_eq_some_iff.1 h).1
  rw [if_pos (List.mem_of_getElem? h)]
  congr 1
  rw [List.findIdx_eq hk]
  refine ⟨by simp [(List.getElem?_eq_some_iff.1 h).2], fun j hj => ?_⟩
  have := hno j hj
  rw [List.getElem?_eq_getElem (by omega)] at this
  simpa using fun e => this (by rw [e])
theorem index_any (g n c : Nat) (l : List Int) (v : Int) (w : World) (hn : n = l.length) (hm : n ≤ 1000000) (h : ∀ k x, l[k]? = some x → w.cell? ⟨g, k, none⟩ = some (.int .i64 x)) :
    Calls Try.prog 44 #[.slice (some ⟨g, 0, none⟩) n c, .int .i64 v] w fun e w' => e = .returned (.int .i64 (idxOfI l v)) ∧ w' = w := by
  have HN := hide hn
  have H := hide h
  have HO := hide (show idxOfI l v = if v ∈ l then ((l.findIdx fun x => x == v : Nat) : Int) else -1 from rfl)
  have HF := hide (fun (k : Nat) (h1 : l[k]? = some v) h2 => findIdx_at (k := k) h1 h2)
  generalize idxOfI l v = R at *
  clear hn h
  go_enter Try.func44, Try.ntmps44
  go_wp2_with fail
  go_loopw [8] (fun i wr => ∃ k : Nat, i = .int .i64 (k : Nat) ∧ k ≤ n ∧ (∀ j, j < k → l[j]? ≠ some v) ∧ wr = w) (fun i _ => n - (intOf i).toNat)
  case atStart => exact ⟨0, rfl, Nat.zero_le _, fun j hj => by omega, rfl⟩
  case round =>
    obtain ⟨k, rfl, hk, hno, rfl⟩ := hrel
    have HNO := hide hno
    clear hno
    by_cases hkn : k < n
    · obtain ⟨y, hy⟩ : ∃ y, l[k]? = some y := ⟨_, List.getElem?_eq_getElem (by have := HN.out; omega)⟩
      have i1 : (k : Int) < n := by omega
      have i0 : (0 : Int) ≤ k := by omega
      have hc := H.out k y hy
      have HY := hide hy
      clear hy
      by_cases hv : v = y
      · subst hv
        go_wp2_with fail
        go_ret
        exact ⟨by rw [HF.out k HY.out HNO.out]; rfl, rfl⟩
      · go_wp2_with fail
        go_roundw
        case rel => 
          refine ⟨k + 1, by go_num, by omega, fun j hj => ?_, by first | rfl | trivial⟩
          rcases Nat.lt_or_ge j k with h | h
          · exact HNO.out j h
          · obtain rfl : j = k := by omega
            rw [HY.out]; exact fun e => hv (by cases e; rfl)
        case measure => simp [intOf]; omega
    · obtain rfl : k = n := by omega
      go_wp2_with fail
      go_ret
      refine ⟨?_, rfl⟩
      rw [HO.out, if_neg fun hm => ?_]
      · rfl
      · obtain ⟨j, hj⟩ := List.getElem?_of_mem hm
        exact HNO.out j (by have := HN.out; have := (List.getElem?_eq_some_iff.1 hj).1; omega) hj
end Go.Proofs.Ytkmcdjbadngfgaa

/-
  Which level is due; whether a version is at rest.
-/
namespace Go.Proofs.Ytkmcdjbadngfgaa
open Go.RowKit
set_option maxRecDepth 100000
set_option maxHeartbeats 4000000
def bestOf (l : List Int) : Int := l.foldl max 0
theorem best_snoc (l : List Int) (x : Int) : bestOf (l ++ [x]) = max (bestOf l) x := by
  unfold bestOf
  rw [List.foldl_append]
  rfl
def dueP (l : List Int) : Int × Bool := if bestOf l < 100 then (0, false) else (idxOfI l (bestOf l), true)
theorem due_any (s0 s1 s2 s3 s4 : Int) (w : World) :
    Calls Try.prog 27 #[.agg #[.int .i64 s0, .int .i64 s1, .int .i64 s2, .int .i64 s3, .int .i64 s4]] w fun e w' => e = .returned (.tuple #[.int .i64 (dueP [s0, s1, s2, s3, s4]).1, .bool (dueP [s0, s1, s2, s3, s4]).2]) ∧ Turns (fun _ => False) w w' := by
  have TA := hide ((Turns.refl (fun _ => False) w).alloc (.cells #[.int .i64 s0, .int .i64 s1, .int .i64 s2, .int .i64 s3, .int .i64 s4] 54))
  have R0 := hide (heap_alloc_new w (.cells #[.int .i64 s0, .int .i64 s1, .int .i64 s2, .int .i64 s3, .int .i64 s4] 54))
  have HD := hide (show dueP [s0, s1, s2, s3, s4] = if bestOf [s0, s1, s2, s3, s4] < 100 then (0, false) else (idxOfI [s0, s1, s2, s3, s4] (bestOf [s0, s1, s2, s3, s4]), true) from rfl)
  have IX := hide (fun (g : Nat) (u : World) (hr : u.heap[g]? = some (.cells #[.int .i64 s0, .int .i64 s1, .int .i64 s2, .int .i64 s3, .int .i64 s4] 54 (0, 0))) => index_any g 5 5 [s0, s1, s2, s3, s4] (bestOf [s0, s1, s2, s3, s4]) u rfl (by omega) fun k x hx => by
    rw [cell_of_row u g k _ 54 (0, 0) hr]
    match k, hx with
    | 0, hx => cases hx; rfl
    | 1, hx => cases hx; rfl
    | 2, hx => cases hx; rfl
    | 3, hx => cases hx; rfl
    | 4, hx => cases hx; rfl
    | k + 5, hx => simp at hx)
  generalize dueP [s0, s1, s2, s3, s4] = DP at *
  go_enter Try.func27, Try.ntmps27
  go_wp2_with fail
  obtain ⟨w1, hw1⟩ : ∃ u, u = w.alloc (.cells #[.int .i64 s0, .int .i64 s1, .int .i64 s2, .int .i64 s3, .int .i64 s4] 54) := ⟨_, rfl⟩
  rw [← hw1] at TA R0 ⊢
  clear hw1
  generalize w.heap.size = P at *
  go_loopw [4, 8] (fun v i wr => ∃ k : Nat, i = .int .i64 (k : Nat) ∧ v = .int .i64 (bestOf ([s0, s1, s2, s3, s4].take k)) ∧ k ≤ 5 ∧ wr = w1) (fun _ i _ => 5 - (intOf i).toNat)
  case atStart => exact ⟨0, rfl, rfl, by omega, rfl⟩
  case round =>
    obtain ⟨k, rfl, rfl, hk, rfl⟩ := hrel
    by_cases hk5 : k < 5
    · have HB := hide (fun (x : Int) (hx : [s0, s1, s2, s3, s4][k]? = some x) => show bestOf ([s0, s1, s2, s3, s4].take (k + 1)) = max (bestOf ([s0, s1, s2, s3, s4].take k)) x by rw [List.take_add_one, hx]; exact best_snoc _ _)
      generalize bestOf ([s0, s1, s2, s3, s4].take k) = B at *
      obtain rfl | rfl | rfl | rfl | rfl : k = 0 ∨ k = 1 ∨ k = 2 ∨ k = 3 ∨ k = 4 := by omega
      · replace HB := hide (HB.out _ rfl)
        have hI : ∀ u, (Instr.index 54 (.agg #[.int .i64 s0, .int .i64 s1, .int .i64 s2, .int .i64 s3, .int .i64 s4]) (.int .i64 0)).run Try.prog u = .ok (.int .i64 s0) u := fun u => by kernel_rfl
        go_wp2_with fail
        go_roundw
        case rel => exact ⟨1, rfl, by rw [HB.out], by omega, by first | rfl | trivial⟩
        case measure => simp [intOf]
      · replace HB := hide (HB.out _ rfl)
        have hI : ∀ u, (Instr.index 54 (.agg #[.int .i64 s0, .int .i64 s1, .int .i64 s2, .int .i64 s3, .int .i64 s4]) (.int .i64 1)).run Try.prog u = .ok (.int .i64 s1) u := fun u => by kernel_rfl
        go_wp2_with fail
        go_roundw
        case rel => exact ⟨2, rfl, by rw [HB.out], by omega, by first | rfl | trivial⟩
        case measure => simp [intOf]
      · replace HB := hide (HB.out _ rfl)
        have hI : ∀ u, (Instr.index 54 (.agg #[.int .i64 s0, .int .i64 s1, .int .i64 s2, .int .i64 s3, .int .i64 s4]) (.int .i64 2)).run Try.prog u = .ok (.int .i64 s2) u := fun u => by kernel_rfl
        go_wp2_with fail
        go_roundw
        case rel => exact ⟨3, rfl, by rw [HB.out], by omega, by first | rfl | trivial⟩
        case measure => simp [intOf]
      · replace HB := hide (HB.out _ rfl)
        have hI : ∀ u, (Instr.index 54 (.agg #[.int .i64 s0, .int .i64 s1, .int .i64 s2, .int .i64 s3, .int .i64 s4]) (.int .i64 3)).run Try.prog u = .ok (.int .i64 s3) u := fun u => by kernel_rfl
        go_wp2_with fail
        go_roundw
        case rel => exact ⟨4, rfl, by rw [HB.out], by omega, by first | rfl | trivial⟩
        case measure => simp [intOf]
      · replace HB := hide (HB.out _ rfl)
        have hI : ∀ u, (Instr.index 54 (.agg #[.int .i64 s0, .int .i64 s1, .int .i64 s2, .int .i64 s3, .int .i64 s4]) (.int .i64 4)).run Try.prog u = .ok (.int .i64 s4) u := fun u => by kernel_rfl
        go_wp2_with fail
        go_roundw
        case rel => exact ⟨5, rfl, by rw [HB.out], by omega, by first | rfl | trivial⟩
        case measure => simp [intOf]
    · obtain rfl : k = 5 := by omega
      rw [show [s0, s1, s2, s3, s4].take 5 = [s0, s1, s2, s3, s4] from rfl]
      have IX := hide (IX.out P wr R0.out)
      generalize bestOf [s0, s1, s2, s3, s4] = B at *
      by_cases hb : B < 100
      · have HR := hide (show DP = (0, false) by rw [HD.out, if_pos hb])
        go_wp2_with fail
        go_ret2
        exact ⟨by rw [HR.out]; rfl, TA.out⟩
      · have HR := hide (show DP = (idxOfI [s0, s1, s2, s3, s4] B, true) by rw [HD.out, if_neg hb])
        go_wp2_with fail
        refine IX.out.mono ?_
        rintro e w2 ⟨rfl, rfl⟩
        go_wp2_with fail
        go_ret2
        exact ⟨by rw [HR.out]; rfl, TA.out⟩
def restP (LL : List (List Fl)) (next seq log : Nat) (t b f : Int) : Bool := !(wrongVF LL next seq log || setBad t b f) && !(dueP [scoreP LL t b f 0, scoreP LL t b f 1, scoreP LL t b f 2, scoreP LL t b f 3, scoreP LL t b f 4]).2
theorem rest_any (a : Option Addr) (n c next seq log : Nat) (L : List Lv) (t b f : Int) (w : World) (h : VerIn w a n L next seq log) :
    Calls Try.prog 12 #[verAgg a n c next seq log, setAgg t b f] w fun e w' => e = .returned (.bool (restP (flL L) next seq log t b f)) ∧ Turns (fun _ => False) w w' := by
  have TA := hide (((Turns.refl (fun _ => False) w).alloc (.cells #[.slice a n c, .int .u64 (next : Nat), .int .u64 (seq : Nat), .int .u64 (log : Nat)] 25)).alloc (.cells #[.int .i64 t, .int .i64 b, .int .i64 f] 35))
  have R0 := hide (((Turns.refl (fun _ => False) (w.alloc (.cells #[.slice a n c, .int .u64 (next : Nat), .int .u64 (seq : Nat), .int .u64 (log : Nat)] 25))).alloc (.cells #[.int .i64 t, .int .i64 b, .int .i64 f] 35)).heap (heap_alloc_new w (.cells #[.slice a n c, .int .u64 (next : Nat), .int .u64 (seq : Nat), .int .u64 (log : Nat)] 25)) (fun x => x))
  have R1 := hide (heap_alloc_new (w.alloc (.cells #[.slice a n c, .int .u64 (next : Nat), .int .u64 (seq : Nat), .int .u64 (log : Nat)] 25)) (.cells #[.int .i64 t, .int .i64 b, .int .i64 f] 35))
  simp only [World.size_alloc] at R1
  have HS := hide (show restP (flL L) next seq log t b f = (!(wrongVF (flL L) next seq log || setBad t b f) && !(dueP [scoreP (flL L) t b f 0, scoreP (flL L) t b f 1, scoreP (flL L) t b f 2, scoreP (flL L) t b f 3, scoreP (flL L) t b f 4]).2) from rfl)
  have CK := hide (fun (u : World) (tu : Turns (fun _ => False) w u) => pcheck_any a n c next seq log L t b f u (h.quiet tu))
  have SC := hide (fun (u : World) (tu : Turns (fun _ => False) w u) (hv : wrongVF (flL L) next seq log = false) (hs : setBad t b f = false) => scores_any a n c next seq log L t b f u (h.quiet tu) hv hs)
  clear h
  generalize restP (flL L) next seq log t b f = RS at *
  generalize scoreP (flL L) t b f 0 = s0 at *
  generalize scoreP (flL L) t b f 1 = s1 at *
  generalize scoreP (flL L) t b f 2 = s2 at *
  generalize scoreP (flL L) t b f 3 = s3 at *
  generalize scoreP (flL L) t b f 4 = s4 at *
  generalize wrongVF (flL L) next seq log = WV at *
  generalize setBad t b f = BD at *
  unfold verAgg setAgg at *
  obtain ⟨ER, hER⟩ : ∃ r : Int, r = if (WV || BD) = true then 2 else 0 := ⟨_, rfl⟩
  rw [← hER] at CK
  have HER := hide hER
  clear hER
  have DU := hide (due_any s0 s1 s2 s3 s4)
  generalize dueP [s0, s1, s2, s3, s4] = DP at *
  obtain ⟨dz, db⟩ := DP
  go_enter Try.func12, Try.ntmps12
  go_wp2_with fail
  refine (CK.out _ TA.out).mono ?_
  rintro e w1 ⟨rfl, t1⟩
  have T1 := hide (TA.out.trans t1)
  have r0 := t1.heap R0.out (fun x => x)
  have r1 := t1.heap R1.out (fun x => x)
  have p0 := cell_of_row w1 w.heap.size 0 _ 25 (0, 0) r0
  have p1 := cell_of_row w1 w.heap.size 1 _ 25 (0, 0) r0
  have p2 := cell_of_row w1 w.heap.size 2 _ 25 (0, 0) r0
  have p3 := cell_of_row w1 w.heap.size 3 _ 25 (0, 0) r0
  have q0 := cell_of_row w1 (w.heap.size + 1) 0 _ 35 (0, 0) r1
  have q1 := cell_of_row w1 (w.heap.size + 1) 1 _ 35 (0, 0) r1
  have q2 := cell_of_row w1 (w.heap.size + 1) 2 _ 35 (0, 0) r1
  clear t1 r0 r1 CK
  cases hWB : (WV || BD) with
  | true =>
    rw [hWB, if_pos rfl] at HER
    obtain rfl : ER = 2 := HER.out
    have HR := hide (show RS = false by rw [HS.out, hWB]; rfl)
    clear HS hWB SC
    go_wp2_with fail
    go_ret
    exact ⟨by rw [HR.out]; rfl, T1.out⟩
  | false =>
    rw [hWB] at HER
    obtain rfl : ER = 0 := HER.out
    have HR := hide (show RS = !db by rw [HS.out, hWB]; simp)
    simp only [Bool.or_eq_false_iff] at hWB
    have SC := hide (SC.out w1 T1.out hWB.1 hWB.2)
    clear HS hWB
    go_wp2_with fail
    refine SC.out.mono ?_
    rintro e w2 ⟨rfl, t2⟩
    have T2 := hide (T1.out.trans t2)
    clear t2
    go_wp2_with fail
    refine (DU.out _).mono ?_
    rintro e w3 ⟨rfl, t3⟩
    have T3 := hide (T2.out.trans t3)
    clear t3
    go_wp2_with fail
    go_ret
    exact ⟨by rw [HR.out]; rfl, T3.out⟩
end Go.Proofs.Ytkmcdjbadngfgaa
