/-
  A row that is cut anywhere tells just the frames ahead of the cut.
-/
import Derived.Test.YtpighnknldhigaaRof
import Derived.Test.YtpighnknldhigaaNamesW
namespace Go.Proofs.Ytpighnknldhigaa
open Go.RowKit

theorem OwnI.at {w : World} {B : Nat} {v : Value} {n : Nat} {f : Nat → Nat} (h : OwnI w B v ((List.range n).map f)) (k : Nat) (hk : k < n) : ∃ (g c : Nat), v = .slice (some ⟨g, 0, none⟩) n c ∧ n ≤ c ∧ w.cell? ⟨g, k, none⟩ = some (.int .i64 (f k : Nat)) := by
  rcases h with ⟨e, _⟩ | ⟨g, c, m, rfl, hm, _, _, hc, cs, h1, h2, h3⟩
  · have := congrArg List.length e
    simp at this
    omega
  · have hmn : m = n := by simpa using hm
    subst hmn
    refine ⟨g, c, rfl, hc, ?_⟩
    rw [cell_of_row w g _ cs 3 (0, 0) h1, h3 k (by simpa [cellsI] using hk)]
    simp [cellsI, hk]
theorem OwnI.len {w : World} {B : Nat} {v : Value} {n : Nat} {f : Nat → Nat} (h : OwnI w B v ((List.range n).map f)) : ∃ (a : Option Addr) (c : Nat), v = .slice a n c := by
  rcases h with ⟨e, rfl⟩ | ⟨g, c, m, rfl, hm, _⟩
  · have := congrArg List.length e
    simp at this
    subst this
    exact ⟨_, _, rfl⟩
  · have hmn : m = n := by simpa using hm
    subst hmn
    exact ⟨_, _, rfl⟩
theorem OwnB.len {w : World} {B : Nat} {v : Value} {bs : List (BitVec 8)} (h : OwnB w B v bs) : ∃ (a : Option Addr) (c : Nat), v = .slice a bs.length c ∧ (a = none → c = 0 ∧ bs = []) ∧ bs.length ≤ c := by
  rcases h with ⟨rfl, rfl⟩ | ⟨g, c, m, rfl, rfl, _, _, h, _⟩
  · exact ⟨_, _, rfl, fun _ => ⟨rfl, rfl⟩, Nat.le_refl _⟩
  · exact ⟨_, _, rfl, fun e => (by cases e), h⟩

theorem tot_mem (fs : List Frm) (f : Frm) (h : f ∈ fs) : f.2.length ≤ tot fs := by
  induction fs with
  | nil => simp at h
  | cons g r ih =>
    simp only [tot, List.map_cons, List.sum_cons] at ih ⊢
    rcases List.mem_cons.1 h with rfl | h
    · omega
    · have := ih h
      omega

set_option maxRecDepth 100000 in
set_option maxHeartbeats 4000000 in
theorem cut_any (a : Option Addr) (n c : Nat) (fs : List Frm) (at' : Int) (w : World) (h : Frs w (.slice a n c) fs) (ha : a = none → c = 0) (hnc : n ≤ c) (hc : c ≤ reachBytes) (hb : ∀ f ∈ fs, f.2.length ≤ reachBytes) (ha1 : -9223372036854775808 ≤ at') (ha2 : at' ≤ 9223372036854775807) :
    Calls Try.prog 5 #[.slice a n c, .int .i64 at'] w fun e w' => e = .returned (.bool true) ∧ Below w.heap.size w w' := by
  have hr : reachBytes = 140737488351232 := rfl
  rw [hr] at hc hb
  have hb' : ∀ f ∈ fs, f.2.length ≤ 140737488355328 := fun f hf => Nat.le_trans (hb f hf) (by decide)
  have hl := h.len
  have H := hide h
  have HL := hide hl
  have HB := hide hb'
  have HA := hide ha
  clear h hl hb hb' ha hr
  by_cases h40 : 40 < n
  · go_enter Try.func5, Try.ntmps5
    go_wp2_with fail
    refine (lives_any _).mono ?_
    rintro e w1 ⟨rfl, b1⟩
    have B1 := hide b1
    clear b1
    go_wp2_with fail
    refine (small_many a n c fs _ (H.out.below B1.out) h40 (by omega) HB.out).mono ?_
    rintro e w2 ⟨rfl, rfl⟩
    go_wp2_with fail
    go_ret
    exact ⟨rfl, B1.out⟩
  by_cases htot : tot fs ≤ 4000
  · go_enter Try.func5, Try.ntmps5
    go_wp2_with fail
    refine (lives_any _).mono ?_
    rintro e w1 ⟨rfl, b1⟩
    have B1 := hide b1
    clear b1
    go_wp2_with fail
    refine (small_few a n c fs _ (H.out.below B1.out) (by omega) HB.out).mono ?_
    rintro e w2 ⟨rfl, rfl⟩
    rw [decide_eq_true htot]
    go_wp2_with fail
    refine (rowOf_any a n c fs _ (H.out.below B1.out) (by omega) htot).mono ?_
    rintro e w3 ⟨bv, ev, rfl, hob, hoi, b3⟩
    have hrl : (Fr.rowB fs).length ≤ 4480 := by
      have h1 : (Fr.rowB fs).length = tot fs + 12 * fs.length := Fr.rowB_len _
      have h2 := HL.out
      omega
    have hbod : ∀ f ∈ fs, f.2.length ≤ 1048576 := by
      intro f hf
      have := tot_mem fs f hf
      omega
    have B3 := hide (then_below B1.out b3 (Nat.le_refl _))
    obtain ⟨ab, cb, rfl, hab, hcb⟩ := hob.len
    obtain ⟨ae, ce, rfl⟩ := hoi.len
    have HOB := hide hob
    have HOI := hide hoi
    have HBOD := hide hbod
    have HAB := hide hab
    have hw3 := hide (Frs.below H.out B3.out)
    clear hob hoi b3 hbod hab
    generalize hR : Fr.rowB fs = R at *
    generalize hRL : R.length = L at *
    have HR := hide hR
    have HRL := hide hRL
    clear hR hRL
    have hnn : ((n : Int) != (n : Int)) = false := by simp
    go_wp2_with fail
    refine (pick_any at' (L + 1 : Nat) _ (by omega) (by omega) ha1 ha2).mono ?_
    rintro e w4 ⟨rfl, rfl⟩
    obtain ⟨K, hK, hKL⟩ : ∃ K : Nat, pick at' (L + 1 : Nat) = K ∧ K ≤ L := by
      have := pick_range at' (L + 1 : Nat) (by omega)
      exact ⟨(pick at' (L + 1 : Nat)).toNat, by omega, by omega⟩
    rw [hK]
    clear hK
    go_wp2_with fail
    have hwl := Fr.wholes_le fs K
    have HWL := hide hwl
    clear hwl
    go_loopw [8, 9] (fun nv zv wr => ∃ j : Nat, nv = .int .i64 (j : Nat) ∧ zv = .int .i64 ((Fr.rowB (fs.take j)).length : Nat) ∧ j ≤ Fr.wholes fs K ∧ wr = w4) (fun nv _ _ => n - (intOf nv).toNat)
    case atStart => exact ⟨0, rfl, by rw [List.take_zero]; rfl, Nat.zero_le _, rfl⟩
    case round =>
      obtain ⟨j, rfl, rfl, hj, rfl⟩ := hrel
      have HJ := hide hj
      have hjn : j ≤ n := by have := HWL.out; have := HL.out; omega
      clear hj
      by_cases hjw : j < Fr.wholes fs K
      · have hjn' : j < n := by have := HWL.out; have := HL.out; omega
        obtain ⟨ge, ce', e1, hce, hcell⟩ := HOI.out.at j hjn'
        cases e1
        have hend : Fr.endAt fs j ≤ K := (Fr.wholes_iff fs j K (by have := HL.out; omega)).2 hjw
        generalize hE : Fr.endAt fs j = E at *
        have HE := hide hE
        clear hE
        go_wp2_with fail
        go_roundw
        case rel => exact ⟨j + 1, by go_num, by rw [show (Fr.rowB (fs.take (j + 1))).length = E from HE.out], by omega, by trivial⟩
        case measure => simp [intOf]; omega
      · have hje : j = Fr.wholes fs K := by have := HJ.out; omega
        have HJE := hide hje
        have hrow : Fr.row (R.take K) = (fs.take j, (Fr.rowB (fs.take j)).length, if K = (Fr.rowB (fs.take j)).length then 0 else 12) := by
          have := Fr.row_cut fs HBOD.out K (by rw [HR.out, HRL.out]; exact hKL)
          rw [HR.out, ← hje] at this
          exact this
        have HROW := hide hrow
        have htl : (fs.take j).length = j := by rw [List.length_take]; have := HL.out; omega
        have HTL := hide htl
        have hkc : (K : Int) ≤ (cb : Int) := by omega
        have hjc : (j : Int) ≤ (c : Int) := by omega
        have htake : (R.take K).length = K := by rw [List.length_take, HRL.out]; omega
        have HTK := hide htake
        clear hje hrow htl htake
        generalize hT : (Fr.rowB (fs.take j)).length = T at *
        have HT := hide hT
        clear hT
        have hby : Bytes wr (.slice ab K cb) (R.take K) := by
          have := HOB.out.bytes
          obtain ⟨a1, c1, e1, g1⟩ := this
          obtain ⟨rfl, _, rfl⟩ : a1 = ab ∧ R.length = L ∧ c1 = cb := by cases e1; exact ⟨rfl, HRL.out, rfl⟩
          refine ⟨a1, c1, by rw [HTK.out], fun q hq => ?_⟩
          obtain ⟨b, off, e2, g2⟩ := g1 q (by rw [List.length_take] at hq; omega)
          refine ⟨b, off, e2, ?_⟩
          rw [g2]
          congr 2
          simp [List.getD, show q < K by rw [HTK.out] at hq; exact hq]
        have HBY := hide hby
        clear hby
        have hcases : (j < n ∧ ∃ (ge E : Nat), ae = some ⟨ge, 0, none⟩ ∧ n ≤ ce ∧ wr.cell? ⟨ge, j, none⟩ = some (.int .i64 (E : Nat)) ∧ K < E) ∨ j = n := by
          rcases Nat.lt_or_ge j n with h | h
          · left
            obtain ⟨ge, ce', e1, hce, hcell⟩ := HOI.out.at j h
            cases e1
            refine ⟨h, ge, _, rfl, hce, hcell, ?_⟩
            have := (Fr.wholes_iff fs j K (by have := HL.out; omega))
            unfold Fr.endAt
            omega
          · right; omega
        have hab2 : (ab = none ∧ cb = 0 ∧ K = 0) ∨ ∃ x, ab = some x := by
          rcases ab with _ | x
          · left
            obtain ⟨h1, h2⟩ := HAB.out rfl
            have h3 := HRL.out
            rw [h2] at h3
            exact ⟨rfl, h1, by simp at h3; omega⟩
          · exact .inr ⟨x, rfl⟩
        have ha2 : (a = none ∧ c = 0 ∧ j = 0 ∧ n = 0) ∨ ∃ x, a = some x := by
          rcases a with _ | x
          · left
            have := HA.out rfl
            exact ⟨rfl, this, by omega, by omega⟩
          · exact .inr ⟨x, rfl⟩
        clear hjw
        have hfit : ∀ f ∈ fs.take j, f.2.length ≤ 1000000000 := fun f hf => Nat.le_trans (HBOD.out f (List.mem_of_mem_take hf)) (by decide)
        have HFIT := hide hfit
        clear hfit
        rcases hcases with ⟨hjn2, ge, E, rfl, hce, hcell, hKE⟩ | hjn3
        · rcases hab2 with ⟨rfl, rfl, rfl⟩ | ⟨x, rfl⟩
          · go_wp2_with fail
            refine (own_any _ _ _ HBY.out (by rw [HTK.out]; omega)).mono ?_
            rintro e w5 ⟨g5, c5, rfl, hg5, hc5, r5, b5⟩
            rw [HTK.out] at hc5 ⊢
            have B5 := hide (then_below B3.out b5 (Nat.le_refl _))
            have F5 := hide (hw3.out.below b5)
            have R5 := hide (RowB.bytes (c' := c5) r5 HTK.out.symm)
            clear b5 r5 hg5
            go_wp2_with fail
            refine (row_any _ _ _ _ _ R5.out hc5 (by rw [HTK.out]; omega)).mono ?_
            rintro e w6 ⟨lv, rfl, hl6, b6⟩
            rw [HROW.out] at hl6 ⊢
            have hfr := hl6.frs
            obtain ⟨al, cl, e6, _⟩ := id hfr
            subst e6
            rw [HTL.out] at hfr ⊢
            have FR := hide hfr
            have F6 := hide (Frs.pre (F5.out.below b6) _ hjn)
            have B6 := hide (then_below B5.out b6 (Nat.le_refl _))
            clear hfr hl6 b6
            rcases ha2 with ⟨rfl, rfl, rfl, hn0⟩ | ⟨y, rfl⟩
            all_goals
              by_cases hKT : 0 = T
              · rw [if_pos hKT]
                subst hKT
                go_wp2_with fail
                refine (frames_same _ _ _ _ _ _ _ FR.out F6.out (by omega) HFIT.out).mono ?_
                rintro e w7 ⟨rfl, m7, rfl⟩
                go_wp2_with fail
                all_goals (go_ret; exact ⟨rfl, below_drewN B6.out m7⟩)
              · rw [if_neg hKT]
                have hKT' : ((0 : Int) == (T : Int)) = false := by rw [beq_eq_false_iff_ne]; omega
                go_wp2_with fail
                refine (frames_same _ _ _ _ _ _ _ FR.out F6.out (by omega) HFIT.out).mono ?_
                rintro e w7 ⟨rfl, m7, rfl⟩
                go_wp2_with fail
                all_goals (go_ret; exact ⟨rfl, below_drewN B6.out m7⟩)
          · go_wp2_with fail
            refine (own_any _ _ _ HBY.out (by rw [HTK.out]; omega)).mono ?_
            rintro e w5 ⟨g5, c5, rfl, hg5, hc5, r5, b5⟩
            rw [HTK.out] at hc5 ⊢
            have B5 := hide (then_below B3.out b5 (Nat.le_refl _))
            have F5 := hide (hw3.out.below b5)
            have R5 := hide (RowB.bytes (c' := c5) r5 HTK.out.symm)
            clear b5 r5 hg5
            go_wp2_with fail
            refine (row_any _ _ _ _ _ R5.out hc5 (by rw [HTK.out]; omega)).mono ?_
            rintro e w6 ⟨lv, rfl, hl6, b6⟩
            rw [HROW.out] at hl6 ⊢
            have hfr := hl6.frs
            obtain ⟨al, cl, e6, _⟩ := id hfr
            subst e6
            rw [HTL.out] at hfr ⊢
            have FR := hide hfr
            have F6 := hide (Frs.pre (F5.out.below b6) _ hjn)
            have B6 := hide (then_below B5.out b6 (Nat.le_refl _))
            clear hfr hl6 b6
            rcases ha2 with ⟨rfl, rfl, rfl, hn0⟩ | ⟨y, rfl⟩
            all_goals
              by_cases hKT : K = T
              · rw [if_pos hKT]
                subst hKT
                go_wp2_with fail
                refine (frames_same _ _ _ _ _ _ _ FR.out F6.out (by omega) HFIT.out).mono ?_
                rintro e w7 ⟨rfl, m7, rfl⟩
                go_wp2_with fail
                all_goals (go_ret; exact ⟨rfl, below_drewN B6.out m7⟩)
              · rw [if_neg hKT]
                have hKT' : ((K : Int) == (T : Int)) = false := by rw [beq_eq_false_iff_ne]; omega
                go_wp2_with fail
                refine (frames_same _ _ _ _ _ _ _ FR.out F6.out (by omega) HFIT.out).mono ?_
                rintro e w7 ⟨rfl, m7, rfl⟩
                go_wp2_with fail
                all_goals (go_ret; exact ⟨rfl, below_drewN B6.out m7⟩)
        · subst hjn3
          rcases hab2 with ⟨rfl, rfl, rfl⟩ | ⟨x, rfl⟩
          · go_wp2_with fail
            refine (own_any _ _ _ HBY.out (by rw [HTK.out]; omega)).mono ?_
            rintro e w5 ⟨g5, c5, rfl, hg5, hc5, r5, b5⟩
            rw [HTK.out] at hc5 ⊢
            have B5 := hide (then_below B3.out b5 (Nat.le_refl _))
            have F5 := hide (hw3.out.below b5)
            have R5 := hide (RowB.bytes (c' := c5) r5 HTK.out.symm)
            clear b5 r5 hg5
            go_wp2_with fail
            refine (row_any _ _ _ _ _ R5.out hc5 (by rw [HTK.out]; omega)).mono ?_
            rintro e w6 ⟨lv, rfl, hl6, b6⟩
            rw [HROW.out] at hl6 ⊢
            have hfr := hl6.frs
            obtain ⟨al, cl, e6, _⟩ := id hfr
            subst e6
            rw [HTL.out] at hfr ⊢
            have FR := hide hfr
            have F6 := hide (Frs.pre (F5.out.below b6) _ hjn)
            have B6 := hide (then_below B5.out b6 (Nat.le_refl _))
            clear hfr hl6 b6
            rcases ha2 with ⟨rfl, rfl, rfl, hn0⟩ | ⟨y, rfl⟩
            all_goals
              by_cases hKT : 0 = T
              · rw [if_pos hKT]
                subst hKT
                go_wp2_with fail
                refine (frames_same _ _ _ _ _ _ _ FR.out F6.out (by omega) HFIT.out).mono ?_
                rintro e w7 ⟨rfl, m7, rfl⟩
                go_wp2_with fail
                all_goals (go_ret; exact ⟨rfl, below_drewN B6.out m7⟩)
              · rw [if_neg hKT]
                have hKT' : ((0 : Int) == (T : Int)) = false := by rw [beq_eq_false_iff_ne]; omega
                go_wp2_with fail
                refine (frames_same _ _ _ _ _ _ _ FR.out F6.out (by omega) HFIT.out).mono ?_
                rintro e w7 ⟨rfl, m7, rfl⟩
                go_wp2_with fail
                all_goals (go_ret; exact ⟨rfl, below_drewN B6.out m7⟩)
          · go_wp2_with fail
            refine (own_any _ _ _ HBY.out (by rw [HTK.out]; omega)).mono ?_
            rintro e w5 ⟨g5, c5, rfl, hg5, hc5, r5, b5⟩
            rw [HTK.out] at hc5 ⊢
            have B5 := hide (then_below B3.out b5 (Nat.le_refl _))
            have F5 := hide (hw3.out.below b5)
            have R5 := hide (RowB.bytes (c' := c5) r5 HTK.out.symm)
            clear b5 r5 hg5
            go_wp2_with fail
            refine (row_any _ _ _ _ _ R5.out hc5 (by rw [HTK.out]; omega)).mono ?_
            rintro e w6 ⟨lv, rfl, hl6, b6⟩
            rw [HROW.out] at hl6 ⊢
            have hfr := hl6.frs
            obtain ⟨al, cl, e6, _⟩ := id hfr
            subst e6
            rw [HTL.out] at hfr ⊢
            have FR := hide hfr
            have F6 := hide (Frs.pre (F5.out.below b6) _ hjn)
            have B6 := hide (then_below B5.out b6 (Nat.le_refl _))
            clear hfr hl6 b6
            rcases ha2 with ⟨rfl, rfl, rfl, hn0⟩ | ⟨y, rfl⟩
            all_goals
              by_cases hKT : K = T
              · rw [if_pos hKT]
                subst hKT
                go_wp2_with fail
                refine (frames_same _ _ _ _ _ _ _ FR.out F6.out (by omega) HFIT.out).mono ?_
                rintro e w7 ⟨rfl, m7, rfl⟩
                go_wp2_with fail
                all_goals (go_ret; exact ⟨rfl, below_drewN B6.out m7⟩)
              · rw [if_neg hKT]
                have hKT' : ((K : Int) == (T : Int)) = false := by rw [beq_eq_false_iff_ne]; omega
                go_wp2_with fail
                refine (frames_same _ _ _ _ _ _ _ FR.out F6.out (by omega) HFIT.out).mono ?_
                rintro e w7 ⟨rfl, m7, rfl⟩
                go_wp2_with fail
                all_goals (go_ret; exact ⟨rfl, below_drewN B6.out m7⟩)
  · go_enter Try.func5, Try.ntmps5
    go_wp2_with fail
    refine (lives_any _).mono ?_
    rintro e w1 ⟨rfl, b1⟩
    have B1 := hide b1
    clear b1
    go_wp2_with fail
    refine (small_few a n c fs _ (H.out.below B1.out) (by omega) HB.out).mono ?_
    rintro e w2 ⟨rfl, rfl⟩
    rw [decide_eq_false htot]
    go_wp2_with fail
    go_ret
    exact ⟨rfl, B1.out⟩
end Go.Proofs.Ytpighnknldhigaa
