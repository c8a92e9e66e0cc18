import Derived.Test.YtpgligfolecieaaM33
/-
  CompactKeeps: the whole of the law.
-/
namespace Go.Proofs.Ytpgligfolecieaa
open Go.RowKit
set_option maxRecDepth 100000
set_option maxHeartbeats 8000000
theorem keeps_any (a la : Option Addr) (n c ln lc : Nat) (l : List Tow) (ks : List Nat) (bot : Bool) (t : Int) (w : World) (h : Ents w a l) (hn : n = l.length) (hmx : n ≤ reachBytes) (hfit : ∀ f, f ∈ l → Fit f) (hk : U64s w la ks) (hkn : ln = ks.length) (hlc : ln ≤ lc) (hlm : ln ≤ reachBytes) :
    Calls Try.prog 5 #[.slice a n c, .slice la ln lc, .bool bot, .int .i64 t] w fun e w' => e = .returned (.bool true) ∧ Turns (fun _ => False) w w' := by
  have H := hide h
  have HN := hide hn
  have HFI := hide hfit
  have HK := hide hk
  have HKN := hide hkn
  unfold reachBytes at hmx hlm
  have hni : (n : Int) ≤ 140737488355328 := by omega
  have hli : (ln : Int) ≤ 140737488355328 := by omega
  clear h hn hk hkn hfit hmx hlm
  go_enter Try.func5, Try.ntmps5
  go_wp2_with fail
  refine (lives_any w).mono ?_
  rintro e w1 ⟨rfl, t1⟩
  have T1 := hide t1
  clear t1
  by_cases h1 : (150 : Int) < n
  · go_wp2_with fail
    go_ret
    exact ⟨rfl, T1.out⟩
  have WE := hide (weigh_any a n c l w1 (H.out.quiet T1.out) HN.out (by omega) HFI.out)
  have hw0 : weigh l ≤ 150 * (2 * reachBytes) := by
    refine Nat.le_trans (weigh_le (M := reachBytes) l fun x hx => (HFI.out x hx).2) ?_
    have := HN.out
    exact Nat.mul_le_mul_right _ (by omega)
  unfold reachBytes at hw0
  obtain ⟨wl, hwl⟩ : ∃ m, weigh l = m := ⟨_, rfl⟩
  rw [hwl] at WE hw0
  have HWL := hide hwl
  clear hwl
  go_wp2_with fail
  refine WE.out.mono ?_
  rintro e w2 ⟨rfl, t2⟩
  have T2 := hide (T1.out.trans t2)
  clear t2 WE T1
  by_cases h2 : (15000 : Int) < wl
  · go_wp2_with fail
    go_ret
    exact ⟨rfl, T2.out⟩
  by_cases h3 : (150 : Int) < ln
  · go_wp2_with fail
    go_ret
    exact ⟨rfl, T2.out⟩
  by_cases h4 : t < 1
  · go_wp2_with fail
    go_ret
    exact ⟨rfl, T2.out⟩
  by_cases h5 : (16777216 : Int) < t
  · go_wp2_with fail
    go_ret
    exact ⟨rfl, T2.out⟩
  have HLL := hide (show l.length ≤ 150 by have := HN.out; omega)
  have HLW := hide (show weigh l ≤ 15000 by have := HWL.out; omega)
  have HLX := hide (show ∀ x, x ∈ l → x.e.key.length ≤ 15000 ∧ x.e.val.length ≤ 15000 from fun x hx => by
    have := weigh_mem hx
    have := HLW.out
    omega)
  have HTG := hide (show tgt t = true from tgt_true h4 h5)
  have hn1 : n ≤ 150 := by omega
  have hl1 : ln ≤ 150 := by omega
  have ht1 : 1 ≤ t := by omega
  clear hw0
  go_wp2_with fail
  go_loopw [9, 10, 11] (fun rv iv _ wr => ∃ (i : Nat) (R : List Tow), iv = .int .i64 (i : Nat) ∧ i ≤ n ∧ ERow wr w.heap.size rv R ∧ (∀ x, x ∈ R → x ∈ l) ∧ inOrd (ents R) = true ∧ R.length ≤ i ∧ Turns (fun _ => False) w wr) (fun _ iv _ _ => n - (intOf iv).toNat)
  case atStart => exact ⟨0, [], rfl, Nat.zero_le _, .inl ⟨rfl, rfl⟩, fun x hx => (by cases hx), rfl, Nat.zero_le _, T2.out⟩
  case round =>
    obtain ⟨i, R, rfl, hi, hE, hmem, hord, hRl, ht⟩ := hrel
    have HE := hide hE
    have HME := hide hmem
    have HOR := hide hord
    have HT := hide ht
    clear hE hmem hord ht T2
    by_cases hin : i < n
    · obtain ⟨x, hx⟩ : ∃ x, l[i]? = some x := ⟨_, List.getElem?_eq_getElem (by have := HN.out; omega)⟩
      have HXM := hide (List.mem_of_getElem? hx)
      have HBY := hide (fun (u : World) (tt : Turns (fun _ => False) wr u) (y : Tow) (hy : y ∈ l) => show Bytes u y.kv y.e.key ∧ Bytes u y.vv y.e.val from by
        obtain ⟨q, hq⟩ := List.getElem?_of_mem hy
        have := ((H.out.quiet (HT.out.trans tt)) q y hq).2
        exact this)
      obtain ⟨b, off, rfl, hc, hkx, hvx⟩ := ents_at2 (H.out.quiet HT.out) hx
      have HC := hide hc
      have PU := hide (rputE_any _ R x w.heap.size wr HE.out (fun y hy => HBY.out wr (Turns.refl _ _) y (HME.out y hy)) (by omega) hkx (by have := HLX.out x HXM.out; omega) (fun y hy => by have := HLX.out y (HME.out y hy); omega))
      obtain ⟨y0, y1, y2, y3⟩ := hc
      have i1 : (i : Int) < n := by omega
      have i0 : (0 : Int) ≤ i := by omega
      obtain ⟨oa, oc, rfl⟩ := HE.out.len
      clear hx hkx hvx
      go_wp2_with fail
      refine PU.out.mono ?_
      rintro e w3 ⟨g, c3, rfl, hg, hc3, hrow, hb⟩
      have t3 := Turns.of_below hb (fun _ => False)
      have HER := hide (show ERow w3 w.heap.size (.slice (some ⟨g, 0, none⟩) (R.length + 1) c3) (putL x R) from .inr ⟨g, c3, R.length + 1, rfl, (putL_length x R).symm, hc3, Nat.le_trans HT.out.size hg, hrow⟩)
      have U3 := hide t3
      have z0 := t3.cell HC.out.1 (fun x => x)
      have z1 := t3.cell HC.out.2.1 (fun x => x)
      have z2 := t3.cell HC.out.2.2.1 (fun x => x)
      have z3 := t3.cell HC.out.2.2.2 (fun x => x)
      clear hg hc3 hrow hb t3 PU y0 y1 y2 y3
      go_wp2_with fail
      refine (check22 x w3).mono ?_
      rintro e w4 ⟨⟨z, rfl, hz1, hz2⟩, t4⟩
      have U4 := hide (U3.out.trans t4)
      have HER4 := hide (HER.out.keep t4 (fun _ _ x => x))
      clear t4 z0 z1 z2 z3 HER
      by_cases hz : z = 0
      · subst hz
        have HPM := hide (show ∀ y, y ∈ putL x R → y ∈ l from fun y hy => by
          rcases mem_putL.1 hy with rfl | hy
          · exact HXM.out
          · exact HME.out y hy)
        have hen : Ents w4 (some ⟨g, 0, none⟩) (putL x R) := by
          obtain ⟨a', c', e, hE, _⟩ := ents_row HER4.out fun y hy => HBY.out w4 U4.out y (HPM.out y hy)
          injection e with q1 q2 q3
          rw [q1]
          exact hE
        have RR := hide (rrow_any (some ⟨g, 0, none⟩) (R.length + 1) c3 (putL x R) w4 hen (putL_length x R).symm (by omega) (fun y hy => by have := HLX.out y (HPM.out y hy); omega))
        clear hen
        obtain ⟨ob, hob⟩ : ∃ b, inOrd (ents (putL x R)) = b := ⟨_, rfl⟩
        rw [hob] at RR
        have HOB := hide hob
        clear hob
        go_wp2_with fail
        refine RR.out.mono ?_
        rintro e w5 ⟨rfl, b5⟩
        have U5 := hide (U4.out.trans (Turns.of_below b5 (fun _ => False)))
        have HER5 := hide (HER4.out.keep (Turns.of_below b5 (fun _ => False)) (fun _ _ x => x))
        clear b5 RR HER4
        cases ob
        · go_wp2_with fail
          go_roundw
          case rel => exact ⟨i + 1, R, by go_num, by omega, HE.out.keep U5.out (fun _ _ x => x), HME.out, HOR.out, by omega, HT.out.trans U5.out⟩
          case measure => (simp [intOf]; try omega)
        · go_wp2_with fail
          go_roundw
          case rel => exact ⟨i + 1, putL x R, by go_num, by omega, HER5.out, HPM.out, HOB.out, by rw [putL_length]; omega, HT.out.trans U5.out⟩
          case measure => (simp [intOf]; try omega)
      · have hz' : (z == 0) = false := by simpa using hz
        go_wp2_with fail
        go_roundw
        case rel => exact ⟨i + 1, R, by go_num, by omega, HE.out.keep U4.out (fun _ _ x => x), HME.out, HOR.out, by omega, HT.out.trans U4.out⟩
        case measure => (simp [intOf]; try omega)
    · obtain rfl : i = n := by omega
      have HLT := hide (show Lite (ents R) from lite_of HOR.out HME.out HLL.out HLW.out)
      have i9 : ¬ (i : Int) < i := by omega
      have hR1 : R.length ≤ 150 := by omega
      obtain ⟨ra, rc, rfl⟩ := HE.out.len
      obtain ⟨a9, c9, e9, hen9, hcap9, _⟩ := ents_row HE.out fun y hy => by
        obtain ⟨q, hq⟩ := List.getElem?_of_mem (HME.out y hy)
        have := ((H.out.quiet HT.out) q y hq).2
        exact this
      obtain ⟨e91, e92⟩ : a9 = ra ∧ c9 = rc := by injection e9 with q1 q2 q3; exact ⟨q1.symm, q3.symm⟩
      subst e91 e92
      have HEN := hide hen9
      have HCP := hide hcap9
      clear hen9 hcap9 e9 HLX HFI HLL HLW HE
      obtain ⟨wo, hwo⟩ : ∃ u, u = wr := ⟨_, rfl⟩
      subst hwo
      go_wp2_with fail
      go_loopw [12, 13] (fun sv jv wr => ∃ (j : Nat) (K : List Nat), jv = .int .i64 (j : Nat) ∧ j ≤ ln ∧ NRow wr wo.heap.size sv K ∧ looksOk K = true ∧ (∀ s, s ∈ K → s < 18446744073709551616) ∧ K.length ≤ j ∧ Turns (fun _ => False) wo wr) (fun _ jv _ => ln - (intOf jv).toNat)
      case atStart => exact ⟨0, [], rfl, Nat.zero_le _, .inl ⟨rfl, rfl⟩, rfl, fun s hs => (by cases hs), Nat.zero_le _, Turns.refl _ _⟩
      case round =>
        obtain ⟨j, K, rfl, hj, hnr, hlo, hks, hKl, htj⟩ := hrel
        have HNR := hide hnr
        have HLO := hide hlo
        have HKS := hide hks
        have HTJ := hide htj
        clear hnr hlo hks htj
        obtain ⟨sa, sc, rfl, hsu, hscc⟩ := HNR.out.nums HKS.out
        have HSU := hide hsu
        clear hsu
        by_cases hjn : j < ln
        · obtain ⟨s, hs⟩ : ∃ s, ks[j]? = some s := ⟨_, List.getElem?_eq_getElem (by have := HKN.out; omega)⟩
          obtain ⟨⟨bk, ok, rfl, hc⟩, hsb⟩ := (HK.out.quiet (HT.out.trans HTJ.out)) j s hs
          have j1 : (j : Int) < ln := by omega
          have j0 : (0 : Int) ≤ j := by omega
          clear hs
          go_upto_region 16 with (fail)
          go_cut [12, 102] from 74 to 109 (fun v12 v102 wd => v12 = .slice sa K.length sc ∧ ∃ q : Bool, v102 = .bool q ∧ Turns (fun _ => False) wr wd ∧ (q = true → s ≤ topN ∧ ∀ p, K.getLast? = some p → p < s))
          case first =>
            rename_i kk rest jj kk' m1 m2
            clear rest
            by_cases hbig : s ≤ 72057594037927935
            · have d3 : decide ((s : Int) ≤ 72057594037927935) = true := decide_eq_true (by omega)
              have d4 : decide (s ≤ 72057594037927935) = true := decide_eq_true hbig
              have HBIG := hide hbig
              clear hbig
              rcases List.eq_nil_or_concat K with hK | ⟨K', p, hK⟩
              · subst hK
                have d5 : decide ((0 : Int) = 0) = true := by decide
                have d6 : ((0 : Int) == 0) = true := by decide
                simp only [List.length_nil]
                go_quiet (fail)
                go_wp2_with fail
                go_meet
                exact ⟨rfl, true, rfl, (Turns.refl _ _).drewN _, fun _ => ⟨HBIG.out, fun p hp => (by cases hp)⟩⟩
              · rw [List.concat_eq_append] at hK
                subst hK
                obtain ⟨⟨g9, o9, rfl, hc9⟩, hp9⟩ := HSU.out K'.length p (by simp)
                have HLS := hide (show (K' ++ [p]).getLast? = some p by simp)
                have hKl2 : K'.length + 1 ≤ j := by simpa using hKl
                rw [show (K' ++ [p]).length = K'.length + 1 by simp]
                clear hKl
                generalize hmm : K'.length = m at *
                have HMM := hide hmm
                clear hmm
                have d5 : decide ((m : Int) + 1 = 0) = false := decide_eq_false (by omega)
                have d6 : ((m : Int) + 1 == 0) = false := by simp; omega
                have j2 : (m : Int) < (m : Int) + 1 := by omega
                have j3 : (0 : Int) ≤ (m : Int) := by omega
                have j4 : (m : Int) ≤ 1000000 := by omega
                by_cases hps : p < s
                · have d7 : decide ((p : Int) < (s : Int)) = true := decide_eq_true (by omega)
                  have d8 : decide (p < s) = true := decide_eq_true hps
                  have HPS := hide hps
                  clear hps
                  go_quiet (fail)
                  go_wp2_with fail
                  go_meet
                  exact ⟨by rw [List.length_append, HMM.out]; rfl, true, rfl, (Turns.refl _ _).drewN _, fun _ => ⟨HBIG.out, fun p' hp => (by rw [HLS.out] at hp; cases hp; exact HPS.out)⟩⟩
                · have d7 : decide ((p : Int) < (s : Int)) = false := decide_eq_false (by omega)
                  have d8 : decide (p < s) = false := decide_eq_false hps
                  clear hps
                  go_quiet (fail)
                  go_wp2_with fail
                  go_meet
                  exact ⟨by rw [List.length_append, HMM.out]; rfl, false, rfl, (Turns.refl _ _).drewN _, fun e => (by cases e)⟩
            · have d3 : decide ((s : Int) ≤ 72057594037927935) = false := decide_eq_false (by omega)
              have d4 : decide (s ≤ 72057594037927935) = false := decide_eq_false hbig
              clear hbig
              go_quiet (fail)
              go_wp2_with fail
              go_meet
              exact ⟨rfl, false, rfl, (Turns.refl _ _).drewN _, fun e => (by cases e)⟩
          case rest =>
            obtain ⟨rfl, q, rfl, tc, hqt⟩ := hcut
            have HQT := hide hqt
            have UC := hide (HTJ.out.trans tc)
            have HNC := hide (HNR.out.quiet tc)
            have yc := tc.cell hc (fun x => x)
            clear hqt tc
            cases q
            · go_wp2_with fail
              go_roundw
              case rel => exact ⟨j + 1, K, by go_num, by omega, HNC.out, HLO.out, HKS.out, by omega, UC.out⟩
              case measure => (simp [intOf]; try omega)
            · have tA := (Turns.refl (fun _ => False) wc).alloc (.cells #[.int .u64 (s : Nat)] 27)
              obtain ⟨g', n', c', wz, hr, hnr2, hbz⟩ := append_num (wc.alloc (.cells #[.int .u64 (s : Nat)] 27)) wo.heap.size (.slice sa K.length sc) K s wc.heap.size (HNC.out.quiet tA) (Nat.le_trans UC.out.size tA.size) (by omega) (heap_alloc_new wc _)
              have HF := hide (show NRow wz wo.heap.size (.slice (some ⟨g', 0, none⟩) n' c') (K ++ [s]) ∧ looksOk (K ++ [s]) = true ∧ (∀ s', s' ∈ K ++ [s] → s' < 18446744073709551616) ∧ (K ++ [s]).length ≤ j + 1 ∧ Turns (fun _ => False) wo wz from ⟨hnr2, looksOk_snoc HLO.out (HQT.out rfl).1 (HQT.out rfl).2, fun s' hs' => by
                rcases List.mem_append.1 hs' with hs' | hs'
                · exact HKS.out s' hs'
                · rw [List.mem_singleton.1 hs']; exact hsb, by simp; omega, Turns.of_below (((UC.out.trans tA).below (Nat.le_refl _) (fun _ x => x.elim)).trans hbz) _⟩)
              have HQQ := hide hr
              clear hr hnr2 hbz tA
              go_wp2_with (at_builtin; refine wpList_append_run rfl _ _ 35 rfl _ _ rfl rfl _ _ (HQQ.out _) ?_)
              go_roundw
              case rel => exact ⟨j + 1, K ++ [s], by go_num, by omega, HF.out⟩
              case measure => (simp [intOf]; try omega)
        · obtain rfl : j = ln := by omega
          obtain ⟨wp, hwp⟩ : ∃ u, u = wr := ⟨_, rfl⟩
          subst hwp
          have j9 : ¬ (j : Int) < j := by omega
          have hK1 : K.length ≤ 150 := by omega
          have HOK := hide (show (inOrd (ents R) && looksOk K) = true by rw [HOR.out, HLO.out]; rfl)
          have HEP := hide (HEN.out.quiet HTJ.out)
          have HRISE := hide (show (ents R).Pairwise ltE from rise_map (pairwise_of_ord HOR.out))
          obtain ⟨L, hL⟩ : ∃ L, rowE (allC K) bot (ents R) = L := ⟨_, rfl⟩
          have HLR := hide hL
          have HLQ := hide (show Lite L by rw [← hL]; exact HLT.out.sub (keepB_sub _ _))
          have HLRI := hide (show L.Pairwise ltE by rw [← hL]; exact row_rise _ _ _ HRISE.out)
          have HAG := hide (show rowE (allC K) bot L = L by rw [← hL]; exact row_again _ _ _ HRISE.out)
          have RX := hide (Row_any a9 sa R.length c9 K.length sc R K bot wp HEP.out rfl (by omega) (fun x hx => by have := HLT.out.tow x hx; omega) HSU.out rfl hscc (by omega))
          rw [HOK.out, hL] at RX
          clear hL
          go_wp2_with fail
          refine RX.out.mono ?_
          rintro e x1 ⟨hr, t1⟩
          obtain ⟨a1, n1, c1, Q1, rfl, hn1, hE1, hes1, hS1, h51⟩ : ∃ (a : Option Addr) (n c : Nat) (Q : List Tow), e = .returned (.tuple #[.slice a n c, .int .i64 0]) ∧ n = Q.length ∧ ERow x1 wp.heap.size (.slice a n c) Q ∧ ents Q = L ∧ Shown x1 wp.heap.size Q ∧ Typ5 x1 Q := by
            rcases hr with ⟨h, _⟩ | ⟨_, h⟩
            · cases h
            · exact h
          subst hn1
          have HL1 := hide (show Lite (ents Q1) by rw [hes1]; exact HLQ.out)
          have HO1 := hide (show inOrd (ents Q1) = true from ord_of_pairwise ((List.pairwise_map (f := fun x : Tow => x.e)).1 (by have := HLRI.out; rw [← hes1] at this; exact this)))
          obtain ⟨a1', c1', e1', hen1, hcap1, _⟩ := ents_row hE1 fun x hx => ⟨(hS1 x hx).1, (hS1 x hx).2.1⟩
          injection e1' with q1 q2 q3
          subst q1 q3
          have hq1 : Q1.length ≤ 150 := by have := HL1.out.len; simpa [ents] using this
          have HES1 := hide hes1
          have HEN1 := hide hen1
          have HCAP1 := hide hcap1
          have X1 := hide t1
          have RY := hide (Row_any a1 sa Q1.length c1 K.length sc Q1 K bot x1 hen1 rfl (by omega) (fun x hx => by have := HL1.out.tow x hx; omega) (HSU.out.quiet t1) rfl hscc (by omega))
          rw [HO1.out, HLO.out, hes1, HAG.out] at RY
          clear hr t1 hE1 hes1 hS1 h51 hen1 hcap1 q2 RX
          go_wp2_with fail
          refine RY.out.mono ?_
          rintro e x2 ⟨hr, t2⟩
          obtain ⟨a2, n2, c2, Q2, rfl, hn2, hE2, hes2, hS2, _⟩ : ∃ (a : Option Addr) (n c : Nat) (Q : List Tow), e = .returned (.tuple #[.slice a n c, .int .i64 0]) ∧ n = Q.length ∧ ERow x2 x1.heap.size (.slice a n c) Q ∧ ents Q = L ∧ Shown x2 x1.heap.size Q ∧ Typ5 x2 Q := by
            rcases hr with ⟨h, _⟩ | ⟨_, h⟩
            · cases h
            · exact h
          obtain ⟨a2', c2', e2', hen2, _, _⟩ := ents_row hE2 fun x hx => ⟨(hS2 x hx).1, (hS2 x hx).2.1⟩
          injection e2' with q1 q2 q3
          subst q1 q3
          have HEQ2 := hide (show Q1.map (·.e) = Q2.map (·.e) from HES1.out.trans hes2.symm)
          have hn21 : n2 = Q1.length := by
            have := congrArg List.length (HEQ2.out)
            simp only [List.length_map] at this
            omega
          subst hn21
          have HEN2 := hide hen2
          have X2 := hide (X1.out.trans t2)
          have HEN1b := hide (HEN1.out.quiet t2)
          clear hr t2 hE2 hes2 hS2 hen2 hn2 q2 RY HEN1
          have tA := (Turns.refl (fun _ => False) x2).alloc (.cells #[.slice a9 R.length c9] 31)
          have hrw := rows_one (x := ⟨a9, c9, R⟩) (heap_alloc_new x2 (.cells #[.slice a9 R.length c9] 31)) ⟨(HEP.out.quiet X2.out).quiet tA, HCP.out, (by show R.length ≤ 1000000; omega)⟩
          have HRW := hide hrw
          have RZ := hide (Run_any (some ⟨x2.heap.size, 0, none⟩) sa 1 1 K.length sc [⟨a9, c9, R⟩] K bot t _ hrw rfl (few_fine (HLT.out.few a9 c9)) ((HSU.out.quiet X2.out).quiet tA) rfl hscc (by omega) (few_mg (HLT.out.few a9 c9)))
          have X2A := hide (X2.out.trans tA)
          have HEN1c := hide (HEN1b.out.quiet tA)
          have HEN2c := hide (HEN2.out.quiet tA)
          clear tA hrw HEN1b HEN2 X2
          go_wp2_with fail
          refine RZ.out.mono ?_
          rintro e x3 ⟨hr, t3⟩
          obtain ⟨v3, rfl, hfi⟩ : ∃ v, e = .returned (.tuple #[v, .int .i64 0]) ∧ ∃ B, Files x3 B (cutE t L) v := by
            rcases hr with ⟨h, _⟩ | ⟨_, v, xs, h1, h2, h3⟩
            · rw [each_single HOR.out, HLO.out, HTG.out] at h; cases h
            · have hx := mg_single HRW.out HOR.out h2
              subst hx
              rw [HLR.out] at h3
              exact ⟨v, h1, _, h3⟩
          have HFI := hide hfi
          have X3 := hide (X2A.out.trans t3)
          have ES := hide (entries_same a1 a2 Q1.length c1 c2 Q1 Q2 x3 (HEN1c.out.quiet t3) (HEN2c.out.quiet t3) HEQ2.out rfl (by omega) (fun x hx => by have := HL1.out.tow x hx; omega))
          have HEN1d := hide (HEN1c.out.quiet t3)
          clear hr t3 hfi RZ HEN1c HEN2c X2A HRW
          go_wp2_with fail
          refine ES.out.mono ?_
          rintro e x4 ⟨rfl, b4⟩
          have t4 := Turns.of_below b4 (fun _ => False)
          have X4 := hide (X3.out.trans t4)
          have HEN4 := hide (HEN1d.out.quiet t4)
          have HFI4 := hide (show ∃ B, Files x4 B (cutE t L) v3 from ⟨_, HFI.out.choose_spec.quiet t4⟩)
          clear b4 t4 ES HEN1d HFI X3
          obtain ⟨g1, d1, wA, hr1, g2, d2, wB, hr2, hrow, tB⟩ := all_new x4 sa sc K (HSU.out.quiet X4.out) (by omega)
          have HR1 := hide hr1
          have HR2 := hide hr2
          have XB := hide (X4.out.trans tB)
          have HENB := hide (HEN4.out.quiet tB)
          have HFIB := hide (show ∃ B, Files wB B (cutE t L) v3 from ⟨_, HFI4.out.choose_spec.quiet tB⟩)
          have HUA := hide (u64s_row hrow (fun s hs => by
            unfold allN at hs
            rcases List.mem_append.1 hs with hs | hs
            · exact HKS.out s hs
            · rw [List.mem_singleton.1 hs]; decide))
          have HML := hide (show (allN K).length = K.length + 1 by unfold allN; rw [List.length_append]; rfl)
          clear hr1 hr2 hrow tB HEN4 HFI4 X4
          go_wp2_with (first | (at_builtin; refine wpList_append_run rfl _ _ 35 rfl (.slice (some ⟨x4.heap.size, 0, none⟩) 0 0) (.slice sa K.length sc) rfl rfl _ _ (HR1.out _) ?_) | (at_builtin; refine wpList_append_run rfl _ _ 35 rfl (.slice (some ⟨g1, 0, none⟩) K.length d1) (.slice (some ⟨wA.heap.size, 0, none⟩) 1 1) rfl rfl _ _ (HR2.out _) ?_))
          have HCAPb := hide HCAP1.out
          have N23 := hide neq23
          go_loopw [21] (fun iv wr => ∃ i : Nat, iv = .int .i64 (i : Nat) ∧ i ≤ K.length + 1 ∧ Turns (fun _ => False) wB wr) (fun iv _ => K.length + 1 - (intOf iv).toNat)
          case atStart => exact ⟨0, rfl, Nat.zero_le _, Turns.refl _ _⟩
          case round =>
            obtain ⟨i, rfl, hi, htw⟩ := hrel
            have HTW := hide htw
            clear htw
            by_cases hik : i < K.length + 1
            · obtain ⟨s, hs⟩ : ∃ s, (allN K)[i]? = some s := ⟨_, List.getElem?_eq_getElem (by have := HML.out; omega)⟩
              have HSM := hide ((allC_mem K s).2 (List.mem_of_getElem? hs))
              have HSC := hide (fun (u : World) (tt : Turns (fun _ => False) wr u) => show u.cell? ⟨g2, i, none⟩ = some (.int .u64 (s : Nat)) from by
                obtain ⟨⟨b9, o9, e9, hc9⟩, _⟩ := (HUA.out.quiet (HTW.out.trans tt)) i s hs
                cases e9
                rwa [Nat.zero_add] at hc9)
              have i1 : (i : Int) < (K.length : Int) + 1 := by omega
              have i0 : (0 : Int) ≤ i := by omega
              clear hs
              have tA := (Turns.refl (fun _ => False) wr).alloc (.cells #[.slice a9 R.length c9] 31)
              have hrw := rows_one (x := ⟨a9, c9, R⟩) (heap_alloc_new wr (.cells #[.slice a9 R.length c9] 31)) ⟨(HEP.out.quiet (XB.out.trans HTW.out)).quiet tA, HCP.out, (by show R.length ≤ 1000000; omega)⟩
              have HRW := hide hrw
              have SX := hide (seenR_any (some ⟨wr.heap.size, 0, none⟩) 1 1 [⟨a9, c9, R⟩] s _ hrw rfl (HLT.out.few a9 c9))
              rw [each_single HOR.out] at SX
              have TA := hide tA
              have y1 := HSC.out _ tA
              clear tA hrw
              go_wp2_with fail
              refine SX.out.mono ?_
              rintro e z1 ⟨p1, m1, k1, Rx, rfl, hg1, hb1, hw1⟩
              have t1 := TA.out.trans (Turns.of_below hw1 (fun _ => False))
              have HMX := hide (seen_single HRW.out HOR.out hb1)
              obtain ⟨p1', k1', e1, hex⟩ := hg1
              injection e1 with q1 q2 q3
              subst q1 q2 q3
              have HEX := hide hex
              have Z1 := hide t1
              have tA2 := (Turns.refl (fun _ => False) z1).alloc (.cells #[.slice a1 Q1.length c1] 31)
              have hrw2 := rows_one (x := ⟨a1, c1, Q1⟩) (heap_alloc_new z1 (.cells #[.slice a1 Q1.length c1] 31)) ⟨(HENB.out.quiet (HTW.out.trans t1)).quiet tA2, HCAPb.out, (by show Q1.length ≤ 1000000; omega)⟩
              have HRW2 := hide hrw2
              have SY := hide (seenR_any (some ⟨z1.heap.size, 0, none⟩) 1 1 [⟨a1, c1, Q1⟩] s _ hrw2 rfl (HL1.out.few a1 c1))
              rw [each_single HO1.out] at SY
              have TA2 := hide tA2
              have y2 := HSC.out _ (t1.trans tA2)
              rw [show ordE true = 0 from rfl] at SY ⊢
              clear hb1 hw1 hex t1 tA2 hrw2 SX y1 TA HRW
              go_wp2_with fail
              refine SY.out.mono ?_
              rintro e z2 ⟨p2, m2, k2, Ry, rfl, hg2, hb2, hw2⟩
              have t2 := TA2.out.trans (Turns.of_below hw2 (fun _ => False))
              have hmy := seen_single HRW2.out HO1.out hb2
              rw [HES1.out] at hmy
              have hxy : Rx.map (·.e) = Ry.map (·.e) := by
                rw [HMX.out, hmy, ← HLR.out]
                exact row_seen (allC K) bot (ents R) HRISE.out HSM.out
              obtain ⟨p2', k2', e2, hey⟩ := hg2
              injection e2 with q1 q2 q3
              subst q1 q2 q3
              have hxyl : Ry.length = Rx.length := by
                have := congrArg List.length hxy
                simpa using this.symm
              rw [hxyl]
              have hxm : ∀ x, x ∈ Rx → x.e ∈ ents R := fun x hx => by
                have h1 : x.e ∈ Rx.map (·.e) := List.mem_map.2 ⟨x, hx, rfl⟩
                rw [HMX.out] at h1
                exact (List.mem_filter.1 h1).1
              have hxl : Rx.length ≤ 150 := by
                have h1 := congrArg List.length HMX.out
                have h2 := List.length_filter_le (newest s (ents R)) (ents R)
                have h3 := HLT.out.len
                simp only [List.length_map] at h1
                omega
              have ES := hide (entries_same p1 p2 Rx.length k1 k2 Rx Ry z2 (HEX.out.quiet t2) hey hxy rfl (by omega) (fun x hx => by have := HLT.out.each x.e (hxm x hx); omega))
              have Z2 := hide (Z1.out.trans t2)
              clear hb2 hw2 hmy hxy hey hxyl hxm hxl t2 SY y2 TA2 HRW2 HEX HMX Z1
              go_wp2_with fail
              refine ES.out.mono ?_
              rintro e z3 ⟨rfl, b3⟩
              have Z3 := hide (Z2.out.trans (Turns.of_below b3 (fun _ => False)))
              clear b3 ES Z2
              go_wp2_with fail
              go_roundw
              case rel => exact ⟨i + 1, by go_num, by omega, HTW.out.trans Z3.out⟩
              case measure => (simp [intOf]; try omega)
            · obtain rfl : i = K.length + 1 := by omega
              obtain ⟨we, hwe⟩ : ∃ u, u = wr := ⟨_, rfl⟩
              subst hwe
              have XE := hide (XB.out.trans HTW.out)
              have HENE := hide (HENB.out.quiet HTW.out)
              obtain ⟨af, cf, ps, hv3, hpl, hent, hat⟩ := files_at (HFIB.out.choose_spec.quiet HTW.out)
              subst hv3
              have HENT := hide hent
              have HAT := hide hat
              have HPP := hide (cutE_P (t := t) L)
              have i9 : ¬ (K.length : Int) + 1 < (K.length : Int) + 1 := by omega
              have hplm : ps.length ≤ 1000000 := hpl
              clear hent hat HFIB HENB
              go_wp2_with fail
              go_loopw [26, 27] (fun jv iv wr => ∃ (i : Nat) (J : List Tow), iv = .int .i64 (i : Nat) ∧ i ≤ ps.length ∧ ERow wr we.heap.size jv J ∧ (∀ x, x ∈ J → Bytes we x.kv x.e.key ∧ Bytes we x.vv x.e.val) ∧ ents J = ((cutE t L).take i).flatten ∧ Turns (fun _ => False) we wr) (fun _ iv _ => ps.length - (intOf iv).toNat)
              case atStart => exact ⟨0, [], rfl, Nat.zero_le _, .inl ⟨rfl, rfl⟩, fun x hx => (by cases hx), rfl, Turns.refl _ _⟩
              case round =>
                obtain ⟨i, J, rfl, hi, hjr, hjb, hje, htj⟩ := hrel
                have HJR := hide hjr
                have HJB := hide hjb
                have HJE := hide hje
                have HTJ4 := hide htj
                obtain ⟨ja, jc, rfl⟩ := hjr.len
                clear hjr hjb hje htj
                have hJl : J.length ≤ 150 := by
                  have h1 := congrArg List.length HJE.out
                  have h2 : ((cutE t L).take i).flatten.length ≤ L.length := by
                    have h3 := cutE_flat t L
                    have h4 : (cutE t L).flatten = ((cutE t L).take i).flatten ++ ((cutE t L).drop i).flatten := by rw [← List.flatten_append, List.take_append_drop]
                    rw [h3] at h4
                    have := congrArg List.length h4
                    rw [List.length_append] at this
                    omega
                  have h5 := HLQ.out.len
                  have h6 : (ents J).length = J.length := by simp [ents]
                  omega
                by_cases hin4 : i < ps.length
                · obtain ⟨p, hp⟩ : ∃ p, ps[i]? = some p := ⟨_, List.getElem?_eq_getElem hin4⟩
                  have hgi : (cutE t L)[i]? = some (ents p.R) := by rw [← HENT.out]; simp [entR, hp, ents]
                  obtain ⟨hne, hnx⟩ := cutP_at HPP.out i _ hgi
                  obtain ⟨⟨gf, rfl, hcf⟩, hpe⟩ := HAT.out i p hp
                  obtain ⟨pa, pc, pR⟩ := p
                  simp only at hgi hne hnx hcf hpe
                  obtain ⟨y, hy⟩ : ∃ y, pR[0]? = some y := by
                    cases pR with
                    | nil => exact absurd rfl hne
                    | cons y r => exact ⟨y, rfl⟩
                  obtain ⟨gp, op, rfl, hcy, hky, hvy⟩ := ents_at2 hpe hy
                  have hps0 : 0 < pR.length := (List.getElem?_eq_some_iff.1 hy).1
                  have HPE := hide hpe
                  have HGI := hide hgi
                  have HNX := hide hnx
                  have HKY := hide hky
                  have HCF := hide (fun (u : World) (tt : Turns (fun _ => False) we u) => tt.cell hcf (fun x => x))
                  have HCY := hide (fun (u : World) (tt : Turns (fun _ => False) we u) => tt.cell hcy.1 (fun x => x))
                  have hflat : ((cutE t L).take (i + 1)).flatten = ((cutE t L).take i).flatten ++ ents pR := by
                    rw [List.take_add_one, hgi, List.flatten_append]
                    simp
                  have HFLAT := hide hflat
                  have hpm : pR.length ≤ 150 := by
                    have h1 := congrArg List.length hflat
                    rw [List.length_append] at h1
                    have h4 : (cutE t L).flatten = ((cutE t L).take (i + 1)).flatten ++ ((cutE t L).drop (i + 1)).flatten := by rw [← List.flatten_append, List.take_append_drop]
                    rw [cutE_flat] at h4
                    have h5 := congrArg List.length h4
                    rw [List.length_append] at h5
                    have h6 := HLQ.out.len
                    have h7 : (ents pR).length = pR.length := by simp [ents]
                    omega
                  have HPSZ := hide (show Lite (ents pR) from ⟨by simp [ents]; omega, by
                    have h4 : (cutE t L).flatten = ((cutE t L).take (i + 1)).flatten ++ ((cutE t L).drop (i + 1)).flatten := by rw [← List.flatten_append, List.take_append_drop]
                    rw [cutE_flat, hflat] at h4
                    have hsub : (ents pR).Sublist L := by
                      rw [h4]
                      exact (List.sublist_append_right _ _).trans (List.sublist_append_left _ _)
                    exact Nat.le_trans (wE_sub hsub) HLQ.out.weigh⟩)
                  have i1 : (i : Int) < ps.length := by omega
                  have i0 : (0 : Int) ≤ i := by omega
                  have E0 := hide hps0
                  have RS := hide (fun (u : World) (tt : Turns (fun _ => False) wr u) => rsize26 (some ⟨gp, op, none⟩) pR.length pc pR u (HPE.out.quiet (HTJ4.out.trans tt)) rfl (by omega) HPSZ.out.size)
                  have HY := hide hy
                  obtain ⟨sz, hsz⟩ : ∃ m, sizeEs (ents pR) = m := ⟨_, rfl⟩
                  rw [hsz] at RS
                  have HSZ := hide hsz
                  have hszb : sz ≤ 1000000000000 := by rw [← hsz]; exact HPSZ.out.size
                  clear hp hgi hne hnx hcf hpe hy hcy hky hvy hflat hsz
                  obtain ⟨pl, hpl2⟩ : ∃ m, pR.length = m := ⟨_, rfl⟩
                  have HPL := hide hpl2
                  rw [hpl2] at RS E0 hpm HCF hps0
                  clear hpl2
                  go_upto_region 35 with (fail)
                  go_cut [26, 236] from 188 to 242 (fun v26 v236 wd => v26 = .slice ja J.length jc ∧ v236 = .bool false ∧ Turns (fun _ => False) wr wd)
                  case first =>
                    rename_i kk rest jj kk' m1 m2
                    clear rest
                    have yf := HCF.out wr HTJ4.out
                    have yk := HCY.out wr HTJ4.out
                    have HEL := hide (show (cutE t L).length = ps.length by rw [← HENT.out]; simp [entR])
                    have tV : Turns (fun _ => False) wr wr.drew := (Turns.refl _ _).drew
                    unfold Tow.kv at yk
                    obtain ⟨yl, hyl⟩ : ∃ m, y.e.key.length = m := ⟨_, rfl⟩
                    rw [hyl] at yk
                    have HYL := hide hyl
                    clear hyl
                    by_cases hb : i + 1 < ps.length
                    · have E2 := hide (show (i : Int) < (ps.length : Int) - 1 by omega)
                      have E3 := hide (show t ≤ (sz : Int) by rw [← HSZ.out]; exact cut_big HGI.out (by rw [HEL.out]; exact hb))
                      clear hb
                      by_cases h0 : 0 < i
                      · have E1 := hide (show (0 : Int) < (i : Int) by omega)
                        obtain ⟨J', z, hJ, hzy⟩ := cut_last h0 HGI.out HY.out HJE.out
                        have hrow := HJR.out
                        have hJm : J.length = J'.length + 1 := by rw [hJ]; simp
                        rw [hJm] at hrow
                        rw [hJ] at hrow
                        obtain ⟨gj, hja, hE4, _⟩ := hrow.last rfl
                        have hzb : Bytes wr z.kv z.e.key := (HJB.out z (by rw [hJ]; simp)).1.quiet HTJ4.out
                        have BC := hide (fun (u : World) (tt : Turns (fun _ => False) wr u) => bytes_any z.ka y.ka z.e.key.length y.e.key.length z.kc y.kc z.e.key y.e.key u (hzb.quiet tt) (HKY.out.quiet (HTJ4.out.trans tt)) (by
                          have h1 : z.e ∈ ents J := List.mem_map.2 ⟨z, by rw [hJ]; simp, rfl⟩
                          rw [HJE.out] at h1
                          have h2 : z.e ∈ L := by
                            have h4 : (cutE t L).flatten = ((cutE t L).take i).flatten ++ ((cutE t L).drop i).flatten := by rw [← List.flatten_append, List.take_append_drop]
                            rw [cutE_flat] at h4
                            rw [h4]
                            exact List.mem_append_left _ h1
                          have := HLQ.out.each z.e h2
                          omega))
                        rw [HYL.out, decide_eq_false hzy] at BC
                        have yz := hE4.1
                        unfold Tow.kv at yz
                        obtain ⟨m, hm⟩ : ∃ m, J'.length = m := ⟨_, rfl⟩
                        rw [hm] at hJm yz
                        have HM := hide hJm
                        have j2 : (m : Int) < (J.length : Int) := by omega
                        have j3 : (0 : Int) ≤ (m : Int) := by omega
                        clear hrow hJ hzy hE4 hzb hm h0 hJm
                        subst hja
                        obtain ⟨zk, hzk⟩ : ∃ v, Value.slice z.ka z.e.key.length z.kc = v := ⟨_, rfl⟩
                        generalize z.e.key.length = zl at *
                        clear hzk
                        have SK := hide (fun (u : World) (tt : Turns (fun _ => False) wr u) => show u.cell? ⟨gf, i, none⟩ = some (.slice (some ⟨gp, op, none⟩) pl pc) ∧ u.cell? ⟨gj, m * 4, none⟩ = some (.slice z.ka zl z.kc) ∧ u.cell? ⟨gp, op, none⟩ = some (.slice y.ka yl y.kc) from ⟨tt.cell yf (fun x => x), tt.cell yz (fun x => x), tt.cell yk (fun x => x)⟩)
                        refine wp_region_held_drew (S := fun u => u.cell? ⟨gf, i, none⟩ = some (.slice (some ⟨gp, op, none⟩) pl pc) ∧ u.cell? ⟨gj, m * 4, none⟩ = some (.slice z.ka zl z.kc) ∧ u.cell? ⟨gp, op, none⟩ = some (.slice y.ka yl y.kc)) (by kernel_rfl) (SK.out _ tV) (fun _ => ?_)
                        change wpAnyH _ _ _ _ _ 43 (Array.replicate 43 false) _ _
                        refine wpAnyH_take (i := 0) (oi := { dst := some 194, op := Op.move (Operand.tmp 18), type := 22, pos := "law.go:143", after := #[], guard := none }) (v := .slice (some ⟨gf, 0, none⟩) ps.length cf) rfl (by kernel_rfl) (by kernel_rfl) (by kernel_rfl) (fun _ _ _ h => h) (Or.inl ⟨by rfl, ?_⟩) (SK.out _ tV) ?_
                        · rintro w ⟨s0, s1, s2⟩
                          go_simp
                        simp only [Act.put, List.setIfInBounds_toArray, List.set_cons_zero, List.set_cons_succ]
                        refine wpAnyH_take (i := 1) (oi := { dst := some 195, op := Op.move (Operand.tmp 27), type := 3, pos := "law.go:143", after := #[], guard := none }) (v := .int .i64 (i : Nat)) rfl (by kernel_rfl) (by kernel_rfl) (by kernel_rfl) (fun _ _ _ h => h) (Or.inl ⟨by rfl, ?_⟩) (SK.out _ tV) ?_
                        · rintro w ⟨s0, s1, s2⟩
                          go_simp
                        simp only [Act.put, List.setIfInBounds_toArray, List.set_cons_zero, List.set_cons_succ]
                        refine wpAnyH_take (i := 2) (oi := { dst := some 196, op := Op.indexAddr 22 (Operand.tmp 194) (Operand.tmp 195), type := 0, pos := "law.go:143", after := #[{ on := 0, ground := Ground.data }, { on := 1, ground := Ground.data }], guard := none }) (v := .pointer (some ⟨gf, i, none⟩)) rfl (by kernel_rfl) (by kernel_rfl) (by kernel_rfl) (fun _ _ _ h => h) (Or.inl ⟨by rfl, ?_⟩) (SK.out _ tV) ?_
                        · rintro w ⟨s0, s1, s2⟩
                          go_simp
                        simp only [Act.put, List.setIfInBounds_toArray, List.set_cons_zero, List.set_cons_succ]
                        refine wpAnyH_take (i := 3) (oi := { dst := some 197, op := Op.load 31 (Operand.tmp 196), type := 31, pos := "law.go:143", after := #[{ on := 2, ground := Ground.data }], guard := none }) (v := .slice (some ⟨gp, op, none⟩) pl pc) rfl (by kernel_rfl) (by kernel_rfl) (by kernel_rfl) (fun _ _ _ h => h) (Or.inl ⟨by rfl, ?_⟩) (SK.out _ tV) ?_
                        · rintro w ⟨s0, s1, s2⟩
                          go_simp
                        simp only [Act.put, List.setIfInBounds_toArray, List.set_cons_zero, List.set_cons_succ]
                        refine wpAnyH_take (i := 4) (oi := { dst := some 198, op := Op.call { callee := Callee.builtin Builtin.len, args := #[Operand.tmp 197], argTypes := #[31] }, type := 3, pos := "law.go:143", after := #[{ on := 3, ground := Ground.data }], guard := none }) (v := .int .i64 (pl : Nat)) rfl (by kernel_rfl) (by kernel_rfl) (by kernel_rfl) (fun _ _ _ h => h) (Or.inl ⟨by rfl, ?_⟩) (SK.out _ tV) ?_
                        · rintro w ⟨s0, s1, s2⟩
                          go_simp
                        simp only [Act.put, List.setIfInBounds_toArray, List.set_cons_zero, List.set_cons_succ]
                        refine wpAnyH_take (i := 5) (oi := { dst := some 199, op := Op.binOp BinOp.eql 3 (Operand.tmp 198) (Operand.const (Value.int IntKind.i64 0)) 3, type := 4, pos := "law.go:143", after := #[{ on := 4, ground := Ground.data }], guard := none }) (v := .bool false) rfl (by kernel_rfl) (by kernel_rfl) (by kernel_rfl) (fun _ _ _ h => h) (Or.inl ⟨by rfl, ?_⟩) (SK.out _ tV) ?_
                        · rintro w ⟨s0, s1, s2⟩
                          go_simp; try (have := E0.out; omega)
                        simp only [Act.put, List.setIfInBounds_toArray, List.set_cons_zero, List.set_cons_succ]
                        refine wpAnyH_take (i := 6) (oi := { dst := some 200, op := Op.move (Operand.tmp 199), type := 4, pos := "law.go:143", after := #[{ on := 5, ground := Ground.data }], guard := none }) (v := .bool false) rfl (by kernel_rfl) (by kernel_rfl) (by kernel_rfl) (fun _ _ _ h => h) (Or.inl ⟨by rfl, ?_⟩) (SK.out _ tV) ?_
                        · rintro w ⟨s0, s1, s2⟩
                          go_simp
                        simp only [Act.put, List.setIfInBounds_toArray, List.set_cons_zero, List.set_cons_succ]
                        refine wpAnyH_take (i := 7) (oi := { dst := some 201, op := Op.move (Operand.tmp 27), type := 3, pos := "law.go:143", after := #[{ on := 6, ground := Ground.guard }], guard := some (6, false) }) (v := .int .i64 (i : Nat)) rfl (by kernel_rfl) (by kernel_rfl) (by kernel_rfl) (fun _ _ _ h => h) (Or.inl ⟨by rfl, ?_⟩) (SK.out _ tV) ?_
                        · rintro w ⟨s0, s1, s2⟩
                          go_simp
                        simp only [Act.put, List.setIfInBounds_toArray, List.set_cons_zero, List.set_cons_succ]
                        refine wpAnyH_take (i := 8) (oi := { dst := some 202, op := Op.binOp BinOp.gtr 3 (Operand.tmp 201) (Operand.const (Value.int IntKind.i64 0)) 3, type := 4, pos := "law.go:143", after := #[{ on := 7, ground := Ground.data }, { on := 6, ground := Ground.guard }], guard := some (6, false) }) (v := .bool true) rfl (by kernel_rfl) (by kernel_rfl) (by kernel_rfl) (fun _ _ _ h => h) (Or.inl ⟨by rfl, ?_⟩) (SK.out _ tV) ?_
                        · rintro w ⟨s0, s1, s2⟩
                          go_simp; try (have := E1.out; omega)
                        simp only [Act.put, List.setIfInBounds_toArray, List.set_cons_zero, List.set_cons_succ]
                        refine wpAnyH_take (i := 9) (oi := { dst := some 203, op := Op.move (Operand.tmp 202), type := 4, pos := "law.go:143", after := #[{ on := 8, ground := Ground.data }, { on := 6, ground := Ground.chain }, { on := 6, ground := Ground.guard }], guard := some (6, false) }) (v := .bool true) rfl (by kernel_rfl) (by kernel_rfl) (by kernel_rfl) (fun _ _ _ h => h) (Or.inl ⟨by rfl, ?_⟩) (SK.out _ tV) ?_
                        · rintro w ⟨s0, s1, s2⟩
                          go_simp
                        simp only [Act.put, List.setIfInBounds_toArray, List.set_cons_zero, List.set_cons_succ]
                        refine wpAnyH_take (i := 10) (oi := { dst := some 204, op := Op.move (Operand.tmp 26), type := 31, pos := "law.go:143", after := #[{ on := 9, ground := Ground.guard }], guard := some (9, true) }) (v := .slice (some ⟨gj, 0, none⟩) J.length jc) rfl (by kernel_rfl) (by kernel_rfl) (by kernel_rfl) (fun _ _ _ h => h) (Or.inl ⟨by rfl, ?_⟩) (SK.out _ tV) ?_
                        · rintro w ⟨s0, s1, s2⟩
                          go_simp
                        simp only [Act.put, List.setIfInBounds_toArray, List.set_cons_zero, List.set_cons_succ]
                        refine wpAnyH_take (i := 11) (oi := { dst := some 205, op := Op.move (Operand.tmp 26), type := 31, pos := "law.go:143", after := #[{ on := 9, ground := Ground.guard }], guard := some (9, true) }) (v := .slice (some ⟨gj, 0, none⟩) J.length jc) rfl (by kernel_rfl) (by kernel_rfl) (by kernel_rfl) (fun _ _ _ h => h) (Or.inl ⟨by rfl, ?_⟩) (SK.out _ tV) ?_
                        · rintro w ⟨s0, s1, s2⟩
                          go_simp
                        simp only [Act.put, List.setIfInBounds_toArray, List.set_cons_zero, List.set_cons_succ]
                        refine wpAnyH_take (i := 12) (oi := { dst := some 206, op := Op.call { callee := Callee.builtin Builtin.len, args := #[Operand.tmp 205], argTypes := #[31] }, type := 3, pos := "law.go:143", after := #[{ on := 11, ground := Ground.data }, { on := 9, ground := Ground.guard }], guard := some (9, true) }) (v := .int .i64 (J.length : Nat)) rfl (by kernel_rfl) (by kernel_rfl) (by kernel_rfl) (fun _ _ _ h => h) (Or.inl ⟨by rfl, ?_⟩) (SK.out _ tV) ?_
                        · rintro w ⟨s0, s1, s2⟩
                          go_simp
                        simp only [Act.put, List.setIfInBounds_toArray, List.set_cons_zero, List.set_cons_succ]
                        refine wpAnyH_take (i := 13) (oi := { dst := some 207, op := Op.binOp BinOp.sub 3 (Operand.tmp 206) (Operand.const (Value.int IntKind.i64 1)) 3, type := 3, pos := "law.go:143", after := #[{ on := 12, ground := Ground.data }, { on := 9, ground := Ground.guard }], guard := some (9, true) }) (v := .int .i64 (m : Nat)) rfl (by kernel_rfl) (by kernel_rfl) (by kernel_rfl) (fun _ _ _ h => h) (Or.inl ⟨by rfl, ?_⟩) (SK.out _ tV) ?_
                        · rintro w ⟨s0, s1, s2⟩
                          go_simp; rw [wrapI _ (by have := HM.out; omega) (by have := HM.out; omega)]; have := HM.out; omega
                        simp only [Act.put, List.setIfInBounds_toArray, List.set_cons_zero, List.set_cons_succ]
                        refine wpAnyH_take (i := 14) (oi := { dst := some 208, op := Op.indexAddr 31 (Operand.tmp 204) (Operand.tmp 207), type := 0, pos := "law.go:143", after := #[{ on := 10, ground := Ground.data }, { on := 13, ground := Ground.data }, { on := 9, ground := Ground.guard }], guard := some (9, true) }) (v := .pointer (some ⟨gj, m * 4, none⟩)) rfl (by kernel_rfl) (by kernel_rfl) (by kernel_rfl) (fun _ _ _ h => h) (Or.inl ⟨by rfl, ?_⟩) (SK.out _ tV) ?_
                        · rintro w ⟨s0, s1, s2⟩
                          go_simp
                        simp only [Act.put, List.setIfInBounds_toArray, List.set_cons_zero, List.set_cons_succ]
                        refine wpAnyH_take (i := 15) (oi := { dst := some 209, op := Op.fieldAddr 29 (Operand.tmp 208) 0, type := 0, pos := "law.go:143", after := #[{ on := 14, ground := Ground.data }, { on := 9, ground := Ground.guard }], guard := some (9, true) }) (v := .pointer (some ⟨gj, m * 4, none⟩)) rfl (by kernel_rfl) (by kernel_rfl) (by kernel_rfl) (fun _ _ _ h => h) (Or.inl ⟨by rfl, ?_⟩) (SK.out _ tV) ?_
                        · rintro w ⟨s0, s1, s2⟩
                          go_simp
                        simp only [Act.put, List.setIfInBounds_toArray, List.set_cons_zero, List.set_cons_succ]
                        refine wpAnyH_take (i := 16) (oi := { dst := some 210, op := Op.load 26 (Operand.tmp 209), type := 26, pos := "law.go:143", after := #[{ on := 15, ground := Ground.data }, { on := 9, ground := Ground.guard }], guard := some (9, true) }) (v := .slice z.ka zl z.kc) rfl (by kernel_rfl) (by kernel_rfl) (by kernel_rfl) (fun _ _ _ h => h) (Or.inl ⟨by rfl, ?_⟩) (SK.out _ tV) ?_
                        · rintro w ⟨s0, s1, s2⟩
                          go_simp
                        simp only [Act.put, List.setIfInBounds_toArray, List.set_cons_zero, List.set_cons_succ]
                        refine wpAnyH_take (i := 17) (oi := { dst := some 211, op := Op.move (Operand.tmp 18), type := 22, pos := "law.go:143", after := #[{ on := 9, ground := Ground.guard }], guard := some (9, true) }) (v := .slice (some ⟨gf, 0, none⟩) ps.length cf) rfl (by kernel_rfl) (by kernel_rfl) (by kernel_rfl) (fun _ _ _ h => h) (Or.inl ⟨by rfl, ?_⟩) (SK.out _ tV) ?_
                        · rintro w ⟨s0, s1, s2⟩
                          go_simp
                        simp only [Act.put, List.setIfInBounds_toArray, List.set_cons_zero, List.set_cons_succ]
                        refine wpAnyH_take (i := 18) (oi := { dst := some 212, op := Op.move (Operand.tmp 27), type := 3, pos := "law.go:143", after := #[{ on := 9, ground := Ground.guard }], guard := some (9, true) }) (v := .int .i64 (i : Nat)) rfl (by kernel_rfl) (by kernel_rfl) (by kernel_rfl) (fun _ _ _ h => h) (Or.inl ⟨by rfl, ?_⟩) (SK.out _ tV) ?_
                        · rintro w ⟨s0, s1, s2⟩
                          go_simp
                        simp only [Act.put, List.setIfInBounds_toArray, List.set_cons_zero, List.set_cons_succ]
                        refine wpAnyH_take (i := 19) (oi := { dst := some 213, op := Op.indexAddr 22 (Operand.tmp 211) (Operand.tmp 212), type := 0, pos := "law.go:143", after := #[{ on := 17, ground := Ground.data }, { on := 18, ground := Ground.data }, { on := 9, ground := Ground.guard }], guard := some (9, true) }) (v := .pointer (some ⟨gf, i, none⟩)) rfl (by kernel_rfl) (by kernel_rfl) (by kernel_rfl) (fun _ _ _ h => h) (Or.inl ⟨by rfl, ?_⟩) (SK.out _ tV) ?_
                        · rintro w ⟨s0, s1, s2⟩
                          go_simp
                        simp only [Act.put, List.setIfInBounds_toArray, List.set_cons_zero, List.set_cons_succ]
                        refine wpAnyH_take (i := 20) (oi := { dst := some 214, op := Op.load 31 (Operand.tmp 213), type := 31, pos := "law.go:143", after := #[{ on := 19, ground := Ground.data }, { on := 9, ground := Ground.guard }], guard := some (9, true) }) (v := .slice (some ⟨gp, op, none⟩) pl pc) rfl (by kernel_rfl) (by kernel_rfl) (by kernel_rfl) (fun _ _ _ h => h) (Or.inl ⟨by rfl, ?_⟩) (SK.out _ tV) ?_
                        · rintro w ⟨s0, s1, s2⟩
                          go_simp
                        simp only [Act.put, List.setIfInBounds_toArray, List.set_cons_zero, List.set_cons_succ]
                        refine wpAnyH_take (i := 21) (oi := { dst := some 215, op := Op.indexAddr 31 (Operand.tmp 214) (Operand.const (Value.int IntKind.i64 0)), type := 0, pos := "law.go:143", after := #[{ on := 20, ground := Ground.data }, { on := 9, ground := Ground.guard }], guard := some (9, true) }) (v := .pointer (some ⟨gp, op, none⟩)) rfl (by kernel_rfl) (by kernel_rfl) (by kernel_rfl) (fun _ _ _ h => h) (Or.inl ⟨by rfl, ?_⟩) (SK.out _ tV) ?_
                        · rintro w ⟨s0, s1, s2⟩
                          go_simp; try (have := E0.out; omega)
                        simp only [Act.put, List.setIfInBounds_toArray, List.set_cons_zero, List.set_cons_succ]
                        refine wpAnyH_take (i := 22) (oi := { dst := some 216, op := Op.fieldAddr 29 (Operand.tmp 215) 0, type := 0, pos := "law.go:143", after := #[{ on := 21, ground := Ground.data }, { on := 9, ground := Ground.guard }], guard := some (9, true) }) (v := .pointer (some ⟨gp, op, none⟩)) rfl (by kernel_rfl) (by kernel_rfl) (by kernel_rfl) (fun _ _ _ h => h) (Or.inl ⟨by rfl, ?_⟩) (SK.out _ tV) ?_
                        · rintro w ⟨s0, s1, s2⟩
                          go_simp
                        simp only [Act.put, List.setIfInBounds_toArray, List.set_cons_zero, List.set_cons_succ]
                        refine wpAnyH_take (i := 23) (oi := { dst := some 217, op := Op.load 26 (Operand.tmp 216), type := 26, pos := "law.go:143", after := #[{ on := 22, ground := Ground.data }, { on := 9, ground := Ground.guard }], guard := some (9, true) }) (v := .slice y.ka yl y.kc) rfl (by kernel_rfl) (by kernel_rfl) (by kernel_rfl) (fun _ _ _ h => h) (Or.inl ⟨by rfl, ?_⟩) (SK.out _ tV) ?_
                        · rintro w ⟨s0, s1, s2⟩
                          go_simp
                        simp only [Act.put, List.setIfInBounds_toArray, List.set_cons_zero, List.set_cons_succ]
                        refine wpAnyH_ready (rs := [24]) (by kernel_rfl) (by simp) ?_
                        refine AllReadyH.cons rfl (fun K hK => ?_) AllReadyH.nil
                        go_simp
                        refine (BC.out _ tV).mono ?_
                        rintro oo Vn ⟨rfl, mm, hmm⟩
                        have tN := (by rw [hmm]; exact (Turns.refl _ _).drewN mm : Turns (fun _ => False) _ Vn)
                        have tV := tV.trans tN
                        clear hmm
                        clear tN
                        go_simp
                        refine hK.out _ _ (SK.out _ tV) (fun _ => ?_)
                        clear hK K
                        refine wpAnyH_take (i := 25) (oi := { dst := some 219, op := Op.pick (Operand.tmp 203) (Operand.tmp 218) (Operand.const (Value.bool false)), type := 4, pos := "law.go:143", after := #[{ on := 9, ground := Ground.data }, { on := 24, ground := Ground.data }, { on := 6, ground := Ground.guard }], guard := some (6, false) }) (v := .bool false) rfl (by kernel_rfl) (by kernel_rfl) (by kernel_rfl) (fun _ _ _ h => h) (Or.inl ⟨by rfl, ?_⟩) (SK.out _ tV) ?_
                        · rintro w ⟨s0, s1, s2⟩
                          go_simp
                        simp only [Act.put, List.setIfInBounds_toArray, List.set_cons_zero, List.set_cons_succ]
                        refine wpAnyH_take (i := 26) (oi := { dst := some 220, op := Op.pick (Operand.tmp 200) (Operand.const (Value.bool true)) (Operand.tmp 219), type := 4, pos := "law.go:143", after := #[{ on := 6, ground := Ground.data }, { on := 25, ground := Ground.data }], guard := none }) (v := .bool false) rfl (by kernel_rfl) (by kernel_rfl) (by kernel_rfl) (fun _ _ _ h => h) (Or.inl ⟨by rfl, ?_⟩) (SK.out _ tV) ?_
                        · rintro w ⟨s0, s1, s2⟩
                          go_simp
                        simp only [Act.put, List.setIfInBounds_toArray, List.set_cons_zero, List.set_cons_succ]
                        refine wpAnyH_take (i := 27) (oi := { dst := some 221, op := Op.move (Operand.tmp 220), type := 4, pos := "law.go:143", after := #[{ on := 26, ground := Ground.data }, { on := 24, ground := Ground.chain }], guard := none }) (v := .bool false) rfl (by kernel_rfl) (by kernel_rfl) (by kernel_rfl) (fun _ _ _ h => h) (Or.inl ⟨by rfl, ?_⟩) (SK.out _ tV) ?_
                        · rintro w ⟨s0, s1, s2⟩
                          go_simp
                        simp only [Act.put, List.setIfInBounds_toArray, List.set_cons_zero, List.set_cons_succ]
                        refine wpAnyH_take (i := 28) (oi := { dst := some 222, op := Op.move (Operand.tmp 27), type := 3, pos := "law.go:143", after := #[{ on := 27, ground := Ground.guard }], guard := some (27, false) }) (v := .int .i64 (i : Nat)) rfl (by kernel_rfl) (by kernel_rfl) (by kernel_rfl) (fun _ _ _ h => h) (Or.inl ⟨by rfl, ?_⟩) (SK.out _ tV) ?_
                        · rintro w ⟨s0, s1, s2⟩
                          go_simp
                        simp only [Act.put, List.setIfInBounds_toArray, List.set_cons_zero, List.set_cons_succ]
                        refine wpAnyH_take (i := 29) (oi := { dst := some 223, op := Op.move (Operand.tmp 18), type := 22, pos := "law.go:143", after := #[{ on := 27, ground := Ground.guard }], guard := some (27, false) }) (v := .slice (some ⟨gf, 0, none⟩) ps.length cf) rfl (by kernel_rfl) (by kernel_rfl) (by kernel_rfl) (fun _ _ _ h => h) (Or.inl ⟨by rfl, ?_⟩) (SK.out _ tV) ?_
                        · rintro w ⟨s0, s1, s2⟩
                          go_simp
                        simp only [Act.put, List.setIfInBounds_toArray, List.set_cons_zero, List.set_cons_succ]
                        refine wpAnyH_take (i := 30) (oi := { dst := some 224, op := Op.call { callee := Callee.builtin Builtin.len, args := #[Operand.tmp 223], argTypes := #[22] }, type := 3, pos := "law.go:143", after := #[{ on := 29, ground := Ground.data }, { on := 27, ground := Ground.guard }], guard := some (27, false) }) (v := .int .i64 (ps.length : Nat)) rfl (by kernel_rfl) (by kernel_rfl) (by kernel_rfl) (fun _ _ _ h => h) (Or.inl ⟨by rfl, ?_⟩) (SK.out _ tV) ?_
                        · rintro w ⟨s0, s1, s2⟩
                          go_simp
                        simp only [Act.put, List.setIfInBounds_toArray, List.set_cons_zero, List.set_cons_succ]
                        refine wpAnyH_take (i := 31) (oi := { dst := some 225, op := Op.binOp BinOp.sub 3 (Operand.tmp 224) (Operand.const (Value.int IntKind.i64 1)) 3, type := 3, pos := "law.go:143", after := #[{ on := 30, ground := Ground.data }, { on := 27, ground := Ground.guard }], guard := some (27, false) }) (v := .int .i64 ((ps.length : Int) - 1)) rfl (by kernel_rfl) (by kernel_rfl) (by kernel_rfl) (fun _ _ _ h => h) (Or.inl ⟨by rfl, ?_⟩) (SK.out _ tV) ?_
                        · rintro w ⟨s0, s1, s2⟩
                          go_simp; exact wrapI _ (by omega) (by omega)
                        simp only [Act.put, List.setIfInBounds_toArray, List.set_cons_zero, List.set_cons_succ]
                        refine wpAnyH_take (i := 32) (oi := { dst := some 226, op := Op.binOp BinOp.lss 3 (Operand.tmp 222) (Operand.tmp 225) 3, type := 4, pos := "law.go:143", after := #[{ on := 28, ground := Ground.data }, { on := 31, ground := Ground.data }, { on := 27, ground := Ground.guard }], guard := some (27, false) }) (v := .bool true) rfl (by kernel_rfl) (by kernel_rfl) (by kernel_rfl) (fun _ _ _ h => h) (Or.inl ⟨by rfl, ?_⟩) (SK.out _ tV) ?_
                        · rintro w ⟨s0, s1, s2⟩
                          go_simp; try (have := E2.out; omega)
                        simp only [Act.put, List.setIfInBounds_toArray, List.set_cons_zero, List.set_cons_succ]
                        refine wpAnyH_take (i := 33) (oi := { dst := some 227, op := Op.move (Operand.tmp 226), type := 4, pos := "law.go:143", after := #[{ on := 32, ground := Ground.data }, { on := 27, ground := Ground.chain }, { on := 27, ground := Ground.guard }], guard := some (27, false) }) (v := .bool true) rfl (by kernel_rfl) (by kernel_rfl) (by kernel_rfl) (fun _ _ _ h => h) (Or.inl ⟨by rfl, ?_⟩) (SK.out _ tV) ?_
                        · rintro w ⟨s0, s1, s2⟩
                          go_simp
                        simp only [Act.put, List.setIfInBounds_toArray, List.set_cons_zero, List.set_cons_succ]
                        refine wpAnyH_take (i := 34) (oi := { dst := some 228, op := Op.move (Operand.tmp 18), type := 22, pos := "law.go:143", after := #[{ on := 33, ground := Ground.guard }], guard := some (33, true) }) (v := .slice (some ⟨gf, 0, none⟩) ps.length cf) rfl (by kernel_rfl) (by kernel_rfl) (by kernel_rfl) (fun _ _ _ h => h) (Or.inl ⟨by rfl, ?_⟩) (SK.out _ tV) ?_
                        · rintro w ⟨s0, s1, s2⟩
                          go_simp
                        simp only [Act.put, List.setIfInBounds_toArray, List.set_cons_zero, List.set_cons_succ]
                        refine wpAnyH_take (i := 35) (oi := { dst := some 229, op := Op.move (Operand.tmp 27), type := 3, pos := "law.go:143", after := #[{ on := 33, ground := Ground.guard }], guard := some (33, true) }) (v := .int .i64 (i : Nat)) rfl (by kernel_rfl) (by kernel_rfl) (by kernel_rfl) (fun _ _ _ h => h) (Or.inl ⟨by rfl, ?_⟩) (SK.out _ tV) ?_
                        · rintro w ⟨s0, s1, s2⟩
                          go_simp
                        simp only [Act.put, List.setIfInBounds_toArray, List.set_cons_zero, List.set_cons_succ]
                        refine wpAnyH_take (i := 36) (oi := { dst := some 230, op := Op.indexAddr 22 (Operand.tmp 228) (Operand.tmp 229), type := 0, pos := "law.go:143", after := #[{ on := 34, ground := Ground.data }, { on := 35, ground := Ground.data }, { on := 33, ground := Ground.guard }], guard := some (33, true) }) (v := .pointer (some ⟨gf, i, none⟩)) rfl (by kernel_rfl) (by kernel_rfl) (by kernel_rfl) (fun _ _ _ h => h) (Or.inl ⟨by rfl, ?_⟩) (SK.out _ tV) ?_
                        · rintro w ⟨s0, s1, s2⟩
                          go_simp
                        simp only [Act.put, List.setIfInBounds_toArray, List.set_cons_zero, List.set_cons_succ]
                        refine wpAnyH_take (i := 37) (oi := { dst := some 231, op := Op.load 31 (Operand.tmp 230), type := 31, pos := "law.go:143", after := #[{ on := 36, ground := Ground.data }, { on := 33, ground := Ground.guard }], guard := some (33, true) }) (v := .slice (some ⟨gp, op, none⟩) pl pc) rfl (by kernel_rfl) (by kernel_rfl) (by kernel_rfl) (fun _ _ _ h => h) (Or.inl ⟨by rfl, ?_⟩) (SK.out _ tV) ?_
                        · rintro w ⟨s0, s1, s2⟩
                          go_simp
                        simp only [Act.put, List.setIfInBounds_toArray, List.set_cons_zero, List.set_cons_succ]
                        refine wpAnyH_take (i := 39) (oi := { dst := some 233, op := Op.move (Operand.tmp 3), type := 3, pos := "law.go:143", after := #[{ on := 33, ground := Ground.guard }], guard := some (33, true) }) (v := .int .i64 t) rfl (by kernel_rfl) (by kernel_rfl) (by kernel_rfl) (fun _ _ _ h => h) (Or.inl ⟨by rfl, ?_⟩) (SK.out _ tV) ?_
                        · rintro w ⟨s0, s1, s2⟩
                          go_simp
                        simp only [Act.put, List.setIfInBounds_toArray, List.set_cons_zero, List.set_cons_succ]
                        refine wpAnyH_ready (rs := [38]) (by kernel_rfl) (by simp) ?_
                        refine AllReadyH.cons rfl (fun K hK => ?_) AllReadyH.nil
                        go_simp
                        refine (RS.out _ tV).mono ?_
                        rintro oo Vn ⟨rfl, tC⟩
                        have tN := tC
                        have tV := tV.trans tN
                        clear tC
                        clear tN
                        go_simp
                        refine hK.out _ _ (SK.out _ tV) (fun _ => ?_)
                        clear hK K
                        refine wpAnyH_take (i := 40) (oi := { dst := some 234, op := Op.binOp BinOp.lss 3 (Operand.tmp 232) (Operand.tmp 233) 3, type := 4, pos := "law.go:143", after := #[{ on := 38, ground := Ground.data }, { on := 39, ground := Ground.data }, { on := 33, ground := Ground.guard }], guard := some (33, true) }) (v := .bool false) rfl (by kernel_rfl) (by kernel_rfl) (by kernel_rfl) (fun _ _ _ h => h) (Or.inl ⟨by rfl, ?_⟩) (SK.out _ tV) ?_
                        · rintro w ⟨s0, s1, s2⟩
                          go_simp; try (have := E3.out; omega)
                        simp only [Act.put, List.setIfInBounds_toArray, List.set_cons_zero, List.set_cons_succ]
                        refine wpAnyH_take (i := 41) (oi := { dst := some 235, op := Op.pick (Operand.tmp 227) (Operand.tmp 234) (Operand.const (Value.bool false)), type := 4, pos := "law.go:143", after := #[{ on := 33, ground := Ground.data }, { on := 40, ground := Ground.data }, { on := 27, ground := Ground.guard }], guard := some (27, false) }) (v := .bool false) rfl (by kernel_rfl) (by kernel_rfl) (by kernel_rfl) (fun _ _ _ h => h) (Or.inl ⟨by rfl, ?_⟩) (SK.out _ tV) ?_
                        · rintro w ⟨s0, s1, s2⟩
                          go_simp
                        simp only [Act.put, List.setIfInBounds_toArray, List.set_cons_zero, List.set_cons_succ]
                        refine wpAnyH_take (i := 42) (oi := { dst := some 236, op := Op.pick (Operand.tmp 221) (Operand.const (Value.bool true)) (Operand.tmp 235), type := 4, pos := "law.go:143", after := #[{ on := 27, ground := Ground.data }, { on := 41, ground := Ground.data }], guard := none }) (v := .bool false) rfl (by kernel_rfl) (by kernel_rfl) (by kernel_rfl) (fun _ _ _ h => h) (Or.inl ⟨by rfl, ?_⟩) (SK.out _ tV) ?_
                        · rintro w ⟨s0, s1, s2⟩
                          go_simp
                        simp only [Act.put, List.setIfInBounds_toArray, List.set_cons_zero, List.set_cons_succ]
                        refine wpAnyH_done (by kernel_rfl) ?_ _
                        have TU := hide tV
                        clear tV
                        go_wp2_with fail
                        go_meet
                        exact ⟨rfl, rfl, TU.out⟩
                      · have E1 := hide (show ¬ (0 : Int) < (i : Int) by omega)
                        clear h0
                        have SK := hide (fun (u : World) (tt : Turns (fun _ => False) wr u) => show u.cell? ⟨gf, i, none⟩ = some (.slice (some ⟨gp, op, none⟩) pl pc) from tt.cell yf (fun x => x))
                        refine wp_region_held_drew (S := fun u => u.cell? ⟨gf, i, none⟩ = some (.slice (some ⟨gp, op, none⟩) pl pc)) (by kernel_rfl) (SK.out _ tV) (fun _ => ?_)
                        change wpAnyH _ _ _ _ _ 43 (Array.replicate 43 false) _ _
                        refine wpAnyH_take (i := 0) (oi := { dst := some 194, op := Op.move (Operand.tmp 18), type := 22, pos := "law.go:143", after := #[], guard := none }) (v := .slice (some ⟨gf, 0, none⟩) ps.length cf) rfl (by kernel_rfl) (by kernel_rfl) (by kernel_rfl) (fun _ _ _ h => h) (Or.inl ⟨by rfl, ?_⟩) (SK.out _ tV) ?_
                        · rintro w s0
                          go_simp
                        simp only [Act.put, List.setIfInBounds_toArray, List.set_cons_zero, List.set_cons_succ]
                        refine wpAnyH_take (i := 1) (oi := { dst := some 195, op := Op.move (Operand.tmp 27), type := 3, pos := "law.go:143", after := #[], guard := none }) (v := .int .i64 (i : Nat)) rfl (by kernel_rfl) (by kernel_rfl) (by kernel_rfl) (fun _ _ _ h => h) (Or.inl ⟨by rfl, ?_⟩) (SK.out _ tV) ?_
                        · rintro w s0
                          go_simp
                        simp only [Act.put, List.setIfInBounds_toArray, List.set_cons_zero, List.set_cons_succ]
                        refine wpAnyH_take (i := 2) (oi := { dst := some 196, op := Op.indexAddr 22 (Operand.tmp 194) (Operand.tmp 195), type := 0, pos := "law.go:143", after := #[{ on := 0, ground := Ground.data }, { on := 1, ground := Ground.data }], guard := none }) (v := .pointer (some ⟨gf, i, none⟩)) rfl (by kernel_rfl) (by kernel_rfl) (by kernel_rfl) (fun _ _ _ h => h) (Or.inl ⟨by rfl, ?_⟩) (SK.out _ tV) ?_
                        · rintro w s0
                          go_simp
                        simp only [Act.put, List.setIfInBounds_toArray, List.set_cons_zero, List.set_cons_succ]
                        refine wpAnyH_take (i := 3) (oi := { dst := some 197, op := Op.load 31 (Operand.tmp 196), type := 31, pos := "law.go:143", after := #[{ on := 2, ground := Ground.data }], guard := none }) (v := .slice (some ⟨gp, op, none⟩) pl pc) rfl (by kernel_rfl) (by kernel_rfl) (by kernel_rfl) (fun _ _ _ h => h) (Or.inl ⟨by rfl, ?_⟩) (SK.out _ tV) ?_
                        · rintro w s0
                          go_simp
                        simp only [Act.put, List.setIfInBounds_toArray, List.set_cons_zero, List.set_cons_succ]
                        refine wpAnyH_take (i := 4) (oi := { dst := some 198, op := Op.call { callee := Callee.builtin Builtin.len, args := #[Operand.tmp 197], argTypes := #[31] }, type := 3, pos := "law.go:143", after := #[{ on := 3, ground := Ground.data }], guard := none }) (v := .int .i64 (pl : Nat)) rfl (by kernel_rfl) (by kernel_rfl) (by kernel_rfl) (fun _ _ _ h => h) (Or.inl ⟨by rfl, ?_⟩) (SK.out _ tV) ?_
                        · rintro w s0
                          go_simp
                        simp only [Act.put, List.setIfInBounds_toArray, List.set_cons_zero, List.set_cons_succ]
                        refine wpAnyH_take (i := 5) (oi := { dst := some 199, op := Op.binOp BinOp.eql 3 (Operand.tmp 198) (Operand.const (Value.int IntKind.i64 0)) 3, type := 4, pos := "law.go:143", after := #[{ on := 4, ground := Ground.data }], guard := none }) (v := .bool false) rfl (by kernel_rfl) (by kernel_rfl) (by kernel_rfl) (fun _ _ _ h => h) (Or.inl ⟨by rfl, ?_⟩) (SK.out _ tV) ?_
                        · rintro w s0
                          go_simp; try (have := E0.out; omega)
                        simp only [Act.put, List.setIfInBounds_toArray, List.set_cons_zero, List.set_cons_succ]
                        refine wpAnyH_take (i := 6) (oi := { dst := some 200, op := Op.move (Operand.tmp 199), type := 4, pos := "law.go:143", after := #[{ on := 5, ground := Ground.data }], guard := none }) (v := .bool false) rfl (by kernel_rfl) (by kernel_rfl) (by kernel_rfl) (fun _ _ _ h => h) (Or.inl ⟨by rfl, ?_⟩) (SK.out _ tV) ?_
                        · rintro w s0
                          go_simp
                        simp only [Act.put, List.setIfInBounds_toArray, List.set_cons_zero, List.set_cons_succ]
                        refine wpAnyH_take (i := 7) (oi := { dst := some 201, op := Op.move (Operand.tmp 27), type := 3, pos := "law.go:143", after := #[{ on := 6, ground := Ground.guard }], guard := some (6, false) }) (v := .int .i64 (i : Nat)) rfl (by kernel_rfl) (by kernel_rfl) (by kernel_rfl) (fun _ _ _ h => h) (Or.inl ⟨by rfl, ?_⟩) (SK.out _ tV) ?_
                        · rintro w s0
                          go_simp
                        simp only [Act.put, List.setIfInBounds_toArray, List.set_cons_zero, List.set_cons_succ]
                        refine wpAnyH_take (i := 8) (oi := { dst := some 202, op := Op.binOp BinOp.gtr 3 (Operand.tmp 201) (Operand.const (Value.int IntKind.i64 0)) 3, type := 4, pos := "law.go:143", after := #[{ on := 7, ground := Ground.data }, { on := 6, ground := Ground.guard }], guard := some (6, false) }) (v := .bool false) rfl (by kernel_rfl) (by kernel_rfl) (by kernel_rfl) (fun _ _ _ h => h) (Or.inl ⟨by rfl, ?_⟩) (SK.out _ tV) ?_
                        · rintro w s0
                          go_simp; try (have := E1.out; omega)
                        simp only [Act.put, List.setIfInBounds_toArray, List.set_cons_zero, List.set_cons_succ]
                        refine wpAnyH_take (i := 9) (oi := { dst := some 203, op := Op.move (Operand.tmp 202), type := 4, pos := "law.go:143", after := #[{ on := 8, ground := Ground.data }, { on := 6, ground := Ground.chain }, { on := 6, ground := Ground.guard }], guard := some (6, false) }) (v := .bool false) rfl (by kernel_rfl) (by kernel_rfl) (by kernel_rfl) (fun _ _ _ h => h) (Or.inl ⟨by rfl, ?_⟩) (SK.out _ tV) ?_
                        · rintro w s0
                          go_simp
                        simp only [Act.put, List.setIfInBounds_toArray, List.set_cons_zero, List.set_cons_succ]
                        refine wpAnyH_take (i := 10) (oi := { dst := some 204, op := Op.move (Operand.tmp 26), type := 31, pos := "law.go:143", after := #[{ on := 9, ground := Ground.guard }], guard := some (9, true) }) (v := undef) rfl (by kernel_rfl) (by kernel_rfl) (by kernel_rfl) (fun _ _ _ h => h) (Or.inr ⟨by rfl, rfl⟩) (SK.out _ tV) ?_
                        simp only [Act.put, List.setIfInBounds_toArray, List.set_cons_zero, List.set_cons_succ]
                        refine wpAnyH_take (i := 11) (oi := { dst := some 205, op := Op.move (Operand.tmp 26), type := 31, pos := "law.go:143", after := #[{ on := 9, ground := Ground.guard }], guard := some (9, true) }) (v := undef) rfl (by kernel_rfl) (by kernel_rfl) (by kernel_rfl) (fun _ _ _ h => h) (Or.inr ⟨by rfl, rfl⟩) (SK.out _ tV) ?_
                        simp only [Act.put, List.setIfInBounds_toArray, List.set_cons_zero, List.set_cons_succ]
                        refine wpAnyH_take (i := 12) (oi := { dst := some 206, op := Op.call { callee := Callee.builtin Builtin.len, args := #[Operand.tmp 205], argTypes := #[31] }, type := 3, pos := "law.go:143", after := #[{ on := 11, ground := Ground.data }, { on := 9, ground := Ground.guard }], guard := some (9, true) }) (v := undef) rfl (by kernel_rfl) (by kernel_rfl) (by kernel_rfl) (fun _ _ _ h => h) (Or.inr ⟨by rfl, rfl⟩) (SK.out _ tV) ?_
                        simp only [Act.put, List.setIfInBounds_toArray, List.set_cons_zero, List.set_cons_succ]
                        refine wpAnyH_take (i := 13) (oi := { dst := some 207, op := Op.binOp BinOp.sub 3 (Operand.tmp 206) (Operand.const (Value.int IntKind.i64 1)) 3, type := 3, pos := "law.go:143", after := #[{ on := 12, ground := Ground.data }, { on := 9, ground := Ground.guard }], guard := some (9, true) }) (v := undef) rfl (by kernel_rfl) (by kernel_rfl) (by kernel_rfl) (fun _ _ _ h => h) (Or.inr ⟨by rfl, rfl⟩) (SK.out _ tV) ?_
                        simp only [Act.put, List.setIfInBounds_toArray, List.set_cons_zero, List.set_cons_succ]
                        refine wpAnyH_take (i := 14) (oi := { dst := some 208, op := Op.indexAddr 31 (Operand.tmp 204) (Operand.tmp 207), type := 0, pos := "law.go:143", after := #[{ on := 10, ground := Ground.data }, { on := 13, ground := Ground.data }, { on := 9, ground := Ground.guard }], guard := some (9, true) }) (v := undef) rfl (by kernel_rfl) (by kernel_rfl) (by kernel_rfl) (fun _ _ _ h => h) (Or.inr ⟨by rfl, rfl⟩) (SK.out _ tV) ?_
                        simp only [Act.put, List.setIfInBounds_toArray, List.set_cons_zero, List.set_cons_succ]
                        refine wpAnyH_take (i := 15) (oi := { dst := some 209, op := Op.fieldAddr 29 (Operand.tmp 208) 0, type := 0, pos := "law.go:143", after := #[{ on := 14, ground := Ground.data }, { on := 9, ground := Ground.guard }], guard := some (9, true) }) (v := undef) rfl (by kernel_rfl) (by kernel_rfl) (by kernel_rfl) (fun _ _ _ h => h) (Or.inr ⟨by rfl, rfl⟩) (SK.out _ tV) ?_
                        simp only [Act.put, List.setIfInBounds_toArray, List.set_cons_zero, List.set_cons_succ]
                        refine wpAnyH_take (i := 16) (oi := { dst := some 210, op := Op.load 26 (Operand.tmp 209), type := 26, pos := "law.go:143", after := #[{ on := 15, ground := Ground.data }, { on := 9, ground := Ground.guard }], guard := some (9, true) }) (v := undef) rfl (by kernel_rfl) (by kernel_rfl) (by kernel_rfl) (fun _ _ _ h => h) (Or.inr ⟨by rfl, rfl⟩) (SK.out _ tV) ?_
                        simp only [Act.put, List.setIfInBounds_toArray, List.set_cons_zero, List.set_cons_succ]
                        refine wpAnyH_take (i := 17) (oi := { dst := some 211, op := Op.move (Operand.tmp 18), type := 22, pos := "law.go:143", after := #[{ on := 9, ground := Ground.guard }], guard := some (9, true) }) (v := undef) rfl (by kernel_rfl) (by kernel_rfl) (by kernel_rfl) (fun _ _ _ h => h) (Or.inr ⟨by rfl, rfl⟩) (SK.out _ tV) ?_
                        simp only [Act.put, List.setIfInBounds_toArray, List.set_cons_zero, List.set_cons_succ]
                        refine wpAnyH_take (i := 18) (oi := { dst := some 212, op := Op.move (Operand.tmp 27), type := 3, pos := "law.go:143", after := #[{ on := 9, ground := Ground.guard }], guard := some (9, true) }) (v := undef) rfl (by kernel_rfl) (by kernel_rfl) (by kernel_rfl) (fun _ _ _ h => h) (Or.inr ⟨by rfl, rfl⟩) (SK.out _ tV) ?_
                        simp only [Act.put, List.setIfInBounds_toArray, List.set_cons_zero, List.set_cons_succ]
                        refine wpAnyH_take (i := 19) (oi := { dst := some 213, op := Op.indexAddr 22 (Operand.tmp 211) (Operand.tmp 212), type := 0, pos := "law.go:143", after := #[{ on := 17, ground := Ground.data }, { on := 18, ground := Ground.data }, { on := 9, ground := Ground.guard }], guard := some (9, true) }) (v := undef) rfl (by kernel_rfl) (by kernel_rfl) (by kernel_rfl) (fun _ _ _ h => h) (Or.inr ⟨by rfl, rfl⟩) (SK.out _ tV) ?_
                        simp only [Act.put, List.setIfInBounds_toArray, List.set_cons_zero, List.set_cons_succ]
                        refine wpAnyH_take (i := 20) (oi := { dst := some 214, op := Op.load 31 (Operand.tmp 213), type := 31, pos := "law.go:143", after := #[{ on := 19, ground := Ground.data }, { on := 9, ground := Ground.guard }], guard := some (9, true) }) (v := undef) rfl (by kernel_rfl) (by kernel_rfl) (by kernel_rfl) (fun _ _ _ h => h) (Or.inr ⟨by rfl, rfl⟩) (SK.out _ tV) ?_
                        simp only [Act.put, List.setIfInBounds_toArray, List.set_cons_zero, List.set_cons_succ]
                        refine wpAnyH_take (i := 21) (oi := { dst := some 215, op := Op.indexAddr 31 (Operand.tmp 214) (Operand.const (Value.int IntKind.i64 0)), type := 0, pos := "law.go:143", after := #[{ on := 20, ground := Ground.data }, { on := 9, ground := Ground.guard }], guard := some (9, true) }) (v := undef) rfl (by kernel_rfl) (by kernel_rfl) (by kernel_rfl) (fun _ _ _ h => h) (Or.inr ⟨by rfl, rfl⟩) (SK.out _ tV) ?_
                        simp only [Act.put, List.setIfInBounds_toArray, List.set_cons_zero, List.set_cons_succ]
                        refine wpAnyH_take (i := 22) (oi := { dst := some 216, op := Op.fieldAddr 29 (Operand.tmp 215) 0, type := 0, pos := "law.go:143", after := #[{ on := 21, ground := Ground.data }, { on := 9, ground := Ground.guard }], guard := some (9, true) }) (v := undef) rfl (by kernel_rfl) (by kernel_rfl) (by kernel_rfl) (fun _ _ _ h => h) (Or.inr ⟨by rfl, rfl⟩) (SK.out _ tV) ?_
                        simp only [Act.put, List.setIfInBounds_toArray, List.set_cons_zero, List.set_cons_succ]
                        refine wpAnyH_take (i := 23) (oi := { dst := some 217, op := Op.load 26 (Operand.tmp 216), type := 26, pos := "law.go:143", after := #[{ on := 22, ground := Ground.data }, { on := 9, ground := Ground.guard }], guard := some (9, true) }) (v := undef) rfl (by kernel_rfl) (by kernel_rfl) (by kernel_rfl) (fun _ _ _ h => h) (Or.inr ⟨by rfl, rfl⟩) (SK.out _ tV) ?_
                        simp only [Act.put, List.setIfInBounds_toArray, List.set_cons_zero, List.set_cons_succ]
                        refine wpAnyH_take (i := 24) (oi := { dst := some 218, op := Op.call { callee := Callee.value (Operand.func 25), args := #[Operand.tmp 210, Operand.tmp 217], argTypes := #[26, 26] }, type := 4, pos := "law.go:143", after := #[{ on := 16, ground := Ground.data }, { on := 23, ground := Ground.data }, { on := 9, ground := Ground.chain }, { on := 9, ground := Ground.guard }], guard := some (9, true) }) (v := undef) rfl (by kernel_rfl) (by kernel_rfl) (by kernel_rfl) (fun _ _ _ h => h) (Or.inr ⟨by rfl, rfl⟩) (SK.out _ tV) ?_
                        simp only [Act.put, List.setIfInBounds_toArray, List.set_cons_zero, List.set_cons_succ]
                        refine wpAnyH_take (i := 25) (oi := { dst := some 219, op := Op.pick (Operand.tmp 203) (Operand.tmp 218) (Operand.const (Value.bool false)), type := 4, pos := "law.go:143", after := #[{ on := 9, ground := Ground.data }, { on := 24, ground := Ground.data }, { on := 6, ground := Ground.guard }], guard := some (6, false) }) (v := .bool false) rfl (by kernel_rfl) (by kernel_rfl) (by kernel_rfl) (fun _ _ _ h => h) (Or.inl ⟨by rfl, ?_⟩) (SK.out _ tV) ?_
                        · rintro w s0
                          go_simp
                        simp only [Act.put, List.setIfInBounds_toArray, List.set_cons_zero, List.set_cons_succ]
                        refine wpAnyH_take (i := 26) (oi := { dst := some 220, op := Op.pick (Operand.tmp 200) (Operand.const (Value.bool true)) (Operand.tmp 219), type := 4, pos := "law.go:143", after := #[{ on := 6, ground := Ground.data }, { on := 25, ground := Ground.data }], guard := none }) (v := .bool false) rfl (by kernel_rfl) (by kernel_rfl) (by kernel_rfl) (fun _ _ _ h => h) (Or.inl ⟨by rfl, ?_⟩) (SK.out _ tV) ?_
                        · rintro w s0
                          go_simp
                        simp only [Act.put, List.setIfInBounds_toArray, List.set_cons_zero, List.set_cons_succ]
                        refine wpAnyH_take (i := 27) (oi := { dst := some 221, op := Op.move (Operand.tmp 220), type := 4, pos := "law.go:143", after := #[{ on := 26, ground := Ground.data }, { on := 24, ground := Ground.chain }], guard := none }) (v := .bool false) rfl (by kernel_rfl) (by kernel_rfl) (by kernel_rfl) (fun _ _ _ h => h) (Or.inl ⟨by rfl, ?_⟩) (SK.out _ tV) ?_
                        · rintro w s0
                          go_simp
                        simp only [Act.put, List.setIfInBounds_toArray, List.set_cons_zero, List.set_cons_succ]
                        refine wpAnyH_take (i := 28) (oi := { dst := some 222, op := Op.move (Operand.tmp 27), type := 3, pos := "law.go:143", after := #[{ on := 27, ground := Ground.guard }], guard := some (27, false) }) (v := .int .i64 (i : Nat)) rfl (by kernel_rfl) (by kernel_rfl) (by kernel_rfl) (fun _ _ _ h => h) (Or.inl ⟨by rfl, ?_⟩) (SK.out _ tV) ?_
                        · rintro w s0
                          go_simp
                        simp only [Act.put, List.setIfInBounds_toArray, List.set_cons_zero, List.set_cons_succ]
                        refine wpAnyH_take (i := 29) (oi := { dst := some 223, op := Op.move (Operand.tmp 18), type := 22, pos := "law.go:143", after := #[{ on := 27, ground := Ground.guard }], guard := some (27, false) }) (v := .slice (some ⟨gf, 0, none⟩) ps.length cf) rfl (by kernel_rfl) (by kernel_rfl) (by kernel_rfl) (fun _ _ _ h => h) (Or.inl ⟨by rfl, ?_⟩) (SK.out _ tV) ?_
                        · rintro w s0
                          go_simp
                        simp only [Act.put, List.setIfInBounds_toArray, List.set_cons_zero, List.set_cons_succ]
                        refine wpAnyH_take (i := 30) (oi := { dst := some 224, op := Op.call { callee := Callee.builtin Builtin.len, args := #[Operand.tmp 223], argTypes := #[22] }, type := 3, pos := "law.go:143", after := #[{ on := 29, ground := Ground.data }, { on := 27, ground := Ground.guard }], guard := some (27, false) }) (v := .int .i64 (ps.length : Nat)) rfl (by kernel_rfl) (by kernel_rfl) (by kernel_rfl) (fun _ _ _ h => h) (Or.inl ⟨by rfl, ?_⟩) (SK.out _ tV) ?_
                        · rintro w s0
                          go_simp
                        simp only [Act.put, List.setIfInBounds_toArray, List.set_cons_zero, List.set_cons_succ]
                        refine wpAnyH_take (i := 31) (oi := { dst := some 225, op := Op.binOp BinOp.sub 3 (Operand.tmp 224) (Operand.const (Value.int IntKind.i64 1)) 3, type := 3, pos := "law.go:143", after := #[{ on := 30, ground := Ground.data }, { on := 27, ground := Ground.guard }], guard := some (27, false) }) (v := .int .i64 ((ps.length : Int) - 1)) rfl (by kernel_rfl) (by kernel_rfl) (by kernel_rfl) (fun _ _ _ h => h) (Or.inl ⟨by rfl, ?_⟩) (SK.out _ tV) ?_
                        · rintro w s0
                          go_simp; exact wrapI _ (by omega) (by omega)
                        simp only [Act.put, List.setIfInBounds_toArray, List.set_cons_zero, List.set_cons_succ]
                        refine wpAnyH_take (i := 32) (oi := { dst := some 226, op := Op.binOp BinOp.lss 3 (Operand.tmp 222) (Operand.tmp 225) 3, type := 4, pos := "law.go:143", after := #[{ on := 28, ground := Ground.data }, { on := 31, ground := Ground.data }, { on := 27, ground := Ground.guard }], guard := some (27, false) }) (v := .bool true) rfl (by kernel_rfl) (by kernel_rfl) (by kernel_rfl) (fun _ _ _ h => h) (Or.inl ⟨by rfl, ?_⟩) (SK.out _ tV) ?_
                        · rintro w s0
                          go_simp; try (have := E2.out; omega)
                        simp only [Act.put, List.setIfInBounds_toArray, List.set_cons_zero, List.set_cons_succ]
                        refine wpAnyH_take (i := 33) (oi := { dst := some 227, op := Op.move (Operand.tmp 226), type := 4, pos := "law.go:143", after := #[{ on := 32, ground := Ground.data }, { on := 27, ground := Ground.chain }, { on := 27, ground := Ground.guard }], guard := some (27, false) }) (v := .bool true) rfl (by kernel_rfl) (by kernel_rfl) (by kernel_rfl) (fun _ _ _ h => h) (Or.inl ⟨by rfl, ?_⟩) (SK.out _ tV) ?_
                        · rintro w s0
                          go_simp
                        simp only [Act.put, List.setIfInBounds_toArray, List.set_cons_zero, List.set_cons_succ]
                        refine wpAnyH_take (i := 34) (oi := { dst := some 228, op := Op.move (Operand.tmp 18), type := 22, pos := "law.go:143", after := #[{ on := 33, ground := Ground.guard }], guard := some (33, true) }) (v := .slice (some ⟨gf, 0, none⟩) ps.length cf) rfl (by kernel_rfl) (by kernel_rfl) (by kernel_rfl) (fun _ _ _ h => h) (Or.inl ⟨by rfl, ?_⟩) (SK.out _ tV) ?_
                        · rintro w s0
                          go_simp
                        simp only [Act.put, List.setIfInBounds_toArray, List.set_cons_zero, List.set_cons_succ]
                        refine wpAnyH_take (i := 35) (oi := { dst := some 229, op := Op.move (Operand.tmp 27), type := 3, pos := "law.go:143", after := #[{ on := 33, ground := Ground.guard }], guard := some (33, true) }) (v := .int .i64 (i : Nat)) rfl (by kernel_rfl) (by kernel_rfl) (by kernel_rfl) (fun _ _ _ h => h) (Or.inl ⟨by rfl, ?_⟩) (SK.out _ tV) ?_
                        · rintro w s0
                          go_simp
                        simp only [Act.put, List.setIfInBounds_toArray, List.set_cons_zero, List.set_cons_succ]
                        refine wpAnyH_take (i := 36) (oi := { dst := some 230, op := Op.indexAddr 22 (Operand.tmp 228) (Operand.tmp 229), type := 0, pos := "law.go:143", after := #[{ on := 34, ground := Ground.data }, { on := 35, ground := Ground.data }, { on := 33, ground := Ground.guard }], guard := some (33, true) }) (v := .pointer (some ⟨gf, i, none⟩)) rfl (by kernel_rfl) (by kernel_rfl) (by kernel_rfl) (fun _ _ _ h => h) (Or.inl ⟨by rfl, ?_⟩) (SK.out _ tV) ?_
                        · rintro w s0
                          go_simp
                        simp only [Act.put, List.setIfInBounds_toArray, List.set_cons_zero, List.set_cons_succ]
                        refine wpAnyH_take (i := 37) (oi := { dst := some 231, op := Op.load 31 (Operand.tmp 230), type := 31, pos := "law.go:143", after := #[{ on := 36, ground := Ground.data }, { on := 33, ground := Ground.guard }], guard := some (33, true) }) (v := .slice (some ⟨gp, op, none⟩) pl pc) rfl (by kernel_rfl) (by kernel_rfl) (by kernel_rfl) (fun _ _ _ h => h) (Or.inl ⟨by rfl, ?_⟩) (SK.out _ tV) ?_
                        · rintro w s0
                          go_simp
                        simp only [Act.put, List.setIfInBounds_toArray, List.set_cons_zero, List.set_cons_succ]
                        refine wpAnyH_take (i := 39) (oi := { dst := some 233, op := Op.move (Operand.tmp 3), type := 3, pos := "law.go:143", after := #[{ on := 33, ground := Ground.guard }], guard := some (33, true) }) (v := .int .i64 t) rfl (by kernel_rfl) (by kernel_rfl) (by kernel_rfl) (fun _ _ _ h => h) (Or.inl ⟨by rfl, ?_⟩) (SK.out _ tV) ?_
                        · rintro w s0
                          go_simp
                        simp only [Act.put, List.setIfInBounds_toArray, List.set_cons_zero, List.set_cons_succ]
                        refine wpAnyH_ready (rs := [38]) (by kernel_rfl) (by simp) ?_
                        refine AllReadyH.cons rfl (fun K hK => ?_) AllReadyH.nil
                        go_simp
                        refine (RS.out _ tV).mono ?_
                        rintro oo Vn ⟨rfl, tC⟩
                        have tN := tC
                        have tV := tV.trans tN
                        clear tC
                        clear tN
                        go_simp
                        refine hK.out _ _ (SK.out _ tV) (fun _ => ?_)
                        clear hK K
                        refine wpAnyH_take (i := 40) (oi := { dst := some 234, op := Op.binOp BinOp.lss 3 (Operand.tmp 232) (Operand.tmp 233) 3, type := 4, pos := "law.go:143", after := #[{ on := 38, ground := Ground.data }, { on := 39, ground := Ground.data }, { on := 33, ground := Ground.guard }], guard := some (33, true) }) (v := .bool false) rfl (by kernel_rfl) (by kernel_rfl) (by kernel_rfl) (fun _ _ _ h => h) (Or.inl ⟨by rfl, ?_⟩) (SK.out _ tV) ?_
                        · rintro w s0
                          go_simp; try (have := E3.out; omega)
                        simp only [Act.put, List.setIfInBounds_toArray, List.set_cons_zero, List.set_cons_succ]
                        refine wpAnyH_take (i := 41) (oi := { dst := some 235, op := Op.pick (Operand.tmp 227) (Operand.tmp 234) (Operand.const (Value.bool false)), type := 4, pos := "law.go:143", after := #[{ on := 33, ground := Ground.data }, { on := 40, ground := Ground.data }, { on := 27, ground := Ground.guard }], guard := some (27, false) }) (v := .bool false) rfl (by kernel_rfl) (by kernel_rfl) (by kernel_rfl) (fun _ _ _ h => h) (Or.inl ⟨by rfl, ?_⟩) (SK.out _ tV) ?_
                        · rintro w s0
                          go_simp
                        simp only [Act.put, List.setIfInBounds_toArray, List.set_cons_zero, List.set_cons_succ]
                        refine wpAnyH_take (i := 42) (oi := { dst := some 236, op := Op.pick (Operand.tmp 221) (Operand.const (Value.bool true)) (Operand.tmp 235), type := 4, pos := "law.go:143", after := #[{ on := 27, ground := Ground.data }, { on := 41, ground := Ground.data }], guard := none }) (v := .bool false) rfl (by kernel_rfl) (by kernel_rfl) (by kernel_rfl) (fun _ _ _ h => h) (Or.inl ⟨by rfl, ?_⟩) (SK.out _ tV) ?_
                        · rintro w s0
                          go_simp
                        simp only [Act.put, List.setIfInBounds_toArray, List.set_cons_zero, List.set_cons_succ]
                        refine wpAnyH_done (by kernel_rfl) ?_ _
                        have TU := hide tV
                        clear tV
                        go_wp2_with fail
                        go_meet
                        exact ⟨rfl, rfl, TU.out⟩
                    · have E2 := hide (show ¬ (i : Int) < (ps.length : Int) - 1 by omega)
                      clear hb
                      by_cases h0 : 0 < i
                      · have E1 := hide (show (0 : Int) < (i : Int) by omega)
                        obtain ⟨J', z, hJ, hzy⟩ := cut_last h0 HGI.out HY.out HJE.out
                        have hrow := HJR.out
                        have hJm : J.length = J'.length + 1 := by rw [hJ]; simp
                        rw [hJm] at hrow
                        rw [hJ] at hrow
                        obtain ⟨gj, hja, hE4, _⟩ := hrow.last rfl
                        have hzb : Bytes wr z.kv z.e.key := (HJB.out z (by rw [hJ]; simp)).1.quiet HTJ4.out
                        have BC := hide (fun (u : World) (tt : Turns (fun _ => False) wr u) => bytes_any z.ka y.ka z.e.key.length y.e.key.length z.kc y.kc z.e.key y.e.key u (hzb.quiet tt) (HKY.out.quiet (HTJ4.out.trans tt)) (by
                          have h1 : z.e ∈ ents J := List.mem_map.2 ⟨z, by rw [hJ]; simp, rfl⟩
                          rw [HJE.out] at h1
                          have h2 : z.e ∈ L := by
                            have h4 : (cutE t L).flatten = ((cutE t L).take i).flatten ++ ((cutE t L).drop i).flatten := by rw [← List.flatten_append, List.take_append_drop]
                            rw [cutE_flat] at h4
                            rw [h4]
                            exact List.mem_append_left _ h1
                          have := HLQ.out.each z.e h2
                          omega))
                        rw [HYL.out, decide_eq_false hzy] at BC
                        have yz := hE4.1
                        unfold Tow.kv at yz
                        obtain ⟨m, hm⟩ : ∃ m, J'.length = m := ⟨_, rfl⟩
                        rw [hm] at hJm yz
                        have HM := hide hJm
                        have j2 : (m : Int) < (J.length : Int) := by omega
                        have j3 : (0 : Int) ≤ (m : Int) := by omega
                        clear hrow hJ hzy hE4 hzb hm h0 hJm
                        subst hja
                        obtain ⟨zk, hzk⟩ : ∃ v, Value.slice z.ka z.e.key.length z.kc = v := ⟨_, rfl⟩
                        generalize z.e.key.length = zl at *
                        clear hzk
                        have SK := hide (fun (u : World) (tt : Turns (fun _ => False) wr u) => show u.cell? ⟨gf, i, none⟩ = some (.slice (some ⟨gp, op, none⟩) pl pc) ∧ u.cell? ⟨gj, m * 4, none⟩ = some (.slice z.ka zl z.kc) ∧ u.cell? ⟨gp, op, none⟩ = some (.slice y.ka yl y.kc) from ⟨tt.cell yf (fun x => x), tt.cell yz (fun x => x), tt.cell yk (fun x => x)⟩)
                        refine wp_region_held_drew (S := fun u => u.cell? ⟨gf, i, none⟩ = some (.slice (some ⟨gp, op, none⟩) pl pc) ∧ u.cell? ⟨gj, m * 4, none⟩ = some (.slice z.ka zl z.kc) ∧ u.cell? ⟨gp, op, none⟩ = some (.slice y.ka yl y.kc)) (by kernel_rfl) (SK.out _ tV) (fun _ => ?_)
                        change wpAnyH _ _ _ _ _ 43 (Array.replicate 43 false) _ _
                        refine wpAnyH_take (i := 0) (oi := { dst := some 194, op := Op.move (Operand.tmp 18), type := 22, pos := "law.go:143", after := #[], guard := none }) (v := .slice (some ⟨gf, 0, none⟩) ps.length cf) rfl (by kernel_rfl) (by kernel_rfl) (by kernel_rfl) (fun _ _ _ h => h) (Or.inl ⟨by rfl, ?_⟩) (SK.out _ tV) ?_
                        · rintro w ⟨s0, s1, s2⟩
                          go_simp
                        simp only [Act.put, List.setIfInBounds_toArray, List.set_cons_zero, List.set_cons_succ]
                        refine wpAnyH_take (i := 1) (oi := { dst := some 195, op := Op.move (Operand.tmp 27), type := 3, pos := "law.go:143", after := #[], guard := none }) (v := .int .i64 (i : Nat)) rfl (by kernel_rfl) (by kernel_rfl) (by kernel_rfl) (fun _ _ _ h => h) (Or.inl ⟨by rfl, ?_⟩) (SK.out _ tV) ?_
                        · rintro w ⟨s0, s1, s2⟩
                          go_simp
                        simp only [Act.put, List.setIfInBounds_toArray, List.set_cons_zero, List.set_cons_succ]
                        refine wpAnyH_take (i := 2) (oi := { dst := some 196, op := Op.indexAddr 22 (Operand.tmp 194) (Operand.tmp 195), type := 0, pos := "law.go:143", after := #[{ on := 0, ground := Ground.data }, { on := 1, ground := Ground.data }], guard := none }) (v := .pointer (some ⟨gf, i, none⟩)) rfl (by kernel_rfl) (by kernel_rfl) (by kernel_rfl) (fun _ _ _ h => h) (Or.inl ⟨by rfl, ?_⟩) (SK.out _ tV) ?_
                        · rintro w ⟨s0, s1, s2⟩
                          go_simp
                        simp only [Act.put, List.setIfInBounds_toArray, List.set_cons_zero, List.set_cons_succ]
                        refine wpAnyH_take (i := 3) (oi := { dst := some 197, op := Op.load 31 (Operand.tmp 196), type := 31, pos := "law.go:143", after := #[{ on := 2, ground := Ground.data }], guard := none }) (v := .slice (some ⟨gp, op, none⟩) pl pc) rfl (by kernel_rfl) (by kernel_rfl) (by kernel_rfl) (fun _ _ _ h => h) (Or.inl ⟨by rfl, ?_⟩) (SK.out _ tV) ?_
                        · rintro w ⟨s0, s1, s2⟩
                          go_simp
                        simp only [Act.put, List.setIfInBounds_toArray, List.set_cons_zero, List.set_cons_succ]
                        refine wpAnyH_take (i := 4) (oi := { dst := some 198, op := Op.call { callee := Callee.builtin Builtin.len, args := #[Operand.tmp 197], argTypes := #[31] }, type := 3, pos := "law.go:143", after := #[{ on := 3, ground := Ground.data }], guard := none }) (v := .int .i64 (pl : Nat)) rfl (by kernel_rfl) (by kernel_rfl) (by kernel_rfl) (fun _ _ _ h => h) (Or.inl ⟨by rfl, ?_⟩) (SK.out _ tV) ?_
                        · rintro w ⟨s0, s1, s2⟩
                          go_simp
                        simp only [Act.put, List.setIfInBounds_toArray, List.set_cons_zero, List.set_cons_succ]
                        refine wpAnyH_take (i := 5) (oi := { dst := some 199, op := Op.binOp BinOp.eql 3 (Operand.tmp 198) (Operand.const (Value.int IntKind.i64 0)) 3, type := 4, pos := "law.go:143", after := #[{ on := 4, ground := Ground.data }], guard := none }) (v := .bool false) rfl (by kernel_rfl) (by kernel_rfl) (by kernel_rfl) (fun _ _ _ h => h) (Or.inl ⟨by rfl, ?_⟩) (SK.out _ tV) ?_
                        · rintro w ⟨s0, s1, s2⟩
                          go_simp; try (have := E0.out; omega)
                        simp only [Act.put, List.setIfInBounds_toArray, List.set_cons_zero, List.set_cons_succ]
                        refine wpAnyH_take (i := 6) (oi := { dst := some 200, op := Op.move (Operand.tmp 199), type := 4, pos := "law.go:143", after := #[{ on := 5, ground := Ground.data }], guard := none }) (v := .bool false) rfl (by kernel_rfl) (by kernel_rfl) (by kernel_rfl) (fun _ _ _ h => h) (Or.inl ⟨by rfl, ?_⟩) (SK.out _ tV) ?_
                        · rintro w ⟨s0, s1, s2⟩
                          go_simp
                        simp only [Act.put, List.setIfInBounds_toArray, List.set_cons_zero, List.set_cons_succ]
                        refine wpAnyH_take (i := 7) (oi := { dst := some 201, op := Op.move (Operand.tmp 27), type := 3, pos := "law.go:143", after := #[{ on := 6, ground := Ground.guard }], guard := some (6, false) }) (v := .int .i64 (i : Nat)) rfl (by kernel_rfl) (by kernel_rfl) (by kernel_rfl) (fun _ _ _ h => h) (Or.inl ⟨by rfl, ?_⟩) (SK.out _ tV) ?_
                        · rintro w ⟨s0, s1, s2⟩
                          go_simp
                        simp only [Act.put, List.setIfInBounds_toArray, List.set_cons_zero, List.set_cons_succ]
                        refine wpAnyH_take (i := 8) (oi := { dst := some 202, op := Op.binOp BinOp.gtr 3 (Operand.tmp 201) (Operand.const (Value.int IntKind.i64 0)) 3, type := 4, pos := "law.go:143", after := #[{ on := 7, ground := Ground.data }, { on := 6, ground := Ground.guard }], guard := some (6, false) }) (v := .bool true) rfl (by kernel_rfl) (by kernel_rfl) (by kernel_rfl) (fun _ _ _ h => h) (Or.inl ⟨by rfl, ?_⟩) (SK.out _ tV) ?_
                        · rintro w ⟨s0, s1, s2⟩
                          go_simp; try (have := E1.out; omega)
                        simp only [Act.put, List.setIfInBounds_toArray, List.set_cons_zero, List.set_cons_succ]
                        refine wpAnyH_take (i := 9) (oi := { dst := some 203, op := Op.move (Operand.tmp 202), type := 4, pos := "law.go:143", after := #[{ on := 8, ground := Ground.data }, { on := 6, ground := Ground.chain }, { on := 6, ground := Ground.guard }], guard := some (6, false) }) (v := .bool true) rfl (by kernel_rfl) (by kernel_rfl) (by kernel_rfl) (fun _ _ _ h => h) (Or.inl ⟨by rfl, ?_⟩) (SK.out _ tV) ?_
                        · rintro w ⟨s0, s1, s2⟩
                          go_simp
                        simp only [Act.put, List.setIfInBounds_toArray, List.set_cons_zero, List.set_cons_succ]
                        refine wpAnyH_take (i := 10) (oi := { dst := some 204, op := Op.move (Operand.tmp 26), type := 31, pos := "law.go:143", after := #[{ on := 9, ground := Ground.guard }], guard := some (9, true) }) (v := .slice (some ⟨gj, 0, none⟩) J.length jc) rfl (by kernel_rfl) (by kernel_rfl) (by kernel_rfl) (fun _ _ _ h => h) (Or.inl ⟨by rfl, ?_⟩) (SK.out _ tV) ?_
                        · rintro w ⟨s0, s1, s2⟩
                          go_simp
                        simp only [Act.put, List.setIfInBounds_toArray, List.set_cons_zero, List.set_cons_succ]
                        refine wpAnyH_take (i := 11) (oi := { dst := some 205, op := Op.move (Operand.tmp 26), type := 31, pos := "law.go:143", after := #[{ on := 9, ground := Ground.guard }], guard := some (9, true) }) (v := .slice (some ⟨gj, 0, none⟩) J.length jc) rfl (by kernel_rfl) (by kernel_rfl) (by kernel_rfl) (fun _ _ _ h => h) (Or.inl ⟨by rfl, ?_⟩) (SK.out _ tV) ?_
                        · rintro w ⟨s0, s1, s2⟩
                          go_simp
                        simp only [Act.put, List.setIfInBounds_toArray, List.set_cons_zero, List.set_cons_succ]
                        refine wpAnyH_take (i := 12) (oi := { dst := some 206, op := Op.call { callee := Callee.builtin Builtin.len, args := #[Operand.tmp 205], argTypes := #[31] }, type := 3, pos := "law.go:143", after := #[{ on := 11, ground := Ground.data }, { on := 9, ground := Ground.guard }], guard := some (9, true) }) (v := .int .i64 (J.length : Nat)) rfl (by kernel_rfl) (by kernel_rfl) (by kernel_rfl) (fun _ _ _ h => h) (Or.inl ⟨by rfl, ?_⟩) (SK.out _ tV) ?_
                        · rintro w ⟨s0, s1, s2⟩
                          go_simp
                        simp only [Act.put, List.setIfInBounds_toArray, List.set_cons_zero, List.set_cons_succ]
                        refine wpAnyH_take (i := 13) (oi := { dst := some 207, op := Op.binOp BinOp.sub 3 (Operand.tmp 206) (Operand.const (Value.int IntKind.i64 1)) 3, type := 3, pos := "law.go:143", after := #[{ on := 12, ground := Ground.data }, { on := 9, ground := Ground.guard }], guard := some (9, true) }) (v := .int .i64 (m : Nat)) rfl (by kernel_rfl) (by kernel_rfl) (by kernel_rfl) (fun _ _ _ h => h) (Or.inl ⟨by rfl, ?_⟩) (SK.out _ tV) ?_
                        · rintro w ⟨s0, s1, s2⟩
                          go_simp; rw [wrapI _ (by have := HM.out; omega) (by have := HM.out; omega)]; have := HM.out; omega
                        simp only [Act.put, List.setIfInBounds_toArray, List.set_cons_zero, List.set_cons_succ]
                        refine wpAnyH_take (i := 14) (oi := { dst := some 208, op := Op.indexAddr 31 (Operand.tmp 204) (Operand.tmp 207), type := 0, pos := "law.go:143", after := #[{ on := 10, ground := Ground.data }, { on := 13, ground := Ground.data }, { on := 9, ground := Ground.guard }], guard := some (9, true) }) (v := .pointer (some ⟨gj, m * 4, none⟩)) rfl (by kernel_rfl) (by kernel_rfl) (by kernel_rfl) (fun _ _ _ h => h) (Or.inl ⟨by rfl, ?_⟩) (SK.out _ tV) ?_
                        · rintro w ⟨s0, s1, s2⟩
                          go_simp
                        simp only [Act.put, List.setIfInBounds_toArray, List.set_cons_zero, List.set_cons_succ]
                        refine wpAnyH_take (i := 15) (oi := { dst := some 209, op := Op.fieldAddr 29 (Operand.tmp 208) 0, type := 0, pos := "law.go:143", after := #[{ on := 14, ground := Ground.data }, { on := 9, ground := Ground.guard }], guard := some (9, true) }) (v := .pointer (some ⟨gj, m * 4, none⟩)) rfl (by kernel_rfl) (by kernel_rfl) (by kernel_rfl) (fun _ _ _ h => h) (Or.inl ⟨by rfl, ?_⟩) (SK.out _ tV) ?_
                        · rintro w ⟨s0, s1, s2⟩
                          go_simp
                        simp only [Act.put, List.setIfInBounds_toArray, List.set_cons_zero, List.set_cons_succ]
                        refine wpAnyH_take (i := 16) (oi := { dst := some 210, op := Op.load 26 (Operand.tmp 209), type := 26, pos := "law.go:143", after := #[{ on := 15, ground := Ground.data }, { on := 9, ground := Ground.guard }], guard := some (9, true) }) (v := .slice z.ka zl z.kc) rfl (by kernel_rfl) (by kernel_rfl) (by kernel_rfl) (fun _ _ _ h => h) (Or.inl ⟨by rfl, ?_⟩) (SK.out _ tV) ?_
                        · rintro w ⟨s0, s1, s2⟩
                          go_simp
                        simp only [Act.put, List.setIfInBounds_toArray, List.set_cons_zero, List.set_cons_succ]
                        refine wpAnyH_take (i := 17) (oi := { dst := some 211, op := Op.move (Operand.tmp 18), type := 22, pos := "law.go:143", after := #[{ on := 9, ground := Ground.guard }], guard := some (9, true) }) (v := .slice (some ⟨gf, 0, none⟩) ps.length cf) rfl (by kernel_rfl) (by kernel_rfl) (by kernel_rfl) (fun _ _ _ h => h) (Or.inl ⟨by rfl, ?_⟩) (SK.out _ tV) ?_
                        · rintro w ⟨s0, s1, s2⟩
                          go_simp
                        simp only [Act.put, List.setIfInBounds_toArray, List.set_cons_zero, List.set_cons_succ]
                        refine wpAnyH_take (i := 18) (oi := { dst := some 212, op := Op.move (Operand.tmp 27), type := 3, pos := "law.go:143", after := #[{ on := 9, ground := Ground.guard }], guard := some (9, true) }) (v := .int .i64 (i : Nat)) rfl (by kernel_rfl) (by kernel_rfl) (by kernel_rfl) (fun _ _ _ h => h) (Or.inl ⟨by rfl, ?_⟩) (SK.out _ tV) ?_
                        · rintro w ⟨s0, s1, s2⟩
                          go_simp
                        simp only [Act.put, List.setIfInBounds_toArray, List.set_cons_zero, List.set_cons_succ]
                        refine wpAnyH_take (i := 19) (oi := { dst := some 213, op := Op.indexAddr 22 (Operand.tmp 211) (Operand.tmp 212), type := 0, pos := "law.go:143", after := #[{ on := 17, ground := Ground.data }, { on := 18, ground := Ground.data }, { on := 9, ground := Ground.guard }], guard := some (9, true) }) (v := .pointer (some ⟨gf, i, none⟩)) rfl (by kernel_rfl) (by kernel_rfl) (by kernel_rfl) (fun _ _ _ h => h) (Or.inl ⟨by rfl, ?_⟩) (SK.out _ tV) ?_
                        · rintro w ⟨s0, s1, s2⟩
                          go_simp
                        simp only [Act.put, List.setIfInBounds_toArray, List.set_cons_zero, List.set_cons_succ]
                        refine wpAnyH_take (i := 20) (oi := { dst := some 214, op := Op.load 31 (Operand.tmp 213), type := 31, pos := "law.go:143", after := #[{ on := 19, ground := Ground.data }, { on := 9, ground := Ground.guard }], guard := some (9, true) }) (v := .slice (some ⟨gp, op, none⟩) pl pc) rfl (by kernel_rfl) (by kernel_rfl) (by kernel_rfl) (fun _ _ _ h => h) (Or.inl ⟨by rfl, ?_⟩) (SK.out _ tV) ?_
                        · rintro w ⟨s0, s1, s2⟩
                          go_simp
                        simp only [Act.put, List.setIfInBounds_toArray, List.set_cons_zero, List.set_cons_succ]
                        refine wpAnyH_take (i := 21) (oi := { dst := some 215, op := Op.indexAddr 31 (Operand.tmp 214) (Operand.const (Value.int IntKind.i64 0)), type := 0, pos := "law.go:143", after := #[{ on := 20, ground := Ground.data }, { on := 9, ground := Ground.guard }], guard := some (9, true) }) (v := .pointer (some ⟨gp, op, none⟩)) rfl (by kernel_rfl) (by kernel_rfl) (by kernel_rfl) (fun _ _ _ h => h) (Or.inl ⟨by rfl, ?_⟩) (SK.out _ tV) ?_
                        · rintro w ⟨s0, s1, s2⟩
                          go_simp; try (have := E0.out; omega)
                        simp only [Act.put, List.setIfInBounds_toArray, List.set_cons_zero, List.set_cons_succ]
                        refine wpAnyH_take (i := 22) (oi := { dst := some 216, op := Op.fieldAddr 29 (Operand.tmp 215) 0, type := 0, pos := "law.go:143", after := #[{ on := 21, ground := Ground.data }, { on := 9, ground := Ground.guard }], guard := some (9, true) }) (v := .pointer (some ⟨gp, op, none⟩)) rfl (by kernel_rfl) (by kernel_rfl) (by kernel_rfl) (fun _ _ _ h => h) (Or.inl ⟨by rfl, ?_⟩) (SK.out _ tV) ?_
                        · rintro w ⟨s0, s1, s2⟩
                          go_simp
                        simp only [Act.put, List.setIfInBounds_toArray, List.set_cons_zero, List.set_cons_succ]
                        refine wpAnyH_take (i := 23) (oi := { dst := some 217, op := Op.load 26 (Operand.tmp 216), type := 26, pos := "law.go:143", after := #[{ on := 22, ground := Ground.data }, { on := 9, ground := Ground.guard }], guard := some (9, true) }) (v := .slice y.ka yl y.kc) rfl (by kernel_rfl) (by kernel_rfl) (by kernel_rfl) (fun _ _ _ h => h) (Or.inl ⟨by rfl, ?_⟩) (SK.out _ tV) ?_
                        · rintro w ⟨s0, s1, s2⟩
                          go_simp
                        simp only [Act.put, List.setIfInBounds_toArray, List.set_cons_zero, List.set_cons_succ]
                        refine wpAnyH_ready (rs := [24]) (by kernel_rfl) (by simp) ?_
                        refine AllReadyH.cons rfl (fun K hK => ?_) AllReadyH.nil
                        go_simp
                        refine (BC.out _ tV).mono ?_
                        rintro oo Vn ⟨rfl, mm, hmm⟩
                        have tN := (by rw [hmm]; exact (Turns.refl _ _).drewN mm : Turns (fun _ => False) _ Vn)
                        have tV := tV.trans tN
                        clear hmm
                        clear tN
                        go_simp
                        refine hK.out _ _ (SK.out _ tV) (fun _ => ?_)
                        clear hK K
                        refine wpAnyH_take (i := 25) (oi := { dst := some 219, op := Op.pick (Operand.tmp 203) (Operand.tmp 218) (Operand.const (Value.bool false)), type := 4, pos := "law.go:143", after := #[{ on := 9, ground := Ground.data }, { on := 24, ground := Ground.data }, { on := 6, ground := Ground.guard }], guard := some (6, false) }) (v := .bool false) rfl (by kernel_rfl) (by kernel_rfl) (by kernel_rfl) (fun _ _ _ h => h) (Or.inl ⟨by rfl, ?_⟩) (SK.out _ tV) ?_
                        · rintro w ⟨s0, s1, s2⟩
                          go_simp
                        simp only [Act.put, List.setIfInBounds_toArray, List.set_cons_zero, List.set_cons_succ]
                        refine wpAnyH_take (i := 26) (oi := { dst := some 220, op := Op.pick (Operand.tmp 200) (Operand.const (Value.bool true)) (Operand.tmp 219), type := 4, pos := "law.go:143", after := #[{ on := 6, ground := Ground.data }, { on := 25, ground := Ground.data }], guard := none }) (v := .bool false) rfl (by kernel_rfl) (by kernel_rfl) (by kernel_rfl) (fun _ _ _ h => h) (Or.inl ⟨by rfl, ?_⟩) (SK.out _ tV) ?_
                        · rintro w ⟨s0, s1, s2⟩
                          go_simp
                        simp only [Act.put, List.setIfInBounds_toArray, List.set_cons_zero, List.set_cons_succ]
                        refine wpAnyH_take (i := 27) (oi := { dst := some 221, op := Op.move (Operand.tmp 220), type := 4, pos := "law.go:143", after := #[{ on := 26, ground := Ground.data }, { on := 24, ground := Ground.chain }], guard := none }) (v := .bool false) rfl (by kernel_rfl) (by kernel_rfl) (by kernel_rfl) (fun _ _ _ h => h) (Or.inl ⟨by rfl, ?_⟩) (SK.out _ tV) ?_
                        · rintro w ⟨s0, s1, s2⟩
                          go_simp
                        simp only [Act.put, List.setIfInBounds_toArray, List.set_cons_zero, List.set_cons_succ]
                        refine wpAnyH_take (i := 28) (oi := { dst := some 222, op := Op.move (Operand.tmp 27), type := 3, pos := "law.go:143", after := #[{ on := 27, ground := Ground.guard }], guard := some (27, false) }) (v := .int .i64 (i : Nat)) rfl (by kernel_rfl) (by kernel_rfl) (by kernel_rfl) (fun _ _ _ h => h) (Or.inl ⟨by rfl, ?_⟩) (SK.out _ tV) ?_
                        · rintro w ⟨s0, s1, s2⟩
                          go_simp
                        simp only [Act.put, List.setIfInBounds_toArray, List.set_cons_zero, List.set_cons_succ]
                        refine wpAnyH_take (i := 29) (oi := { dst := some 223, op := Op.move (Operand.tmp 18), type := 22, pos := "law.go:143", after := #[{ on := 27, ground := Ground.guard }], guard := some (27, false) }) (v := .slice (some ⟨gf, 0, none⟩) ps.length cf) rfl (by kernel_rfl) (by kernel_rfl) (by kernel_rfl) (fun _ _ _ h => h) (Or.inl ⟨by rfl, ?_⟩) (SK.out _ tV) ?_
                        · rintro w ⟨s0, s1, s2⟩
                          go_simp
                        simp only [Act.put, List.setIfInBounds_toArray, List.set_cons_zero, List.set_cons_succ]
                        refine wpAnyH_take (i := 30) (oi := { dst := some 224, op := Op.call { callee := Callee.builtin Builtin.len, args := #[Operand.tmp 223], argTypes := #[22] }, type := 3, pos := "law.go:143", after := #[{ on := 29, ground := Ground.data }, { on := 27, ground := Ground.guard }], guard := some (27, false) }) (v := .int .i64 (ps.length : Nat)) rfl (by kernel_rfl) (by kernel_rfl) (by kernel_rfl) (fun _ _ _ h => h) (Or.inl ⟨by rfl, ?_⟩) (SK.out _ tV) ?_
                        · rintro w ⟨s0, s1, s2⟩
                          go_simp
                        simp only [Act.put, List.setIfInBounds_toArray, List.set_cons_zero, List.set_cons_succ]
                        refine wpAnyH_take (i := 31) (oi := { dst := some 225, op := Op.binOp BinOp.sub 3 (Operand.tmp 224) (Operand.const (Value.int IntKind.i64 1)) 3, type := 3, pos := "law.go:143", after := #[{ on := 30, ground := Ground.data }, { on := 27, ground := Ground.guard }], guard := some (27, false) }) (v := .int .i64 ((ps.length : Int) - 1)) rfl (by kernel_rfl) (by kernel_rfl) (by kernel_rfl) (fun _ _ _ h => h) (Or.inl ⟨by rfl, ?_⟩) (SK.out _ tV) ?_
                        · rintro w ⟨s0, s1, s2⟩
                          go_simp; exact wrapI _ (by omega) (by omega)
                        simp only [Act.put, List.setIfInBounds_toArray, List.set_cons_zero, List.set_cons_succ]
                        refine wpAnyH_take (i := 32) (oi := { dst := some 226, op := Op.binOp BinOp.lss 3 (Operand.tmp 222) (Operand.tmp 225) 3, type := 4, pos := "law.go:143", after := #[{ on := 28, ground := Ground.data }, { on := 31, ground := Ground.data }, { on := 27, ground := Ground.guard }], guard := some (27, false) }) (v := .bool false) rfl (by kernel_rfl) (by kernel_rfl) (by kernel_rfl) (fun _ _ _ h => h) (Or.inl ⟨by rfl, ?_⟩) (SK.out _ tV) ?_
                        · rintro w ⟨s0, s1, s2⟩
                          go_simp; try (have := E2.out; omega)
                        simp only [Act.put, List.setIfInBounds_toArray, List.set_cons_zero, List.set_cons_succ]
                        refine wpAnyH_take (i := 33) (oi := { dst := some 227, op := Op.move (Operand.tmp 226), type := 4, pos := "law.go:143", after := #[{ on := 32, ground := Ground.data }, { on := 27, ground := Ground.chain }, { on := 27, ground := Ground.guard }], guard := some (27, false) }) (v := .bool false) rfl (by kernel_rfl) (by kernel_rfl) (by kernel_rfl) (fun _ _ _ h => h) (Or.inl ⟨by rfl, ?_⟩) (SK.out _ tV) ?_
                        · rintro w ⟨s0, s1, s2⟩
                          go_simp
                        simp only [Act.put, List.setIfInBounds_toArray, List.set_cons_zero, List.set_cons_succ]
                        refine wpAnyH_take (i := 34) (oi := { dst := some 228, op := Op.move (Operand.tmp 18), type := 22, pos := "law.go:143", after := #[{ on := 33, ground := Ground.guard }], guard := some (33, true) }) (v := undef) rfl (by kernel_rfl) (by kernel_rfl) (by kernel_rfl) (fun _ _ _ h => h) (Or.inr ⟨by rfl, rfl⟩) (SK.out _ tV) ?_
                        simp only [Act.put, List.setIfInBounds_toArray, List.set_cons_zero, List.set_cons_succ]
                        refine wpAnyH_take (i := 35) (oi := { dst := some 229, op := Op.move (Operand.tmp 27), type := 3, pos := "law.go:143", after := #[{ on := 33, ground := Ground.guard }], guard := some (33, true) }) (v := undef) rfl (by kernel_rfl) (by kernel_rfl) (by kernel_rfl) (fun _ _ _ h => h) (Or.inr ⟨by rfl, rfl⟩) (SK.out _ tV) ?_
                        simp only [Act.put, List.setIfInBounds_toArray, List.set_cons_zero, List.set_cons_succ]
                        refine wpAnyH_take (i := 36) (oi := { dst := some 230, op := Op.indexAddr 22 (Operand.tmp 228) (Operand.tmp 229), type := 0, pos := "law.go:143", after := #[{ on := 34, ground := Ground.data }, { on := 35, ground := Ground.data }, { on := 33, ground := Ground.guard }], guard := some (33, true) }) (v := undef) rfl (by kernel_rfl) (by kernel_rfl) (by kernel_rfl) (fun _ _ _ h => h) (Or.inr ⟨by rfl, rfl⟩) (SK.out _ tV) ?_
                        simp only [Act.put, List.setIfInBounds_toArray, List.set_cons_zero, List.set_cons_succ]
                        refine wpAnyH_take (i := 37) (oi := { dst := some 231, op := Op.load 31 (Operand.tmp 230), type := 31, pos := "law.go:143", after := #[{ on := 36, ground := Ground.data }, { on := 33, ground := Ground.guard }], guard := some (33, true) }) (v := undef) rfl (by kernel_rfl) (by kernel_rfl) (by kernel_rfl) (fun _ _ _ h => h) (Or.inr ⟨by rfl, rfl⟩) (SK.out _ tV) ?_
                        simp only [Act.put, List.setIfInBounds_toArray, List.set_cons_zero, List.set_cons_succ]
                        refine wpAnyH_take (i := 38) (oi := { dst := some 232, op := Op.call { callee := Callee.value (Operand.func 26), args := #[Operand.tmp 231], argTypes := #[31] }, type := 3, pos := "law.go:143", after := #[{ on := 37, ground := Ground.data }, { on := 33, ground := Ground.chain }, { on := 33, ground := Ground.guard }], guard := some (33, true) }) (v := undef) rfl (by kernel_rfl) (by kernel_rfl) (by kernel_rfl) (fun _ _ _ h => h) (Or.inr ⟨by rfl, rfl⟩) (SK.out _ tV) ?_
                        simp only [Act.put, List.setIfInBounds_toArray, List.set_cons_zero, List.set_cons_succ]
                        refine wpAnyH_take (i := 39) (oi := { dst := some 233, op := Op.move (Operand.tmp 3), type := 3, pos := "law.go:143", after := #[{ on := 33, ground := Ground.guard }], guard := some (33, true) }) (v := undef) rfl (by kernel_rfl) (by kernel_rfl) (by kernel_rfl) (fun _ _ _ h => h) (Or.inr ⟨by rfl, rfl⟩) (SK.out _ tV) ?_
                        simp only [Act.put, List.setIfInBounds_toArray, List.set_cons_zero, List.set_cons_succ]
                        refine wpAnyH_take (i := 40) (oi := { dst := some 234, op := Op.binOp BinOp.lss 3 (Operand.tmp 232) (Operand.tmp 233) 3, type := 4, pos := "law.go:143", after := #[{ on := 38, ground := Ground.data }, { on := 39, ground := Ground.data }, { on := 33, ground := Ground.guard }], guard := some (33, true) }) (v := undef) rfl (by kernel_rfl) (by kernel_rfl) (by kernel_rfl) (fun _ _ _ h => h) (Or.inr ⟨by rfl, rfl⟩) (SK.out _ tV) ?_
                        simp only [Act.put, List.setIfInBounds_toArray, List.set_cons_zero, List.set_cons_succ]
                        refine wpAnyH_take (i := 41) (oi := { dst := some 235, op := Op.pick (Operand.tmp 227) (Operand.tmp 234) (Operand.const (Value.bool false)), type := 4, pos := "law.go:143", after := #[{ on := 33, ground := Ground.data }, { on := 40, ground := Ground.data }, { on := 27, ground := Ground.guard }], guard := some (27, false) }) (v := .bool false) rfl (by kernel_rfl) (by kernel_rfl) (by kernel_rfl) (fun _ _ _ h => h) (Or.inl ⟨by rfl, ?_⟩) (SK.out _ tV) ?_
                        · rintro w ⟨s0, s1, s2⟩
                          go_simp
                        simp only [Act.put, List.setIfInBounds_toArray, List.set_cons_zero, List.set_cons_succ]
                        refine wpAnyH_take (i := 42) (oi := { dst := some 236, op := Op.pick (Operand.tmp 221) (Operand.const (Value.bool true)) (Operand.tmp 235), type := 4, pos := "law.go:143", after := #[{ on := 27, ground := Ground.data }, { on := 41, ground := Ground.data }], guard := none }) (v := .bool false) rfl (by kernel_rfl) (by kernel_rfl) (by kernel_rfl) (fun _ _ _ h => h) (Or.inl ⟨by rfl, ?_⟩) (SK.out _ tV) ?_
                        · rintro w ⟨s0, s1, s2⟩
                          go_simp
                        simp only [Act.put, List.setIfInBounds_toArray, List.set_cons_zero, List.set_cons_succ]
                        refine wpAnyH_done (by kernel_rfl) ?_ _
                        have TU := hide tV
                        clear tV
                        go_wp2_with fail
                        go_meet
                        exact ⟨rfl, rfl, TU.out⟩
                      · have E1 := hide (show ¬ (0 : Int) < (i : Int) by omega)
                        clear h0
                        have SK := hide (fun (u : World) (tt : Turns (fun _ => False) wr u) => show u.cell? ⟨gf, i, none⟩ = some (.slice (some ⟨gp, op, none⟩) pl pc) from tt.cell yf (fun x => x))
                        refine wp_region_held_drew (S := fun u => u.cell? ⟨gf, i, none⟩ = some (.slice (some ⟨gp, op, none⟩) pl pc)) (by kernel_rfl) (SK.out _ tV) (fun _ => ?_)
                        change wpAnyH _ _ _ _ _ 43 (Array.replicate 43 false) _ _
                        refine wpAnyH_take (i := 0) (oi := { dst := some 194, op := Op.move (Operand.tmp 18), type := 22, pos := "law.go:143", after := #[], guard := none }) (v := .slice (some ⟨gf, 0, none⟩) ps.length cf) rfl (by kernel_rfl) (by kernel_rfl) (by kernel_rfl) (fun _ _ _ h => h) (Or.inl ⟨by rfl, ?_⟩) (SK.out _ tV) ?_
                        · rintro w s0
                          go_simp
                        simp only [Act.put, List.setIfInBounds_toArray, List.set_cons_zero, List.set_cons_succ]
                        refine wpAnyH_take (i := 1) (oi := { dst := some 195, op := Op.move (Operand.tmp 27), type := 3, pos := "law.go:143", after := #[], guard := none }) (v := .int .i64 (i : Nat)) rfl (by kernel_rfl) (by kernel_rfl) (by kernel_rfl) (fun _ _ _ h => h) (Or.inl ⟨by rfl, ?_⟩) (SK.out _ tV) ?_
                        · rintro w s0
                          go_simp
                        simp only [Act.put, List.setIfInBounds_toArray, List.set_cons_zero, List.set_cons_succ]
                        refine wpAnyH_take (i := 2) (oi := { dst := some 196, op := Op.indexAddr 22 (Operand.tmp 194) (Operand.tmp 195), type := 0, pos := "law.go:143", after := #[{ on := 0, ground := Ground.data }, { on := 1, ground := Ground.data }], guard := none }) (v := .pointer (some ⟨gf, i, none⟩)) rfl (by kernel_rfl) (by kernel_rfl) (by kernel_rfl) (fun _ _ _ h => h) (Or.inl ⟨by rfl, ?_⟩) (SK.out _ tV) ?_
                        · rintro w s0
                          go_simp
                        simp only [Act.put, List.setIfInBounds_toArray, List.set_cons_zero, List.set_cons_succ]
                        refine wpAnyH_take (i := 3) (oi := { dst := some 197, op := Op.load 31 (Operand.tmp 196), type := 31, pos := "law.go:143", after := #[{ on := 2, ground := Ground.data }], guard := none }) (v := .slice (some ⟨gp, op, none⟩) pl pc) rfl (by kernel_rfl) (by kernel_rfl) (by kernel_rfl) (fun _ _ _ h => h) (Or.inl ⟨by rfl, ?_⟩) (SK.out _ tV) ?_
                        · rintro w s0
                          go_simp
                        simp only [Act.put, List.setIfInBounds_toArray, List.set_cons_zero, List.set_cons_succ]
                        refine wpAnyH_take (i := 4) (oi := { dst := some 198, op := Op.call { callee := Callee.builtin Builtin.len, args := #[Operand.tmp 197], argTypes := #[31] }, type := 3, pos := "law.go:143", after := #[{ on := 3, ground := Ground.data }], guard := none }) (v := .int .i64 (pl : Nat)) rfl (by kernel_rfl) (by kernel_rfl) (by kernel_rfl) (fun _ _ _ h => h) (Or.inl ⟨by rfl, ?_⟩) (SK.out _ tV) ?_
                        · rintro w s0
                          go_simp
                        simp only [Act.put, List.setIfInBounds_toArray, List.set_cons_zero, List.set_cons_succ]
                        refine wpAnyH_take (i := 5) (oi := { dst := some 199, op := Op.binOp BinOp.eql 3 (Operand.tmp 198) (Operand.const (Value.int IntKind.i64 0)) 3, type := 4, pos := "law.go:143", after := #[{ on := 4, ground := Ground.data }], guard := none }) (v := .bool false) rfl (by kernel_rfl) (by kernel_rfl) (by kernel_rfl) (fun _ _ _ h => h) (Or.inl ⟨by rfl, ?_⟩) (SK.out _ tV) ?_
                        · rintro w s0
                          go_simp; try (have := E0.out; omega)
                        simp only [Act.put, List.setIfInBounds_toArray, List.set_cons_zero, List.set_cons_succ]
                        refine wpAnyH_take (i := 6) (oi := { dst := some 200, op := Op.move (Operand.tmp 199), type := 4, pos := "law.go:143", after := #[{ on := 5, ground := Ground.data }], guard := none }) (v := .bool false) rfl (by kernel_rfl) (by kernel_rfl) (by kernel_rfl) (fun _ _ _ h => h) (Or.inl ⟨by rfl, ?_⟩) (SK.out _ tV) ?_
                        · rintro w s0
                          go_simp
                        simp only [Act.put, List.setIfInBounds_toArray, List.set_cons_zero, List.set_cons_succ]
                        refine wpAnyH_take (i := 7) (oi := { dst := some 201, op := Op.move (Operand.tmp 27), type := 3, pos := "law.go:143", after := #[{ on := 6, ground := Ground.guard }], guard := some (6, false) }) (v := .int .i64 (i : Nat)) rfl (by kernel_rfl) (by kernel_rfl) (by kernel_rfl) (fun _ _ _ h => h) (Or.inl ⟨by rfl, ?_⟩) (SK.out _ tV) ?_
                        · rintro w s0
                          go_simp
                        simp only [Act.put, List.setIfInBounds_toArray, List.set_cons_zero, List.set_cons_succ]
                        refine wpAnyH_take (i := 8) (oi := { dst := some 202, op := Op.binOp BinOp.gtr 3 (Operand.tmp 201) (Operand.const (Value.int IntKind.i64 0)) 3, type := 4, pos := "law.go:143", after := #[{ on := 7, ground := Ground.data }, { on := 6, ground := Ground.guard }], guard := some (6, false) }) (v := .bool false) rfl (by kernel_rfl) (by kernel_rfl) (by kernel_rfl) (fun _ _ _ h => h) (Or.inl ⟨by rfl, ?_⟩) (SK.out _ tV) ?_
                        · rintro w s0
                          go_simp; try (have := E1.out; omega)
                        simp only [Act.put, List.setIfInBounds_toArray, List.set_cons_zero, List.set_cons_succ]
                        refine wpAnyH_take (i := 9) (oi := { dst := some 203, op := Op.move (Operand.tmp 202), type := 4, pos := "law.go:143", after := #[{ on := 8, ground := Ground.data }, { on := 6, ground := Ground.chain }, { on := 6, ground := Ground.guard }], guard := some (6, false) }) (v := .bool false) rfl (by kernel_rfl) (by kernel_rfl) (by kernel_rfl) (fun _ _ _ h => h) (Or.inl ⟨by rfl, ?_⟩) (SK.out _ tV) ?_
                        · rintro w s0
                          go_simp
                        simp only [Act.put, List.setIfInBounds_toArray, List.set_cons_zero, List.set_cons_succ]
                        refine wpAnyH_take (i := 10) (oi := { dst := some 204, op := Op.move (Operand.tmp 26), type := 31, pos := "law.go:143", after := #[{ on := 9, ground := Ground.guard }], guard := some (9, true) }) (v := undef) rfl (by kernel_rfl) (by kernel_rfl) (by kernel_rfl) (fun _ _ _ h => h) (Or.inr ⟨by rfl, rfl⟩) (SK.out _ tV) ?_
                        simp only [Act.put, List.setIfInBounds_toArray, List.set_cons_zero, List.set_cons_succ]
                        refine wpAnyH_take (i := 11) (oi := { dst := some 205, op := Op.move (Operand.tmp 26), type := 31, pos := "law.go:143", after := #[{ on := 9, ground := Ground.guard }], guard := some (9, true) }) (v := undef) rfl (by kernel_rfl) (by kernel_rfl) (by kernel_rfl) (fun _ _ _ h => h) (Or.inr ⟨by rfl, rfl⟩) (SK.out _ tV) ?_
                        simp only [Act.put, List.setIfInBounds_toArray, List.set_cons_zero, List.set_cons_succ]
                        refine wpAnyH_take (i := 12) (oi := { dst := some 206, op := Op.call { callee := Callee.builtin Builtin.len, args := #[Operand.tmp 205], argTypes := #[31] }, type := 3, pos := "law.go:143", after := #[{ on := 11, ground := Ground.data }, { on := 9, ground := Ground.guard }], guard := some (9, true) }) (v := undef) rfl (by kernel_rfl) (by kernel_rfl) (by kernel_rfl) (fun _ _ _ h => h) (Or.inr ⟨by rfl, rfl⟩) (SK.out _ tV) ?_
                        simp only [Act.put, List.setIfInBounds_toArray, List.set_cons_zero, List.set_cons_succ]
                        refine wpAnyH_take (i := 13) (oi := { dst := some 207, op := Op.binOp BinOp.sub 3 (Operand.tmp 206) (Operand.const (Value.int IntKind.i64 1)) 3, type := 3, pos := "law.go:143", after := #[{ on := 12, ground := Ground.data }, { on := 9, ground := Ground.guard }], guard := some (9, true) }) (v := undef) rfl (by kernel_rfl) (by kernel_rfl) (by kernel_rfl) (fun _ _ _ h => h) (Or.inr ⟨by rfl, rfl⟩) (SK.out _ tV) ?_
                        simp only [Act.put, List.setIfInBounds_toArray, List.set_cons_zero, List.set_cons_succ]
                        refine wpAnyH_take (i := 14) (oi := { dst := some 208, op := Op.indexAddr 31 (Operand.tmp 204) (Operand.tmp 207), type := 0, pos := "law.go:143", after := #[{ on := 10, ground := Ground.data }, { on := 13, ground := Ground.data }, { on := 9, ground := Ground.guard }], guard := some (9, true) }) (v := undef) rfl (by kernel_rfl) (by kernel_rfl) (by kernel_rfl) (fun _ _ _ h => h) (Or.inr ⟨by rfl, rfl⟩) (SK.out _ tV) ?_
                        simp only [Act.put, List.setIfInBounds_toArray, List.set_cons_zero, List.set_cons_succ]
                        refine wpAnyH_take (i := 15) (oi := { dst := some 209, op := Op.fieldAddr 29 (Operand.tmp 208) 0, type := 0, pos := "law.go:143", after := #[{ on := 14, ground := Ground.data }, { on := 9, ground := Ground.guard }], guard := some (9, true) }) (v := undef) rfl (by kernel_rfl) (by kernel_rfl) (by kernel_rfl) (fun _ _ _ h => h) (Or.inr ⟨by rfl, rfl⟩) (SK.out _ tV) ?_
                        simp only [Act.put, List.setIfInBounds_toArray, List.set_cons_zero, List.set_cons_succ]
                        refine wpAnyH_take (i := 16) (oi := { dst := some 210, op := Op.load 26 (Operand.tmp 209), type := 26, pos := "law.go:143", after := #[{ on := 15, ground := Ground.data }, { on := 9, ground := Ground.guard }], guard := some (9, true) }) (v := undef) rfl (by kernel_rfl) (by kernel_rfl) (by kernel_rfl) (fun _ _ _ h => h) (Or.inr ⟨by rfl, rfl⟩) (SK.out _ tV) ?_
                        simp only [Act.put, List.setIfInBounds_toArray, List.set_cons_zero, List.set_cons_succ]
                        refine wpAnyH_take (i := 17) (oi := { dst := some 211, op := Op.move (Operand.tmp 18), type := 22, pos := "law.go:143", after := #[{ on := 9, ground := Ground.guard }], guard := some (9, true) }) (v := undef) rfl (by kernel_rfl) (by kernel_rfl) (by kernel_rfl) (fun _ _ _ h => h) (Or.inr ⟨by rfl, rfl⟩) (SK.out _ tV) ?_
                        simp only [Act.put, List.setIfInBounds_toArray, List.set_cons_zero, List.set_cons_succ]
                        refine wpAnyH_take (i := 18) (oi := { dst := some 212, op := Op.move (Operand.tmp 27), type := 3, pos := "law.go:143", after := #[{ on := 9, ground := Ground.guard }], guard := some (9, true) }) (v := undef) rfl (by kernel_rfl) (by kernel_rfl) (by kernel_rfl) (fun _ _ _ h => h) (Or.inr ⟨by rfl, rfl⟩) (SK.out _ tV) ?_
                        simp only [Act.put, List.setIfInBounds_toArray, List.set_cons_zero, List.set_cons_succ]
                        refine wpAnyH_take (i := 19) (oi := { dst := some 213, op := Op.indexAddr 22 (Operand.tmp 211) (Operand.tmp 212), type := 0, pos := "law.go:143", after := #[{ on := 17, ground := Ground.data }, { on := 18, ground := Ground.data }, { on := 9, ground := Ground.guard }], guard := some (9, true) }) (v := undef) rfl (by kernel_rfl) (by kernel_rfl) (by kernel_rfl) (fun _ _ _ h => h) (Or.inr ⟨by rfl, rfl⟩) (SK.out _ tV) ?_
                        simp only [Act.put, List.setIfInBounds_toArray, List.set_cons_zero, List.set_cons_succ]
                        refine wpAnyH_take (i := 20) (oi := { dst := some 214, op := Op.load 31 (Operand.tmp 213), type := 31, pos := "law.go:143", after := #[{ on := 19, ground := Ground.data }, { on := 9, ground := Ground.guard }], guard := some (9, true) }) (v := undef) rfl (by kernel_rfl) (by kernel_rfl) (by kernel_rfl) (fun _ _ _ h => h) (Or.inr ⟨by rfl, rfl⟩) (SK.out _ tV) ?_
                        simp only [Act.put, List.setIfInBounds_toArray, List.set_cons_zero, List.set_cons_succ]
                        refine wpAnyH_take (i := 21) (oi := { dst := some 215, op := Op.indexAddr 31 (Operand.tmp 214) (Operand.const (Value.int IntKind.i64 0)), type := 0, pos := "law.go:143", after := #[{ on := 20, ground := Ground.data }, { on := 9, ground := Ground.guard }], guard := some (9, true) }) (v := undef) rfl (by kernel_rfl) (by kernel_rfl) (by kernel_rfl) (fun _ _ _ h => h) (Or.inr ⟨by rfl, rfl⟩) (SK.out _ tV) ?_
                        simp only [Act.put, List.setIfInBounds_toArray, List.set_cons_zero, List.set_cons_succ]
                        refine wpAnyH_take (i := 22) (oi := { dst := some 216, op := Op.fieldAddr 29 (Operand.tmp 215) 0, type := 0, pos := "law.go:143", after := #[{ on := 21, ground := Ground.data }, { on := 9, ground := Ground.guard }], guard := some (9, true) }) (v := undef) rfl (by kernel_rfl) (by kernel_rfl) (by kernel_rfl) (fun _ _ _ h => h) (Or.inr ⟨by rfl, rfl⟩) (SK.out _ tV) ?_
                        simp only [Act.put, List.setIfInBounds_toArray, List.set_cons_zero, List.set_cons_succ]
                        refine wpAnyH_take (i := 23) (oi := { dst := some 217, op := Op.load 26 (Operand.tmp 216), type := 26, pos := "law.go:143", after := #[{ on := 22, ground := Ground.data }, { on := 9, ground := Ground.guard }], guard := some (9, true) }) (v := undef) rfl (by kernel_rfl) (by kernel_rfl) (by kernel_rfl) (fun _ _ _ h => h) (Or.inr ⟨by rfl, rfl⟩) (SK.out _ tV) ?_
                        simp only [Act.put, List.setIfInBounds_toArray, List.set_cons_zero, List.set_cons_succ]
                        refine wpAnyH_take (i := 24) (oi := { dst := some 218, op := Op.call { callee := Callee.value (Operand.func 25), args := #[Operand.tmp 210, Operand.tmp 217], argTypes := #[26, 26] }, type := 4, pos := "law.go:143", after := #[{ on := 16, ground := Ground.data }, { on := 23, ground := Ground.data }, { on := 9, ground := Ground.chain }, { on := 9, ground := Ground.guard }], guard := some (9, true) }) (v := undef) rfl (by kernel_rfl) (by kernel_rfl) (by kernel_rfl) (fun _ _ _ h => h) (Or.inr ⟨by rfl, rfl⟩) (SK.out _ tV) ?_
                        simp only [Act.put, List.setIfInBounds_toArray, List.set_cons_zero, List.set_cons_succ]
                        refine wpAnyH_take (i := 25) (oi := { dst := some 219, op := Op.pick (Operand.tmp 203) (Operand.tmp 218) (Operand.const (Value.bool false)), type := 4, pos := "law.go:143", after := #[{ on := 9, ground := Ground.data }, { on := 24, ground := Ground.data }, { on := 6, ground := Ground.guard }], guard := some (6, false) }) (v := .bool false) rfl (by kernel_rfl) (by kernel_rfl) (by kernel_rfl) (fun _ _ _ h => h) (Or.inl ⟨by rfl, ?_⟩) (SK.out _ tV) ?_
                        · rintro w s0
                          go_simp
                        simp only [Act.put, List.setIfInBounds_toArray, List.set_cons_zero, List.set_cons_succ]
                        refine wpAnyH_take (i := 26) (oi := { dst := some 220, op := Op.pick (Operand.tmp 200) (Operand.const (Value.bool true)) (Operand.tmp 219), type := 4, pos := "law.go:143", after := #[{ on := 6, ground := Ground.data }, { on := 25, ground := Ground.data }], guard := none }) (v := .bool false) rfl (by kernel_rfl) (by kernel_rfl) (by kernel_rfl) (fun _ _ _ h => h) (Or.inl ⟨by rfl, ?_⟩) (SK.out _ tV) ?_
                        · rintro w s0
                          go_simp
                        simp only [Act.put, List.setIfInBounds_toArray, List.set_cons_zero, List.set_cons_succ]
                        refine wpAnyH_take (i := 27) (oi := { dst := some 221, op := Op.move (Operand.tmp 220), type := 4, pos := "law.go:143", after := #[{ on := 26, ground := Ground.data }, { on := 24, ground := Ground.chain }], guard := none }) (v := .bool false) rfl (by kernel_rfl) (by kernel_rfl) (by kernel_rfl) (fun _ _ _ h => h) (Or.inl ⟨by rfl, ?_⟩) (SK.out _ tV) ?_
                        · rintro w s0
                          go_simp
                        simp only [Act.put, List.setIfInBounds_toArray, List.set_cons_zero, List.set_cons_succ]
                        refine wpAnyH_take (i := 28) (oi := { dst := some 222, op := Op.move (Operand.tmp 27), type := 3, pos := "law.go:143", after := #[{ on := 27, ground := Ground.guard }], guard := some (27, false) }) (v := .int .i64 (i : Nat)) rfl (by kernel_rfl) (by kernel_rfl) (by kernel_rfl) (fun _ _ _ h => h) (Or.inl ⟨by rfl, ?_⟩) (SK.out _ tV) ?_
                        · rintro w s0
                          go_simp
                        simp only [Act.put, List.setIfInBounds_toArray, List.set_cons_zero, List.set_cons_succ]
                        refine wpAnyH_take (i := 29) (oi := { dst := some 223, op := Op.move (Operand.tmp 18), type := 22, pos := "law.go:143", after := #[{ on := 27, ground := Ground.guard }], guard := some (27, false) }) (v := .slice (some ⟨gf, 0, none⟩) ps.length cf) rfl (by kernel_rfl) (by kernel_rfl) (by kernel_rfl) (fun _ _ _ h => h) (Or.inl ⟨by rfl, ?_⟩) (SK.out _ tV) ?_
                        · rintro w s0
                          go_simp
                        simp only [Act.put, List.setIfInBounds_toArray, List.set_cons_zero, List.set_cons_succ]
                        refine wpAnyH_take (i := 30) (oi := { dst := some 224, op := Op.call { callee := Callee.builtin Builtin.len, args := #[Operand.tmp 223], argTypes := #[22] }, type := 3, pos := "law.go:143", after := #[{ on := 29, ground := Ground.data }, { on := 27, ground := Ground.guard }], guard := some (27, false) }) (v := .int .i64 (ps.length : Nat)) rfl (by kernel_rfl) (by kernel_rfl) (by kernel_rfl) (fun _ _ _ h => h) (Or.inl ⟨by rfl, ?_⟩) (SK.out _ tV) ?_
                        · rintro w s0
                          go_simp
                        simp only [Act.put, List.setIfInBounds_toArray, List.set_cons_zero, List.set_cons_succ]
                        refine wpAnyH_take (i := 31) (oi := { dst := some 225, op := Op.binOp BinOp.sub 3 (Operand.tmp 224) (Operand.const (Value.int IntKind.i64 1)) 3, type := 3, pos := "law.go:143", after := #[{ on := 30, ground := Ground.data }, { on := 27, ground := Ground.guard }], guard := some (27, false) }) (v := .int .i64 ((ps.length : Int) - 1)) rfl (by kernel_rfl) (by kernel_rfl) (by kernel_rfl) (fun _ _ _ h => h) (Or.inl ⟨by rfl, ?_⟩) (SK.out _ tV) ?_
                        · rintro w s0
                          go_simp; exact wrapI _ (by omega) (by omega)
                        simp only [Act.put, List.setIfInBounds_toArray, List.set_cons_zero, List.set_cons_succ]
                        refine wpAnyH_take (i := 32) (oi := { dst := some 226, op := Op.binOp BinOp.lss 3 (Operand.tmp 222) (Operand.tmp 225) 3, type := 4, pos := "law.go:143", after := #[{ on := 28, ground := Ground.data }, { on := 31, ground := Ground.data }, { on := 27, ground := Ground.guard }], guard := some (27, false) }) (v := .bool false) rfl (by kernel_rfl) (by kernel_rfl) (by kernel_rfl) (fun _ _ _ h => h) (Or.inl ⟨by rfl, ?_⟩) (SK.out _ tV) ?_
                        · rintro w s0
                          go_simp; try (have := E2.out; omega)
                        simp only [Act.put, List.setIfInBounds_toArray, List.set_cons_zero, List.set_cons_succ]
                        refine wpAnyH_take (i := 33) (oi := { dst := some 227, op := Op.move (Operand.tmp 226), type := 4, pos := "law.go:143", after := #[{ on := 32, ground := Ground.data }, { on := 27, ground := Ground.chain }, { on := 27, ground := Ground.guard }], guard := some (27, false) }) (v := .bool false) rfl (by kernel_rfl) (by kernel_rfl) (by kernel_rfl) (fun _ _ _ h => h) (Or.inl ⟨by rfl, ?_⟩) (SK.out _ tV) ?_
                        · rintro w s0
                          go_simp
                        simp only [Act.put, List.setIfInBounds_toArray, List.set_cons_zero, List.set_cons_succ]
                        refine wpAnyH_take (i := 34) (oi := { dst := some 228, op := Op.move (Operand.tmp 18), type := 22, pos := "law.go:143", after := #[{ on := 33, ground := Ground.guard }], guard := some (33, true) }) (v := undef) rfl (by kernel_rfl) (by kernel_rfl) (by kernel_rfl) (fun _ _ _ h => h) (Or.inr ⟨by rfl, rfl⟩) (SK.out _ tV) ?_
                        simp only [Act.put, List.setIfInBounds_toArray, List.set_cons_zero, List.set_cons_succ]
                        refine wpAnyH_take (i := 35) (oi := { dst := some 229, op := Op.move (Operand.tmp 27), type := 3, pos := "law.go:143", after := #[{ on := 33, ground := Ground.guard }], guard := some (33, true) }) (v := undef) rfl (by kernel_rfl) (by kernel_rfl) (by kernel_rfl) (fun _ _ _ h => h) (Or.inr ⟨by rfl, rfl⟩) (SK.out _ tV) ?_
                        simp only [Act.put, List.setIfInBounds_toArray, List.set_cons_zero, List.set_cons_succ]
                        refine wpAnyH_take (i := 36) (oi := { dst := some 230, op := Op.indexAddr 22 (Operand.tmp 228) (Operand.tmp 229), type := 0, pos := "law.go:143", after := #[{ on := 34, ground := Ground.data }, { on := 35, ground := Ground.data }, { on := 33, ground := Ground.guard }], guard := some (33, true) }) (v := undef) rfl (by kernel_rfl) (by kernel_rfl) (by kernel_rfl) (fun _ _ _ h => h) (Or.inr ⟨by rfl, rfl⟩) (SK.out _ tV) ?_
                        simp only [Act.put, List.setIfInBounds_toArray, List.set_cons_zero, List.set_cons_succ]
                        refine wpAnyH_take (i := 37) (oi := { dst := some 231, op := Op.load 31 (Operand.tmp 230), type := 31, pos := "law.go:143", after := #[{ on := 36, ground := Ground.data }, { on := 33, ground := Ground.guard }], guard := some (33, true) }) (v := undef) rfl (by kernel_rfl) (by kernel_rfl) (by kernel_rfl) (fun _ _ _ h => h) (Or.inr ⟨by rfl, rfl⟩) (SK.out _ tV) ?_
                        simp only [Act.put, List.setIfInBounds_toArray, List.set_cons_zero, List.set_cons_succ]
                        refine wpAnyH_take (i := 38) (oi := { dst := some 232, op := Op.call { callee := Callee.value (Operand.func 26), args := #[Operand.tmp 231], argTypes := #[31] }, type := 3, pos := "law.go:143", after := #[{ on := 37, ground := Ground.data }, { on := 33, ground := Ground.chain }, { on := 33, ground := Ground.guard }], guard := some (33, true) }) (v := undef) rfl (by kernel_rfl) (by kernel_rfl) (by kernel_rfl) (fun _ _ _ h => h) (Or.inr ⟨by rfl, rfl⟩) (SK.out _ tV) ?_
                        simp only [Act.put, List.setIfInBounds_toArray, List.set_cons_zero, List.set_cons_succ]
                        refine wpAnyH_take (i := 39) (oi := { dst := some 233, op := Op.move (Operand.tmp 3), type := 3, pos := "law.go:143", after := #[{ on := 33, ground := Ground.guard }], guard := some (33, true) }) (v := undef) rfl (by kernel_rfl) (by kernel_rfl) (by kernel_rfl) (fun _ _ _ h => h) (Or.inr ⟨by rfl, rfl⟩) (SK.out _ tV) ?_
                        simp only [Act.put, List.setIfInBounds_toArray, List.set_cons_zero, List.set_cons_succ]
                        refine wpAnyH_take (i := 40) (oi := { dst := some 234, op := Op.binOp BinOp.lss 3 (Operand.tmp 232) (Operand.tmp 233) 3, type := 4, pos := "law.go:143", after := #[{ on := 38, ground := Ground.data }, { on := 39, ground := Ground.data }, { on := 33, ground := Ground.guard }], guard := some (33, true) }) (v := undef) rfl (by kernel_rfl) (by kernel_rfl) (by kernel_rfl) (fun _ _ _ h => h) (Or.inr ⟨by rfl, rfl⟩) (SK.out _ tV) ?_
                        simp only [Act.put, List.setIfInBounds_toArray, List.set_cons_zero, List.set_cons_succ]
                        refine wpAnyH_take (i := 41) (oi := { dst := some 235, op := Op.pick (Operand.tmp 227) (Operand.tmp 234) (Operand.const (Value.bool false)), type := 4, pos := "law.go:143", after := #[{ on := 33, ground := Ground.data }, { on := 40, ground := Ground.data }, { on := 27, ground := Ground.guard }], guard := some (27, false) }) (v := .bool false) rfl (by kernel_rfl) (by kernel_rfl) (by kernel_rfl) (fun _ _ _ h => h) (Or.inl ⟨by rfl, ?_⟩) (SK.out _ tV) ?_
                        · rintro w s0
                          go_simp
                        simp only [Act.put, List.setIfInBounds_toArray, List.set_cons_zero, List.set_cons_succ]
                        refine wpAnyH_take (i := 42) (oi := { dst := some 236, op := Op.pick (Operand.tmp 221) (Operand.const (Value.bool true)) (Operand.tmp 235), type := 4, pos := "law.go:143", after := #[{ on := 27, ground := Ground.data }, { on := 41, ground := Ground.data }], guard := none }) (v := .bool false) rfl (by kernel_rfl) (by kernel_rfl) (by kernel_rfl) (fun _ _ _ h => h) (Or.inl ⟨by rfl, ?_⟩) (SK.out _ tV) ?_
                        · rintro w s0
                          go_simp
                        simp only [Act.put, List.setIfInBounds_toArray, List.set_cons_zero, List.set_cons_succ]
                        refine wpAnyH_done (by kernel_rfl) ?_ _
                        have TU := hide tV
                        clear tV
                        go_wp2_with fail
                        go_meet
                        exact ⟨rfl, rfl, TU.out⟩
                  case rest =>
                    obtain ⟨rfl, rfl, tc⟩ := hcut
                    have UC := hide (HTJ4.out.trans tc)
                    have HJC := hide (HJR.out.keep tc (fun _ _ x => x))
                    have yc := HCF.out _ UC.out
                    clear tc
                    obtain ⟨g', n', c', wz, hr, hez, hbz, _⟩ := append_es wc we.heap.size (.slice ja J.length jc) J pR (some ⟨gp, op, none⟩) pc HJC.out UC.out.size (HPE.out.quiet UC.out) (by have := HPL.out; omega) (by have := HPL.out; omega)
                    rw [HPL.out] at hr
                    have HF := hide (show ERow wz we.heap.size (.slice (some ⟨g', 0, none⟩) n' c') (J ++ pR) ∧ (∀ x, x ∈ J ++ pR → Bytes we x.kv x.e.key ∧ Bytes we x.vv x.e.val) ∧ ents (J ++ pR) = ((cutE t L).take (i + 1)).flatten ∧ Turns (fun _ => False) we wz from ⟨hez, fun x hx => by
                      rcases List.mem_append.1 hx with hx | hx
                      · exact HJB.out x hx
                      · obtain ⟨q, hq⟩ := List.getElem?_of_mem hx
                        have := (HPE.out q x hq).2
                        exact this, by rw [HFLAT.out, ← HJE.out]; unfold ents; rw [List.map_append], Turns.of_below ((UC.out.below (Nat.le_refl _) (fun _ x => x.elim)).trans hbz) _⟩)
                    have HQQ := hide hr
                    clear hr hez hbz
                    go_wp2_with (at_builtin; refine wpList_append_run rfl _ _ 31 rfl _ _ rfl rfl _ _ (HQQ.out _) ?_)
                    go_roundw
                    case rel => exact ⟨i + 1, J ++ pR, by go_num, by omega, HF.out⟩
                    case measure => (simp [intOf]; try omega)
                · obtain rfl : i = ps.length := by omega
                  have hfl : ents J = L := by
                    rw [HJE.out, List.take_of_length_le (by rw [← HENT.out]; simp [entR]), cutE_flat]
                  have hjq : J.map (·.e) = Q1.map (·.e) := hfl.trans HES1.out.symm
                  have hjl2 : Q1.length = J.length := by
                    have := congrArg List.length hjq
                    simpa using this.symm
                  obtain ⟨ja2, jc2, ej, henj, _, _⟩ := ents_row HJR.out fun x hx => ⟨(HJB.out x hx).1.quiet HTJ4.out, (HJB.out x hx).2.quiet HTJ4.out⟩
                  injection ej with q1 q2 q3
                  subst q1 q3
                  have ES := hide (entries_same ja a1 J.length jc c1 J Q1 wr henj (HENE.out.quiet HTJ4.out) hjq rfl (by omega) (fun x hx => by
                    have h1 : x.e ∈ ents J := List.mem_map.2 ⟨x, hx, rfl⟩
                    rw [hfl] at h1
                    have := HLQ.out.each x.e h1
                    omega))
                  rw [hjl2]
                  have FIN := hide (HT.out.trans (HTJ.out.trans (XE.out.trans HTJ4.out)))
                  clear hfl hjq hjl2 henj q2
                  go_wp2_with fail
                  refine ES.out.mono ?_
                  rintro e z9 ⟨rfl, bz⟩
                  have FIN2 := hide (FIN.out.trans (Turns.of_below bz (fun _ => False)))
                  clear bz FIN ES
                  go_wp2_with fail
                  go_ret
                  exact ⟨rfl, FIN2.out⟩
end Go.Proofs.Ytpgligfolecieaa
