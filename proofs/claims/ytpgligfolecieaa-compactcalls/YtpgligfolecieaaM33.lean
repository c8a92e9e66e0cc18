import Derived.Test.YtpgligfolecieaaM32
import Derived.Test.YtpgligfolecieaaM17
/-
  CompactCalls: the whole of the law.
-/
namespace Go.Proofs.Ytpgligfolecieaa
open Go.RowKit
set_option maxRecDepth 100000
set_option maxHeartbeats 8000000
structure Car (w : World) (a la : Option Addr) (rs : List Rw) (ks : List Nat) : Prop where
  rows : RowsIn w a rs
  looks : U64s w la ks
theorem Car.quiet {w w' : World} {a la : Option Addr} {rs : List Rw} {ks : List Nat} (h : Car w a la rs ks) (t : Turns (fun _ => False) w w') : Car w' a la rs ks := ⟨h.rows.quiet t, h.looks.quiet t⟩
theorem neq23 (q : Int) (w : World) : (binOp .neq 23 (.int .i64 q) (.int .i64 q)).run Try.prog w = .ok (.bool false) w := by
  have : (binOp .neq 23 (.int .i64 q) (.int .i64 q)).run Try.prog w = .ok (.bool (!(q == q))) w := by kernel_rfl
  rw [this]
  simp
theorem neq4 (q : Bool) (w : World) : (binOp .neq 4 (.bool q) (.bool q)).run Try.prog w = .ok (.bool false) w := by
  cases q <;> kernel_rfl
theorem run_form {w w' : World} {rs : List Rw} {ks : List Nat} {bot : Bool} {t : Int} {e : Ending} (h : RunOk w w' rs ks bot t e) : ∃ (v : Value) (q : Int), e = .returned (.tuple #[v, .int .i64 q]) := by
  rcases h with ⟨_, e⟩ | ⟨_, v, xs, e, _⟩
  · exact ⟨_, _, e⟩
  · exact ⟨_, _, e⟩
theorem runR_form {w w' : World} {rs : List Rw} {ks : List Nat} {bot ok : Bool} {t : Int} {e : Ending} (h : RunOkR w w' rs ks bot t ok e) : ∃ (v : Value) (q : Int), e = .returned (.tuple #[v, .int .i64 q]) := by
  rcases h with ⟨_, e⟩ | ⟨_, v, xs, e, _⟩
  · exact ⟨_, _, e⟩
  · exact ⟨_, _, e⟩
theorem row_form {w w' : World} {ok : Bool} {es : List Ent} {e : Ending} (h : RowOk w w' ok es e) : ∃ (v : Value) (q : Int), e = .returned (.tuple #[v, .int .i64 q]) := by
  rcases h with ⟨_, e⟩ | ⟨_, a, n, c, Q, e, _⟩
  · exact ⟨_, _, e⟩
  · exact ⟨_, _, e⟩
theorem rowR_form {w w' : World} {l : List Tow} {ok : Bool} {es : List Ent} {e : Ending} (h : RRowR w w' l es ok e) : ∃ (v : Value) (q : Int), e = .returned (.tuple #[v, .int .i64 q]) := by
  rcases h with ⟨_, e⟩ | ⟨_, v, Q, e, _⟩
  · exact ⟨_, _, e⟩
  · exact ⟨_, _, e⟩
theorem cut_form {w w' : World} {ok : Bool} {es : List (List Ent)} {e : Ending} (h : CutOk w w' ok es e) : ∃ (v : Value) (q : Int), e = .returned (.tuple #[v, .int .i64 q]) := by
  rcases h with ⟨_, e⟩ | ⟨_, v, e, _⟩
  · exact ⟨_, _, e⟩
  · exact ⟨_, _, e⟩
theorem cutR_form {w w' : World} {ok : Bool} {es : List (List Ent)} {e : Ending} (h : CutOkR w w' ok es e) : ∃ (v : Value) (q : Int), e = .returned (.tuple #[v, .int .i64 q]) := by
  rcases h with ⟨_, e⟩ | ⟨_, v, e, _⟩
  · exact ⟨_, _, e⟩
  · exact ⟨_, _, e⟩
theorem seen_form {w : World} {n : Nat} {ok : Bool} {bs : List Bool} {e : Ending} (h : SeenOk w n ok bs e) : ∃ (v : Value) (q : Int), e = .returned (.tuple #[v, .int .i64 q]) := by
  rcases h with ⟨_, e⟩ | ⟨_, v, e, _⟩
  · exact ⟨_, _, e⟩
  · exact ⟨_, _, e⟩
theorem few_one {rs : List Rw} (hf : Few rs) {x : Rw} (hx : x ∈ rs) : x.R.length ≤ 1000 ∧ (∀ y, y ∈ x.R → y.e.key.length ≤ 1000000 ∧ y.e.val.length ≤ 1000000) ∧ sizeEs (ents x.R) ≤ 1000000000000 := by
  obtain ⟨h1, h2⟩ := hf.each x hx
  refine ⟨by omega, fun y hy => by have := h2 y hy; omega, ?_⟩
  have key : ∀ l : List Tow, (∀ y, y ∈ l → y.e.key.length ≤ 15000 ∧ y.e.val.length ≤ 15000) → sizeEs (ents l) ≤ l.length * 31000 := fun l => by
    induction l with
    | nil => intro _; simp [sizeEs, ents]
    | cons z r ih =>
      intro hh
      have i1 := ih fun y hy => hh y (List.mem_cons_of_mem _ hy)
      have i2 := hh z List.mem_cons_self
      have e : ents (z :: r) = z.e :: ents r := rfl
      unfold sizeEs at i1 ⊢
      rw [e, List.map_cons, List.sum_cons, List.length_cons, Nat.add_mul]
      unfold sizE at i1 ⊢
      omega
  have := key x.R h2
  omega
theorem calls_any (a la : Option Addr) (n c ln lc : Nat) (rs : List Rw) (ks : List Nat) (bot : Bool) (t : Int) (w : World) (h : RowsOf w a rs) (hn : n = rs.length) (hmx : n ≤ reachBytes) (hk : U64s w la ks) (hkn : ln = ks.length) (hlc : ln ≤ lc) (hlm : ln ≤ reachBytes) :
    Calls Try.prog 4 #[.slice a n c, .slice la ln lc, .bool bot, .int .i64 t] w fun e w' => e = .returned (.bool true) ∧ Below w.heap.size w w' := by
  have H0 := hide h
  have HN := hide hn
  have HMX := hide hmx
  have HK := hide hk
  have HKN := hide hkn
  have HLM := hide hlm
  clear h hn hmx hk hkn hlm
  go_enter Try.func4, Try.ntmps4
  go_wp2_with fail
  refine (lives_any w).mono ?_
  rintro e w1 ⟨rfl, t1⟩
  have T1 := hide t1
  have SM := hide (small_any2 a la n c ln lc rs w1 (fun k x hx => ⟨by obtain ⟨b, off, e, hc⟩ := (H0.out k x hx).1; exact ⟨b, off, e, T1.out.cell hc (fun x => x)⟩, ⟨(H0.out k x hx).2.ents.quiet T1.out, (H0.out k x hx).2.cap, (H0.out k x hx).2.reach, (H0.out k x hx).2.fit, (H0.out k x hx).2.nil⟩⟩) HN.out HMX.out HLM.out)
  clear t1
  go_wp2_with fail
  refine SM.out.mono ?_
  rintro e w2 ⟨⟨d, rfl, hd⟩, t2⟩
  have T2 := hide (T1.out.trans t2)
  clear t2 SM T1
  cases d with
  | false =>
    clear hd
    go_wp2_with fail
    go_ret
    exact ⟨rfl, T2.out.below (Nat.le_refl _) (fun _ x => x.elim)⟩
  | true =>
    have FEW := hide (show Few rs from ⟨(hd rfl).1, (hd rfl).2.1, (hd rfl).2.2.1⟩)
    have hln : ln ≤ 150 := (hd rfl).2.2.2
    have hni : n ≤ 20 := by have := FEW.out.rows; have := HN.out; omega
    have CA := hide (show Car w2 a la rs ks from (⟨few_rows H0.out FEW.out, HK.out⟩ : Car w a la rs ks).quiet T2.out)
    have N23 := hide neq23
    have N4 := hide neq4
    clear hd
    go_wp2_with fail
    refine (Run_any a la n c ln lc rs ks bot t w2 CA.out.rows HN.out (few_fine FEW.out) CA.out.looks HKN.out hlc (by omega) (few_mg FEW.out)).mono ?_
    rintro e3 w3 ⟨hr3, t3⟩
    obtain ⟨v3, q3, rfl⟩ := run_form hr3
    have T3 := hide (T2.out.trans t3)
    have R3 := hide hr3
    have CA3 := hide (CA.out.quiet t3)
    clear hr3 t3
    go_wp2_with fail
    refine (rRun_any a la n c ln lc rs ks bot t w3 CA3.out.rows HN.out FEW.out CA3.out.looks HKN.out (by omega) (few_mg FEW.out)).mono ?_
    rintro e4 w4 ⟨hr4, t4⟩
    obtain ⟨v4, q4, rfl⟩ := runR_form hr4
    obtain ⟨v5, v6, q5, es, he, he', hf, hf', hsh⟩ := run_both CA3.out.rows FEW.out R3.out hr4
    cases he
    cases he'
    have T4 := hide (T3.out.trans t4)
    have CA4 := hide (CA3.out.quiet t4)
    have LS := hide (lists_any v3 v4 _ _ es w4 (hf.quiet t4) hf' hsh)
    clear hr4 t4 hf hf' hsh R3 CA3 CA T2 T3
    go_wp2_with fail
    refine LS.out.mono ?_
    rintro e w5 ⟨rfl, t5⟩
    have T5 := hide (T4.out.trans t5)
    have CA5 := hide (CA4.out.quiet t5)
    clear t5 LS CA4 T4
    have n1 := N23.out q3
    go_wp2_with fail
    clear n1
    go_loopw [13] (fun iv wr => ∃ i : Nat, iv = .int .i64 (i : Nat) ∧ i ≤ n ∧ Turns (fun _ => False) w5 wr) (fun iv _ => n - (intOf iv).toNat)
    case atStart => exact ⟨0, rfl, Nat.zero_le _, Turns.refl _ _⟩
    case round =>
      obtain ⟨i, rfl, hi, ht⟩ := hrel
      have HT := hide ht
      clear ht
      by_cases hin : i < n
      · obtain ⟨x, hx⟩ : ∃ x, rs[i]? = some x := ⟨_, List.getElem?_eq_getElem (by have := HN.out; omega)⟩
        obtain ⟨⟨b, off, rfl, hc⟩, hok⟩ := (CA5.out.quiet HT.out).rows i x hx
        have HONE := hide (few_one FEW.out (List.mem_of_getElem? hx))
        have HLK := hide ((CA5.out.quiet HT.out).looks)
        have HEN := hide hok.ents
        have HCAP := hide hok.cap
        have HCELL := hide (fun (u : World) (tt : Turns (fun _ => False) wr u) => tt.cell hc (fun x => x))
        have c0 := hc
        have i1 : (i : Int) < n := by omega
        have i0 : (0 : Int) ≤ (i : Int) := by omega
        clear hx hok hc
        obtain ⟨xa, xc, xR⟩ := x
        simp only at HONE HEN HCAP HCELL c0
        obtain ⟨xl, hxl⟩ : ∃ m, xR.length = m := ⟨_, rfl⟩
        rw [hxl] at HCAP HCELL c0
        have HXL := hide hxl.symm
        have hxm : xl ≤ 1000 := by rw [← hxl]; exact HONE.out.1
        clear hxl
        have OW := hide (ownEntries_any xa xl xc xR wr HEN.out HXL.out (by have := HXL.out; have := HONE.out.1; omega) HONE.out.2.1)
        have HKX := hide (show ∀ y, y ∈ xR → y.e.key.length ≤ 1000000 from fun y hy => (HONE.out.2.1 y hy).1)
        go_wp2_with fail
        refine OW.out.mono ?_
        rintro e w6 ⟨v, rfl, R0, hE, hS, hm, _, b6⟩
        obtain ⟨a6, c6, rfl, hen6, _⟩ := ents_of hE hS
        have hl6 : R0.length = xl := by
          have h1 := congrArg List.length hm
          simp only [List.length_map] at h1
          have := HXL.out
          omega
        rw [hl6]
        have HL6 := hide hl6.symm
        have EQ0 := hide (show ents R0 = ents xR from hm)
        have HS0 := hide (show ∀ y, y ∈ R0 → y.e.key.length ≤ 1000000 ∧ y.e.val.length ≤ 1000000 from fun y hy => by
          have h1 : y.e ∈ ents R0 := List.mem_map.2 ⟨y, hy, rfl⟩
          rw [EQ0.out] at h1
          obtain ⟨z, hz, e⟩ := List.mem_map.1 h1
          have h2 := HONE.out.2.1 z hz
          have e2 : z.e = y.e := e
          rwa [e2] at h2)
        have U6 := hide (Turns.of_below b6 (fun _ => False))
        have HE6 := hide hen6
        clear hE hS hm b6 hen6 hl6 OW c0
        go_wp2_with fail
        refine (Row_any a6 la xl c6 ln lc R0 ks bot w6 HE6.out HL6.out (by omega) HS0.out (HLK.out.quiet U6.out) HKN.out hlc (by omega)).mono ?_
        rintro e7 w7 ⟨h7, t7⟩
        obtain ⟨v7, q7, rfl⟩ := row_form h7
        have R7 := hide h7
        have U7 := hide (U6.out.trans t7)
        have HE7 := hide (HE6.out.quiet t7)
        have c7 := HCELL.out w7 U7.out
        clear h7 t7 HE6 U6
        go_wp2_with fail
        refine (rRow_any xa la xl xc ln lc xR ks bot w7 (HEN.out.quiet U7.out) HXL.out (by omega) HKX.out (HLK.out.quiet U7.out) HKN.out (by omega)).mono ?_
        rintro e8 w8 ⟨h8, t8⟩
        obtain ⟨v8, q8, rfl⟩ := rowR_form h8
        have U8 := hide (U7.out.trans t8)
        obtain ⟨qa, qa', qn, qc, qc', Q, Q', q, he, he', hQ, hQ', hqn, hqm, hql, hqs⟩ := row_both EQ0.out (HEN.out.quiet U8.out) (by have := HXL.out; omega) HONE.out.2.1 R7.out h8
        cases he
        cases he'
        have HQ := hide (hQ.quiet t8)
        have HQ' := hide hQ'
        have HQN := hide hqn
        have HQM := hide hqm
        have HQS := hide hqs
        have HE8 := hide (HE7.out.quiet t8)
        clear h8 t8 R7 HE7 U7 c7 hQ hQ' hqn hqm hqs
        go_wp2_with fail
        refine (Cut_any a6 xl c6 t R0 w8 HE8.out HL6.out (by omega) HS0.out (by rw [EQ0.out]; exact HONE.out.2.2)).mono ?_
        rintro e9 w9 ⟨h9, t9⟩
        obtain ⟨v9, q9, rfl⟩ := cut_form h9
        have R9 := hide h9
        have U9 := hide (U8.out.trans t9)
        have HE9 := hide (HE8.out.quiet t9)
        have HQ9 := hide (HQ.out.quiet t9)
        have HQ9' := hide (HQ'.out.quiet t9)
        have c9 := HCELL.out w9 U9.out
        clear h9 t9 HE8 U8 HQ HQ'
        go_wp2_with fail
        refine (rCut_any xa xl xc t xR w9 (HEN.out.quiet U9.out) HXL.out HCAP.out (by omega) HKX.out HONE.out.2.2).mono ?_
        rintro ea wa ⟨ha, ta⟩
        obtain ⟨va, qz, rfl⟩ := cutR_form ha
        have UA := hide (U9.out.trans ta)
        obtain ⟨v1, v1', q1, es1, he, he', hF, hF', hsh⟩ := cut_both EQ0.out (by have := HXL.out; omega) HONE.out.2.1 R9.out ha
        cases he
        cases he'
        have FA := hide (hF.quiet ta)
        have FA' := hide hF'
        have SH := hide hsh
        have HEA := hide (HE9.out.quiet ta)
        have HQA := hide (HQ9.out.quiet ta)
        have HQA' := hide (HQ9'.out.quiet ta)
        clear ha ta R9 HE9 U9 c9 HQ9 HQ9' hF hF' hsh
        go_wp2_with fail
        refine (Visible_any a6 la xl c6 ln lc R0 ks wa HEA.out HL6.out (by omega) (HLK.out.quiet UA.out) HKN.out hlc (by omega)).mono ?_
        rintro eb wb ⟨hb, tb⟩
        obtain ⟨vb, qb, rfl⟩ := seen_form hb
        have RB := hide hb
        have UB := hide (UA.out.trans tb)
        have FB := hide (FA.out.quiet tb)
        have FB' := hide (FA'.out.quiet tb)
        have HQB := hide (HQA.out.quiet tb)
        have HQB' := hide (HQA'.out.quiet tb)
        have cb := HCELL.out wb UB.out
        clear hb tb HEA UA FA FA' HQA HQA'
        go_wp2_with fail
        refine (rVisible_any xa la xl xc ln lc xR ks wb (HEN.out.quiet UB.out) HXL.out (by omega) HKX.out (HLK.out.quiet UB.out) HKN.out (by omega)).mono ?_
        rintro ec wc ⟨hc, tc⟩
        obtain ⟨vc, qv, rfl⟩ := seen_form hc
        have UC := hide (UB.out.trans tc)
        obtain ⟨za, za', zn, zs, q2, he, he', hB, hB', hzn, hzl⟩ := seen_both EQ0.out HXL.out (by
          exact RB.out) hc
        cases he
        cases he'
        have ES := hide (entries_same qa qa' qn qc qc' Q Q' wc (HQB.out.quiet tc) (HQB'.out.quiet tc) HQM.out HQN.out hql HQS.out)
        have FC := hide (FB.out.quiet tc)
        have FC' := hide (FB'.out.quiet tc)
        have BVC := hide (hB.quiet tc)
        have BVC' := hide hB'
        have HZN := hide hzn
        clear hc tc cb RB UB FB FB' HQB HQB' hB hB' hzn
        go_wp2_with fail
        refine ES.out.mono ?_
        rintro e wd ⟨rfl, bd⟩
        have td := Turns.of_below bd (fun _ => False)
        have UD := hide (UC.out.trans td)
        have LD := hide (lists_any v9 va _ _ es1 wd (FC.out.quiet td) (FC'.out.quiet td) SH.out)
        have BVD := hide (BVC.out.quiet td)
        have BVD' := hide (BVC'.out.quiet td)
        have n1 := N23.out q7
        clear bd td ES FC FC' BVC BVC' UC
        go_wp2_with fail
        refine LD.out.mono ?_
        rintro e we ⟨rfl, te⟩
        have UE := hide (UD.out.trans te)
        have BVE := hide (BVD.out.quiet te)
        have BVE' := hide (BVD'.out.quiet te)
        have n2 := N23.out q9
        have n3 := N23.out qb
        clear te LD BVD BVD' UD n1
        go_wp2_with fail
        clear n2 n3
        have hzm : zn ≤ 1000 := by omega
        go_loopw [27] (fun uv ws => ∃ k : Nat, uv = .int .i64 (k : Nat) ∧ k ≤ zn ∧ Turns (fun _ => False) we ws) (fun uv _ => zn - (intOf uv).toNat)
        case atStart => exact ⟨0, rfl, Nat.zero_le _, Turns.refl _ _⟩
        case round =>
          rename_i ws
          obtain ⟨k, rfl, hk, htk⟩ := hrel
          have HTK := hide htk
          clear htk
          by_cases hkz : k < zn
          · obtain ⟨bv, hbv⟩ : ∃ b, zs[k]? = some b := ⟨_, List.getElem?_eq_getElem (by have := HZN.out; omega)⟩
            obtain ⟨g, rfl, hg⟩ := (BVE.out.quiet HTK.out) k bv hbv
            obtain ⟨g', rfl, hg'⟩ := (BVE'.out.quiet HTK.out) k bv hbv
            have i2 : (k : Int) < zn := by omega
            have i3 : (0 : Int) ≤ (k : Int) := by omega
            have n4 := N4.out bv
            clear hbv
            go_wp2_with fail
            go_quiet (fail)
            go_wp2_with fail
            go_roundw
            case rel => exact ⟨k + 1, by go_num, by omega, HTK.out.trans ((Turns.refl _ _).drewN _)⟩
            case measure => (simp [intOf]; try omega)
          · obtain rfl : k = zn := by omega
            have i2 : ¬ (k : Int) < k := by omega
            go_wp2_with fail
            go_roundw
            case rel => exact ⟨i + 1, by go_num, by omega, (HT.out.trans UE.out).trans HTK.out⟩
            case measure => (simp [intOf]; try omega)
      · obtain rfl : i = n := by omega
        go_wp2_with fail
        go_ret
        exact ⟨rfl, (T5.out.trans HT.out).below (Nat.le_refl _) (fun _ x => x.elim)⟩
end Go.Proofs.Ytpgligfolecieaa
