import Derived.Test.YtpgligfolecieaaM32
import Derived.Test.YtpgligfolecieaaM17
import Derived.Test.YtpgligfolecieaaM21
import Derived.Test.YtpgligfolecieaaM20
/-
  CompactCalls: the whole of the law.
-/
namespace Go.Proofs.Ytpgligfolecieaa
open Go.RowKit
set_option maxRecDepth 100000
set_option maxHeartbeats 8000000
structure Car (w : World) (a la : Option Addr) (rs : List Rw) (ks : List Nat) : Prop where
  rows : RowsIn w a rs
  looks : U64s w la ks
theorem Car.quiet {w w' : World} {a la : Option Addr} {rs : List Rw} {ks : List Nat} (h : Car w a la rs ks) (t : Turns (fun _ => False) w w') : Car w' a la rs ks := ⟨h.rows.quiet t, h.looks.quiet t⟩
theorem neq23 (q : Int) (w : World) : (binOp .neq 23 (.int .i64 q) (.int .i64 q)).run Try.prog w = .ok (.bool false) w := by
  have : (binOp .neq 23 (.int .i64 q) (.int .i64 q)).run Try.prog w = .ok (.bool (!(q == q))) w := by kernel_rfl
  rw [this]
  simp
theorem neq4 (q : Bool) (w : World) : (binOp .neq 4 (.bool q) (.bool q)).run Try.prog w = .ok (.bool false) w := by
  cases q <;> kernel_rfl
theorem run_form {w w' : World} {rs : List Rw} {ks : List Nat} {bot : Bool} {t : Int} {e : Ending} (h : RunOk w w' rs ks bot t e) : ∃ (v : Value) (q : Int), e = .returned (.tuple #[v, .int .i64 q]) := by
  rcases h with ⟨_, e⟩ | ⟨_, v, xs, e, _⟩
  · exact ⟨_, _, e⟩
  · exact ⟨_, _, e⟩
theorem runR_form {w w' : World} {rs : List Rw} {ks : List Nat} {bot ok : Bool} {t : Int} {e : Ending} (h : RunOkR w w' rs ks bot t ok e) : ∃ (v : Value) (q : Int), e = .returned (.tuple #[v, .int .i64 q]) := by
  rcases h with ⟨_, e⟩ | ⟨_, v, xs, e, _⟩
  · exact ⟨_, _, e⟩
  · exact ⟨_, _, e⟩
theorem row_form {w w' : World} {ok : Bool} {es : List Ent} {e : Ending} (h : RowOk w w' ok es e) : ∃ (v : Value) (q : Int), e = .returned (.tuple #[v, .int .i64 q]) := by
  rcases h with ⟨_, e⟩ | ⟨_, a, n, c, Q, e, _⟩
  · exact ⟨_, _, e⟩
  · exact ⟨_, _, e⟩
theorem rowR_form {w w' : World} {l : List Tow} {ok : Bool} {es : List Ent} {e : Ending} (h : RRowR w w' l es ok e) : ∃ (v : Value) (q : Int), e = .returned (.tuple #[v, .int .i64 q]) := by
  rcases h with ⟨_, e⟩ | ⟨_, v, Q, e, _⟩
  · exact ⟨_, _, e⟩
  · exact ⟨_, _, e⟩
theorem cut_form {w w' : World} {ok : Bool} {es : List (List Ent)} {e : Ending} (h : CutOk w w' ok es e) : ∃ (v : Value) (q : Int), e = .returned (.tuple #[v, .int .i64 q]) := by
  rcases h with ⟨_, e⟩ | ⟨_, v, e, _⟩
  · exact ⟨_, _, e⟩
  · exact ⟨_, _, e⟩
theorem cutR_form {w w' : World} {ok : Bool} {es : List (List Ent)} {e : Ending} (h : CutOkR w w' ok es e) : ∃ (v : Value) (q : Int), e = .returned (.tuple #[v, .int .i64 q]) := by
  rcases h with ⟨_, e⟩ | ⟨_, v, e, _⟩
  · exact ⟨_, _, e⟩
  · exact ⟨_, _, e⟩
theorem seen_form {w : World} {n : Nat} {ok : Bool} {bs : List Bool} {e : Ending} (h : SeenOk w n ok bs e) : ∃ (v : Value) (q : Int), e = .returned (.tuple #[v, .int .i64 q]) := by
  rcases h with ⟨_, e⟩ | ⟨_, v, e, _⟩
  · exact ⟨_, _, e⟩
  · exact ⟨_, _, e⟩
theorem few_one {rs : List Rw} (hf : Few rs) {x : Rw} (hx : x ∈ rs) : x.R.length ≤ 1000 ∧ (∀ y, y ∈ x.R → y.e.key.length ≤ 1000000 ∧ y.e.val.length ≤ 1000000) ∧ sizeEs (ents x.R) ≤ 1000000000000 := by
  obtain ⟨h1, h2⟩ := hf.each x hx
  refine ⟨by omega, fun y hy => by have := h2 y hy; omega, ?_⟩
  have key : ∀ l : List Tow, (∀ y, y ∈ l → y.e.key.length ≤ 15000 ∧ y.e.val.length ≤ 15000) → sizeEs (ents l) ≤ l.length * 31000 := fun l => by
    induction l with
    | nil => intro _; simp [sizeEs, ents]
    | cons z r ih =>
      intro hh
      have i1 := ih fun y hy => hh y (List.mem_cons_of_mem _ hy)
      have i2 := hh z List.mem_cons_self
      have e : ents (z :: r) = z.e :: ents r := rfl
      unfold sizeEs at i1 ⊢
      rw [e, List.map_cons, List.sum_cons, List.length_cons, Nat.add_mul]
      unfold sizE at i1 ⊢
      omega
  have := key x.R h2
  omega
theorem calls_any (a la : Option Addr) (n c ln lc : Nat) (rs : List Rw) (ks : List Nat) (bot : Bool) (t : Int) (w : World) (h : RowsOf w a rs) (hn : n = rs.length) (hmx : n ≤ reachBytes) (hk : U64s w la ks) (hkn : ln = ks.length) (hlc : ln ≤ lc) (hlm : ln ≤ reachBytes) :
    Calls Try.prog 4 #[.slice a n c, .slice la ln lc, .bool bot, .int .i64 t] w fun e w' => e = .returned (.bool true) ∧ Below w.heap.size w w' := by
  have H0 := hide h
  have HN := hide hn
  have HMX := hide hmx
  have HK := hide hk
  have HKN := hide hkn
  have HLM := hide hlm
  clear h hn hmx hk hkn hlm
  go_enter Try.func4, Try.ntmps4
  go_wp2_with fail
  refine (lives_any w).mono ?_
  rintro e w1 ⟨rfl, t1⟩
  have T1 := hide t1
  have SM := hide (small_any2 a la n c ln lc rs w1 (fun k x hx => ⟨by obtain ⟨b, off, e, hc⟩ := (H0.out k x hx).1; exact ⟨b, off, e, T1.out.cell hc (fun x => x)⟩, ⟨(H0.out k x hx).2.ents.quiet T1.out, (H0.out k x hx).2.cap, (H0.out k x hx).2.reach, (H0.out k x hx).2.fit, (H0.out k x hx).2.nil⟩⟩) HN.out HMX.out HLM.out)
  clear t1
  go_wp2_with fail
  refine SM.out.mono ?_
  rintro e w2 ⟨⟨d, rfl, hd⟩, t2⟩
  have T2 := hide (T1.out.trans t2)
  clear t2 SM T1
  cases d with
  | false =>
    clear hd
    go_wp2_with fail
    go_ret
    exact ⟨rfl, T2.out.below (Nat.le_refl _) (fun _ x => x.elim)⟩
  | true =>
    have FEW := hide (show Few rs from ⟨(hd rfl).1, (hd rfl).2.1, (hd rfl).2.2.1⟩)
    have hln : ln ≤ 150 := (hd rfl).2.2.2
    have hni : n ≤ 20 := by have := FEW.out.rows; have := HN.out; omega
    have CA := hide (show Car w2 a la rs ks from (⟨few_rows H0.out FEW.out, HK.out⟩ : Car w a la rs ks).quiet T2.out)
    have N23 := hide neq23
    have N4 := hide neq4
    clear hd
    go_wp2_with fail
    refine (Run_any a la n c ln lc rs ks bot t w2 CA.out.rows HN.out (few_fine FEW.out) CA.out.looks HKN.out hlc (by omega) (few_mg FEW.out)).mono ?_
    rintro e3 w3 ⟨hr3, t3⟩
    obtain ⟨v3, q3, rfl⟩ := run_form hr3
    have T3 := hide (T2.out.trans t3)
    have R3 := hide hr3
    have CA3 := hide (CA.out.quiet t3)
    clear hr3 t3
    go_wp2_with fail
    refine (rRun_any a la n c ln lc rs ks bot t w3 CA3.out.rows HN.out FEW.out CA3.out.looks HKN.out (by omega) (few_mg FEW.out)).mono ?_
    rintro e4 w4 ⟨hr4, t4⟩
    obtain ⟨v4, q4, rfl⟩ := runR_form hr4
    obtain ⟨v5, v6, q5, es, he, he', hf, hf', hsh⟩ := run_both CA3.out.rows FEW.out R3.out hr4
    cases he
    cases he'
    have T4 := hide (T3.out.trans t4)
    have CA4 := hide (CA3.out.quiet t4)
    have LS := hide (lists_any v3 v4 _ _ es w4 (hf.quiet t4) hf' hsh)
    clear hr4 t4 hf hf' hsh R3 CA3 CA T2 T3
    go_wp2_with fail
    refine LS.out.mono ?_
    rintro e w5 ⟨rfl, t5⟩
    have T5 := hide (T4.out.trans t5)
    have CA5 := hide (CA4.out.quiet t5)
    clear t5 LS CA4 T4
    have n1 := N23.out q3
    go_wp2_with fail
    clear n1
    go_loopw [13] (fun iv wr => ∃ i : Nat, iv = .int .i64 (i : Nat) ∧ i ≤ n ∧ Turns (fun _ => False) w5 wr) (fun iv _ => n - (intOf iv).toNat)
    case atStart => exact ⟨0, rfl, Nat.zero_le _, Turns.refl _ _⟩
    case round =>
      obtain ⟨i, rfl, hi, ht⟩ := hrel
      have HT := hide ht
      clear ht
      by_cases hin : i < n
      · obtain ⟨x, hx⟩ : ∃ x, rs[i]? = some x := ⟨_, List.getElem?_eq_getElem (by have := HN.out; omega)⟩
        obtain ⟨⟨b, off, rfl, hc⟩, hok⟩ := (CA5.out.quiet HT.out).rows i x hx
        have HONE := hide (few_one FEW.out (List.mem_of_getElem? hx))
        have HLK := hide ((CA5.out.quiet HT.out).looks)
        have HEN := hide hok.ents
        have HCAP := hide hok.cap
        have HCELL := hide (fun (u : World) (tt : Turns (fun _ => False) wr u) => tt.cell hc (fun x => x))
        have c0 := hc
        have i1 : (i : Int) < n := by omega
        have i0 : (0 : Int) ≤ (i : Int) := by omega
        clear hx hok hc
        obtain ⟨xa, xc, xR⟩ := x
        simp only at HONE HEN HCAP HCELL c0
        obtain ⟨xl, hxl⟩ : ∃ m, xR.length = m := ⟨_, rfl⟩
        rw [hxl] at HCAP HCELL c0
        have HXL := hide hxl.symm
        have hxm : xl ≤ 1000 := by rw [← hxl]; exact HONE.out.1
        clear hxl
        have OW := hide (ownEntries_any xa xl xc xR wr HEN.out HXL.out (by have := HXL.out; have := HONE.out.1; omega) HONE.out.2.1)
        have HKX := hide (show ∀ y, y ∈ xR → y.e.key.length ≤ 1000000 from fun y hy => (HONE.out.2.1 y hy).1)
        go_wp2_with fail
        refine OW.out.mono ?_
        rintro e w6 ⟨v, rfl, R0, hE, hS, hm, _, b6⟩
        obtain ⟨a6, c6, rfl, hen6, _⟩ := ents_of hE hS
        have hl6 : R0.length = xl := by
          have h1 := congrArg List.length hm
          simp only [List.length_map] at h1
          have := HXL.out
          omega
        rw [hl6]
        have HL6 := hide hl6.symm
        have EQ0 := hide (show ents R0 = ents xR from hm)
        have HS0 := hide (show ∀ y, y ∈ R0 → y.e.key.length ≤ 1000000 ∧ y.e.val.length ≤ 1000000 from fun y hy => by
          have h1 : y.e ∈ ents R0 := List.mem_map.2 ⟨y, hy, rfl⟩
          rw [EQ0.out] at h1
          obtain ⟨z, hz, e⟩ := List.mem_map.1 h1
          have h2 := HONE.out.2.1 z hz
          have e2 : z.e = y.e := e
          rwa [e2] at h2)
        have U6 := hide (Turns.of_below b6 (fun _ => False))
        have HE6 := hide hen6
        clear hE hS hm b6 hen6 hl6 OW c0
        go_wp2_with fail
        refine (Row_any a6 la xl c6 ln lc R0 ks bot w6 HE6.out HL6.out (by omega) HS0.out (HLK.out.quiet U6.out) HKN.out hlc (by omega)).mono ?_
        rintro e7 w7 ⟨h7, t7⟩
        obtain ⟨v7, q7, rfl⟩ := row_form h7
        have R7 := hide h7
        have U7 := hide (U6.out.trans t7)
        have HE7 := hide (HE6.out.quiet t7)
        have c7 := HCELL.out w7 U7.out
        clear h7 t7 HE6 U6
        go_wp2_with fail
        refine (rRow_any xa la xl xc ln lc xR ks bot w7 (HEN.out.quiet U7.out) HXL.out (by omega) HKX.out (HLK.out.quiet U7.out) HKN.out (by omega)).mono ?_
        rintro e8 w8 ⟨h8, t8⟩
        obtain ⟨v8, q8, rfl⟩ := rowR_form h8
        have U8 := hide (U7.out.trans t8)
        obtain ⟨qa, qa', qn, qc, qc', Q, Q', q, he, he', hQ, hQ', hqn, hqm, hql, hqs⟩ := row_both EQ0.out (HEN.out.quiet U8.out) (by have := HXL.out; omega) HONE.out.2.1 R7.out h8
        cases he
        cases he'
        have HQ := hide (hQ.quiet t8)
        have HQ' := hide hQ'
        have HQN := hide hqn
        have HQM := hide hqm
        have HQS := hide hqs
        have HE8 := hide (HE7.out.quiet t8)
        clear h8 t8 R7 HE7 U7 c7 hQ hQ' hqn hqm hqs
        go_wp2_with fail
        refine (Cut_any a6 xl c6 t R0 w8 HE8.out HL6.out (by omega) HS0.out (by rw [EQ0.out]; exact HONE.out.2.2)).mono ?_
        rintro e9 w9 ⟨h9, t9⟩
        obtain ⟨v9, q9, rfl⟩ := cut_form h9
        have R9 := hide h9
        have U9 := hide (U8.out.trans t9)
        have HE9 := hide (HE8.out.quiet t9)
        have HQ9 := hide (HQ.out.quiet t9)
        have HQ9' := hide (HQ'.out.quiet t9)
        have c9 := HCELL.out w9 U9.out
        clear h9 t9 HE8 U8 HQ HQ'
        go_wp2_with fail
        refine (rCut_any xa xl xc t xR w9 (HEN.out.quiet U9.out) HXL.out HCAP.out (by omega) HKX.out HONE.out.2.2).mono ?_
        rintro ea wa ⟨ha, ta⟩
        obtain ⟨va, qz, rfl⟩ := cutR_form ha
        have UA := hide (U9.out.trans ta)
        obtain ⟨v1, v1', q1, es1, he, he', hF, hF', hsh⟩ := cut_both EQ0.out (by have := HXL.out; omega) HONE.out.2.1 R9.out ha
        cases he
        cases he'
        have FA := hide (hF.quiet ta)
        have FA' := hide hF'
        have SH := hide hsh
        have HEA := hide (HE9.out.quiet ta)
        have HQA := hide (HQ9.out.quiet ta)
        have HQA' := hide (HQ9'.out.quiet ta)
        clear ha ta R9 HE9 U9 c9 HQ9 HQ9' hF hF' hsh
        go_wp2_with fail
        refine (Visible_any a6 la xl c6 ln lc R0 ks wa HEA.out HL6.out (by omega) (HLK.out.quiet UA.out) HKN.out hlc (by omega)).mono ?_
        rintro eb wb ⟨hb, tb⟩
        obtain ⟨vb, qb, rfl⟩ := seen_form hb
        have RB := hide hb
        have UB := hide (UA.out.trans tb)
        have FB := hide (FA.out.quiet tb)
        have FB' := hide (FA'.out.quiet tb)
        have HQB := hide (HQA.out.quiet tb)
        have HQB' := hide (HQA'.out.quiet tb)
        have cb := HCELL.out wb UB.out
        clear hb tb HEA UA FA FA' HQA HQA'
        go_wp2_with fail
        refine (rVisible_any xa la xl xc ln lc xR ks wb (HEN.out.quiet UB.out) HXL.out (by omega) HKX.out (HLK.out.quiet UB.out) HKN.out (by omega)).mono ?_
        rintro ec wc ⟨hc, tc⟩
        obtain ⟨vc, qv, rfl⟩ := seen_form hc
        have UC := hide (UB.out.trans tc)
        obtain ⟨za, za', zn, zs, q2, he, he', hB, hB', hzn, hzl⟩ := seen_both EQ0.out HXL.out (by
          exact RB.out) hc
        cases he
        cases he'
        have ES := hide (entries_same qa qa' qn qc qc' Q Q' wc (HQB.out.quiet tc) (HQB'.out.quiet tc) HQM.out HQN.out hql HQS.out)
        have FC := hide (FB.out.quiet tc)
        have FC' := hide (FB'.out.quiet tc)
        have BVC := hide (hB.quiet tc)
        have BVC' := hide hB'
        have HZN := hide hzn
        clear hc tc cb RB UB FB FB' HQB HQB' hB hB' hzn
        go_wp2_with fail
        refine ES.out.mono ?_
        rintro e wd ⟨rfl, bd⟩
        have td := Turns.of_below bd (fun _ => False)
        have UD := hide (UC.out.trans td)
        have LD := hide (lists_any v9 va _ _ es1 wd (FC.out.quiet td) (FC'.out.quiet td) SH.out)
        have BVD := hide (BVC.out.quiet td)
        have BVD' := hide (BVC'.out.quiet td)
        have n1 := N23.out q7
        clear bd td ES FC FC' BVC BVC' UC
        go_wp2_with fail
        refine LD.out.mono ?_
        rintro e we ⟨rfl, te⟩
        have UE := hide (UD.out.trans te)
        have BVE := hide (BVD.out.quiet te)
        have BVE' := hide (BVD'.out.quiet te)
        have n2 := N23.out q9
        have n3 := N23.out qb
        clear te LD BVD BVD' UD n1
        go_wp2_with fail
        clear n2 n3
        have hzm : zn ≤ 1000 := by omega
        go_loopw [27] (fun uv ws => ∃ k : Nat, uv = .int .i64 (k : Nat) ∧ k ≤ zn ∧ Turns (fun _ => False) we ws) (fun uv _ => zn - (intOf uv).toNat)
        case atStart => exact ⟨0, rfl, Nat.zero_le _, Turns.refl _ _⟩
        case round =>
          rename_i ws
          obtain ⟨k, rfl, hk, htk⟩ := hrel
          have HTK := hide htk
          clear htk
          by_cases hkz : k < zn
          · obtain ⟨bv, hbv⟩ : ∃ b, zs[k]? = some b := ⟨_, List.getElem?_eq_getElem (by have := HZN.out; omega)⟩
            obtain ⟨g, rfl, hg⟩ := (BVE.out.quiet HTK.out) k bv hbv
            obtain ⟨g', rfl, hg'⟩ := (BVE'.out.quiet HTK.out) k bv hbv
            have i2 : (k : Int) < zn := by omega
            have i3 : (0 : Int) ≤ (k : Int) := by omega
            have n4 := N4.out bv
            clear hbv
            go_wp2_with fail
            go_quiet (fail)
            go_wp2_with fail
            go_roundw
            case rel => exact ⟨k + 1, by go_num, by omega, HTK.out.trans ((Turns.refl _ _).drewN _)⟩
            case measure => (simp [intOf]; try omega)
          · obtain rfl : k = zn := by omega
            have i2 : ¬ (k : Int) < k := by omega
            go_wp2_with fail
            go_roundw
            case rel => exact ⟨i + 1, by go_num, by omega, (HT.out.trans UE.out).trans HTK.out⟩
            case measure => (simp [intOf]; try omega)
      · obtain rfl : i = n := by omega
        go_wp2_with fail
        go_ret
        exact ⟨rfl, (T5.out.trans HT.out).below (Nat.le_refl _) (fun _ x => x.elim)⟩
end Go.Proofs.Ytpgligfolecieaa

/-
  CompactKeeps: an entry is checked; a row is put together.
-/
namespace Go.Proofs.Ytpgligfolecieaa
open Go.RowKit
set_option maxRecDepth 100000
set_option maxHeartbeats 4000000
def SaysB (e : Ending) : Prop := ∃ b : Bool, e = .returned (.bool b)
def SaysI (e : Ending) : Prop := ∃ z : Int, e = .returned (.int .i64 z) ∧ -9223372036854775808 ≤ z ∧ z < 9223372036854775808
theorem odd45 (ka va : Option Addr) (kn kc vn vc : Nat) (k : Int) (w : World) : Calls Try.prog 45 #[.int .i64 k, .slice ka kn kc, .slice va vn vc] w fun e w' => SaysB e ∧ Turns (fun _ => False) w w' := by
  have fin : ∀ b : Bool, SaysB (.returned (.bool b)) ∧ Turns (fun _ => False) w w := fun b => ⟨⟨b, rfl⟩, Turns.refl _ _⟩
  by_cases h2 : kn = 0
  · subst h2
    by_cases h1 : k = 1
    · subst h1
      go_enter Try.func45, Try.ntmps45
      go_wp2_with fail
      go_ret
      exact fin _
    · by_cases h3 : k = 2
      · subst h3
        clear h1
        go_enter Try.func45, Try.ntmps45
        go_wp2_with fail
        go_ret
        exact fin _
      · have e1 : (k == 1) = false := by simpa using h1
        have e2 : (k == 2) = false := by simpa using h3
        go_enter Try.func45, Try.ntmps45
        go_wp2_with fail
        go_ret
        exact fin _
  · have h2' : ¬ (kn : Int) = 0 := by omega
    have e0 : ((kn : Int) == 0) = false := by simpa using h2'
    by_cases h1 : k = 1
    · subst h1
      go_enter Try.func45, Try.ntmps45
      go_wp2_with fail
      try rw [e0]
      try go_wp2_with fail
      go_ret
      exact fin _
    · by_cases h3 : k = 2
      · subst h3
        clear h1
        by_cases h4 : (0 : Int) < vn
        · go_enter Try.func45, Try.ntmps45
          go_wp2_with fail
          try rw [e0]
          try go_wp2_with fail
          go_ret
          exact fin _
        · go_enter Try.func45, Try.ntmps45
          go_wp2_with fail
          try rw [e0]
          try go_wp2_with fail
          go_ret
          exact fin _
      · have e1 : (k == 1) = false := by simpa using h1
        have e2 : (k == 2) = false := by simpa using h3
        go_enter Try.func45, Try.ntmps45
        go_wp2_with fail
        try rw [e0]
        try go_wp2_with fail
        go_ret
        exact fin _
theorem long46 (ka va : Option Addr) (kn kc vn vc : Nat) (w : World) : Calls Try.prog 46 #[.slice ka kn kc, .slice va vn vc] w fun e w' => SaysB e ∧ Turns (fun _ => False) w w' := by
  have fin : ∀ b : Bool, SaysB (.returned (.bool b)) ∧ Turns (fun _ => False) w w := fun b => ⟨⟨b, rfl⟩, Turns.refl _ _⟩
  by_cases h1 : (4096 : Int) < kn
  · go_enter Try.func46, Try.ntmps46
    go_wp2_with fail
    go_ret
    exact fin _
  · by_cases h2 : (65536 : Int) < vn
    · go_enter Try.func46, Try.ntmps46
      go_wp2_with fail
      go_ret
      exact fin _
    · go_enter Try.func46, Try.ntmps46
      go_wp2_with fail
      go_ret
      exact fin _
theorem check22 (x : Tow) (w : World) : Calls Try.prog 22 #[.agg x.ent] w fun e w' => SaysI e ∧ Turns (fun _ => False) w w' := by
  obtain ⟨ka, kc, va, vc, ⟨key, sq, kd, val⟩⟩ := x
  unfold Tow.ent Tow.kv Tow.vv
  simp only
  generalize key.length = L1 at *
  generalize val.length = L2 at *
  have TA := hide ((Turns.refl (fun _ => False) w).alloc (.cells #[.slice ka L1 kc, .int .u64 (sq : Nat), .int .i64 kd, .slice va L2 vc] 29))
  have NA := hide (heap_alloc_new w (.cells #[.slice ka L1 kc, .int .u64 (sq : Nat), .int .i64 kd, .slice va L2 vc] 29))
  have fin : ∀ (u : World) (z : Int), (z = 0 ∨ z = 2 ∨ z = 3) → Turns (fun _ => False) w u → SaysI (.returned (.int .i64 z)) ∧ Turns (fun _ => False) w u := fun u z hz t => ⟨⟨z, rfl, by omega, by omega⟩, t⟩
  go_enter Try.func22, Try.ntmps22
  go_wp2_with fail
  refine (odd45 ka va L1 kc L2 vc kd _).mono ?_
  rintro e w1 ⟨⟨b1, rfl⟩, t1⟩
  have T1 := hide (TA.out.trans t1)
  have NB := t1.heap NA.out (fun x => x)
  have y0 := cell_of_row w1 w.heap.size 0 _ 29 (0, 0) NB
  have y1 := cell_of_row w1 w.heap.size 1 _ 29 (0, 0) NB
  have y3 := cell_of_row w1 w.heap.size 3 _ 29 (0, 0) NB
  have N1 := hide NB
  clear t1 NB
  cases b1
  · by_cases h0 : sq = 0
    · subst h0
      go_wp2_with fail
      go_ret
      exact fin _ _ (by omega) T1.out
    · have h0' : ¬ (sq : Int) = 0 := by omega
      have e0 : ((sq : Int) == 0) = false := by simpa using h0'
      have e9 : (sq == 0) = false := by simpa using h0
      go_wp2_with fail
      refine (long46 ka va L1 kc L2 vc w1).mono ?_
      rintro e w2 ⟨⟨b2, rfl⟩, t2⟩
      have T2 := hide (T1.out.trans t2)
      have z1 := cell_of_row w2 w.heap.size 1 _ 29 (0, 0) (t2.heap N1.out (fun x => x))
      clear t2 y0 y1 y3
      cases b2
      · by_cases h5 : 72057594037927935 < sq
        · have h5' : (72057594037927935 : Int) < sq := by omega
          go_wp2_with fail
          go_ret
          exact fin _ _ (by omega) T2.out
        · have h5' : ¬ (72057594037927935 : Int) < sq := by omega
          go_wp2_with fail
          go_ret
          exact fin _ _ (by omega) T2.out
      · go_wp2_with fail
        go_ret
        exact fin _ _ (by omega) T2.out
  · go_wp2_with fail
    go_ret
    exact fin _ _ (by omega) T1.out
theorem rputE_any (v : Value) (R : List Tow) (x : Tow) (B : Nat) (w : World) (h : ERow w B v R) (hs : ∀ y, y ∈ R → Bytes w y.kv y.e.key ∧ Bytes w y.vv y.e.val) (hmx : R.length ≤ 1000) (hk : Bytes w x.kv x.e.key) (hkx : x.e.key.length ≤ 1000000) (hkb : ∀ y, y ∈ R → y.e.key.length ≤ 1000000) : Calls Try.prog 21 #[v, .agg x.ent] w (PutOk w x R) := by
  obtain ⟨a, c, e, hen, hc, _⟩ := ents_row h hs
  have HE := e
  have hz : (a = none ∧ c = 0) ∨ ∃ b off, a = some ⟨b, off, none⟩ ∧ b < w.heap.size := by
    rcases h with ⟨rfl, e2⟩ | ⟨g, c', n', e2, _, _, _, cs, h5, _⟩
    · rw [e2] at e; injection e with e3 e4 e5; exact .inl ⟨e3.symm, e5.symm⟩
    · rw [e2] at e; injection e with e3 e4 e5; exact .inr ⟨g, 0, e3.symm, lt_of_heap h5⟩
  rw [HE]
  exact rput_any a R.length c R x w hen rfl hc hz hmx hk hkx hkb
end Go.Proofs.Ytpgligfolecieaa

/-
  CompactKeeps: what is carried along.
-/
namespace Go.Proofs.Ytpgligfolecieaa
open Go.RowKit
set_option maxRecDepth 100000
set_option maxHeartbeats 4000000
theorem sum_sub {α : Type} (f : α → Nat) : ∀ {xs ys : List α}, xs.Nodup → (∀ x, x ∈ xs → x ∈ ys) → (xs.map f).sum ≤ (ys.map f).sum
  | [], ys, _, _ => by simp
  | x :: xs, ys, hn, hs => by
    obtain ⟨h1, h2⟩ := List.nodup_cons.1 hn
    obtain ⟨s, t, rfl⟩ := List.append_of_mem (hs x (by simp))
    have ih := sum_sub f (ys := s ++ t) h2 fun y hy => by
      have h3 := hs y (List.mem_cons_of_mem _ hy)
      rcases List.mem_append.1 h3 with h4 | h4
      · exact List.mem_append_left _ h4
      · rcases List.mem_cons.1 h4 with rfl | h5
        · exact absurd hy h1
        · exact List.mem_append_right _ h5
    simp only [List.map_append, List.sum_append, List.map_cons, List.sum_cons] at ih ⊢
    omega
theorem nodup_rise {R : List Tow} (h : R.Pairwise ltT) : R.Nodup := h.imp fun {a b} hl e => by
  subst e
  unfold ltT at hl
  have := (cmpE_zero a.e.en a.e.en).2 ⟨rfl, rfl⟩
  omega
def wE (es : List Ent) : Nat := (es.map fun x => x.key.length + x.val.length).sum
theorem weigh_E : ∀ l : List Tow, weigh l = wE (ents l)
  | [] => rfl
  | x :: r => by
    have := weigh_E r
    unfold wE ents at this ⊢
    simp only [weigh, List.map_cons, List.sum_cons]
    omega
theorem wE_sub {a b : List Ent} (h : a.Sublist b) : wE a ≤ wE b := by
  unfold wE
  induction h with
  | slnil => exact Nat.le_refl _
  | cons x _ ih => rw [List.map_cons, List.sum_cons]; omega
  | cons_cons x _ ih => rw [List.map_cons, List.sum_cons, List.map_cons, List.sum_cons]; omega
/-- A row of which not too much is asked. -/
structure Lite (es : List Ent) : Prop where
  len : es.length ≤ 150
  weigh : wE es ≤ 15000
theorem Lite.sub {a b : List Ent} (h : Lite b) (s : a.Sublist b) : Lite a := ⟨Nat.le_trans s.length_le h.len, Nat.le_trans (wE_sub s) h.weigh⟩
theorem wE_mem {x : Ent} : ∀ {es : List Ent}, x ∈ es → x.key.length + x.val.length ≤ wE es
  | y :: r, h => by
    unfold wE
    rw [List.map_cons, List.sum_cons]
    rcases List.mem_cons.1 h with rfl | h
    · omega
    · have := wE_mem h
      unfold wE at this
      omega
theorem Lite.each {es : List Ent} (h : Lite es) : ∀ x, x ∈ es → x.key.length ≤ 15000 ∧ x.val.length ≤ 15000 := fun x hx => by
  have := wE_mem hx
  have := h.weigh
  omega
theorem Lite.tow {R : List Tow} (h : Lite (ents R)) : ∀ x, x ∈ R → x.e.key.length ≤ 15000 ∧ x.e.val.length ≤ 15000 := fun x hx => h.each x.e (List.mem_map.2 ⟨x, hx, rfl⟩)
theorem Lite.few {R : List Tow} (h : Lite (ents R)) (a : Option Addr) (c : Nat) : Few [⟨a, c, R⟩] := by
  have h1 := h.len
  have h2 := h.weigh
  rw [← weigh_E] at h2
  have h3 : (ents R).length = R.length := by simp [ents]
  refine ⟨by simp, ?_, ?_⟩
  · simp only [sumR, List.map_cons, List.map_nil, List.sum_cons, List.sum_nil]; omega
  · simp only [wAll, List.map_cons, List.map_nil, List.sum_cons, List.sum_nil]; omega
theorem Lite.size {es : List Ent} (h : Lite es) : sizeEs es ≤ 1000000000000 := by
  have h1 := h.len
  have key : ∀ es : List Ent, sizeEs es ≤ wE es + es.length * 32 := fun es => by
    induction es with
    | nil => simp [sizeEs, wE]
    | cons x r ih =>
      unfold sizeEs wE sizE at ih ⊢
      rw [List.map_cons, List.sum_cons, List.map_cons, List.sum_cons, List.length_cons, Nat.add_mul]
      omega
  have := key es
  have := h.weigh
  omega
theorem lite_of {R l : List Tow} (h : inOrd (ents R) = true) (hs : ∀ x, x ∈ R → x ∈ l) (hl : l.length ≤ 150) (hw : weigh l ≤ 15000) : Lite (ents R) := by
  have hp := pairwise_of_ord h
  have hn := nodup_rise hp
  have h1 := hn.length_le_of_subset hs
  have h2 := sum_sub (fun x : Tow => x.e.key.length + x.e.val.length) hn hs
  have e1 : ∀ l : List Tow, weigh l = (l.map fun x => x.e.key.length + x.e.val.length).sum := fun l => by
    induction l with
    | nil => rfl
    | cons x r ih => simp only [weigh, List.map_cons, List.sum_cons, ih]
  refine ⟨by simp only [ents, List.length_map]; omega, ?_⟩
  rw [← weigh_E, e1]
  rw [e1] at hw
  omega
/-- One row, merged, is the row. -/
theorem mg_single {a : Option Addr} {c : Nat} {R xs : List Tow} {w : World} {b : Option Addr} (hr : RowsIn w b [⟨a, c, R⟩]) (ho : inOrd (ents R) = true) (h : Mg (hds [⟨a, c, R⟩]) xs) : xs = R := by
  have hR : R.Pairwise ltT := pairwise_of_ord ho
  have hone : eachOrd [(⟨a, c, R⟩ : Rw)] = true := by
    show (inOrd (ents R) && true) = true
    rw [ho]; rfl
  refine Mg.uniq (hds_up hr (by simp) hone) hds_no h ?_
  cases R with
  | nil =>
    have hh : hds [(⟨a, c, []⟩ : Rw)] = [] := by cases a <;> rfl
    rw [hh]
    exact Mg.nil
  | cons y r =>
    obtain ⟨_, hok⟩ := hr 0 _ rfl
    obtain ⟨⟨b', off', e, _⟩, _⟩ := hok.ents 0 y rfl
    have ea : a = some ⟨b', off', none⟩ := e
    subst ea
    have hh : hds [(⟨some ⟨b', off', none⟩, c, y :: r⟩ : Rw)] = [⟨b', off', c, y :: r, 0⟩] := rfl
    rw [hh]
    refine ⟨hR, fun x hx => ⟨_, List.mem_singleton.2 rfl, hx, fun h' hh' hno => absurd hno (by simp)⟩, fun h' hh' z hz => ⟨z, ?_, (cmpE_zero _ _).2 ⟨rfl, rfl⟩⟩⟩
    rw [List.mem_singleton.1 hh'] at hz
    exact hz
theorem cmpB_nil (x : Ky) : 0 ≤ cmpB x [] := by
  cases x with
  | nil => exact Int.le_of_eq ((cmpB_zero [] []).2 rfl).symm
  | cons a l => have : cmpB (a :: l) [] = 1 := rfl; omega
theorem seen_single {a : Option Addr} {c s : Nat} {R Q : List Tow} {w : World} {b : Option Addr} (hr : RowsIn w b [⟨a, c, R⟩]) (ho : inOrd (ents R) = true) (h : RBetOk [⟨a, c, R⟩] [] [] s 4611686018427387904 Q) : Q.map (·.e) = (ents R).filter (newest s (ents R)) := by
  have hone : eachOrd [(⟨a, c, R⟩ : Rw)] = true := by
    show (inOrd (ents R) && true) = true
    rw [ho]; rfl
  rcases h with ⟨_, xs, hx, hl, _, e⟩ | ⟨h1, _⟩
  · obtain rfl := mg_single hr ho hx
    rw [e]
    have e2 : ∀ x : Ent, pick18 s (xs.map (·.e)) [] [] x = newest s (xs.map (·.e)) x := fun x => by
      unfold pick18 rngE
      simp [cmpB_nil]
    rw [show pick18 s (xs.map (·.e)) [] [] = newest s (xs.map (·.e)) from funext e2]
    refine List.take_of_length_le ?_
    have := List.length_filter_le (newest s (xs.map (·.e))) (xs.map (·.e))
    rw [List.length_map] at this
    have h4 : (4611686018427387904 : Int).toNat = 4611686018427387904 := rfl
    rw [h4]
    omega
  · rw [hone] at h1; cases h1
theorem each_single {a : Option Addr} {c : Nat} {R : List Tow} (ho : inOrd (ents R) = true) : eachOrd [(⟨a, c, R⟩ : Rw)] = true := by
  show (inOrd (ents R) && true) = true
  rw [ho]; rfl
/-- Numbers of one's own. -/
def NRow (w : World) (B : Nat) (v : Value) (ks : List Nat) : Prop := (ks = [] ∧ v = .slice none 0 0) ∨ ∃ g c n, v = .slice (some ⟨g, 0, none⟩) n c ∧ n = ks.length ∧ n ≤ c ∧ B ≤ g ∧ RowC w g 27 c (numCells ks)
theorem NRow.quiet {w w' : World} {B : Nat} {v : Value} {ks : List Nat} (h : NRow w B v ks) (t : Turns (fun _ => False) w w') : NRow w' B v ks := by
  rcases h with h | ⟨g, c, n, h1, h2, h3, h4, h5⟩
  · exact .inl h
  · exact .inr ⟨g, c, n, h1, h2, h3, h4, h5.turns t (fun x => x)⟩
theorem NRow.nums {w : World} {B : Nat} {v : Value} {ks : List Nat} (h : NRow w B v ks) (hs : ∀ s, s ∈ ks → s < 18446744073709551616) : ∃ a c, v = .slice a ks.length c ∧ U64s w a ks ∧ ks.length ≤ c := by
  rcases h with ⟨rfl, rfl⟩ | ⟨g, c, n, rfl, rfl, h3, _, h5⟩
  · exact ⟨none, 0, rfl, fun k s h => by simp at h, by simp⟩
  · exact ⟨_, c, rfl, u64s_row h5 hs, h3⟩
theorem append_num (w : World) (B : Nat) (v : Value) (ks : List Nat) (s sb : Nat) (h : NRow w B v ks) (hB : B ≤ w.heap.size) (hl : ks.length ≤ 1000000) (hg : w.heap[sb]? = some (.cells #[.int .u64 (s : Nat)] 27 (0, 0))) :
    ∃ (g' n' c' : Nat) (w' : World), (∀ ty, (Builtin.append_ #[35, 35] ty #[v, .slice (some ⟨sb, 0, none⟩) 1 1]).run Try.prog w = .ok (.slice (some ⟨g', 0, none⟩) n' c') w') ∧ NRow w' B (.slice (some ⟨g', 0, none⟩) n' c') (ks ++ [s]) ∧ Below B w w' := by
  have hsrc : Src Try.prog Try.t27.size 35 (.slice (some ⟨sb, 0, none⟩) 1 1) 1 [.int .u64 (s : Nat)] w := Src.ofSlice w Try.underlying35 ⟨sb, 0, none⟩ 1 1 _ (by rw [size27n]; rfl) (fun j u hu => by
    rw [Go.WideShapes.add_plain, Nat.zero_add, cell_of_row w sb j _ 27 (0, 0) hg]
    simpa using hu) (fun u hu => by
    obtain rfl := List.mem_singleton.1 hu
    rfl)
  obtain ⟨base, sLen, sCap, rfl, hsl, hbase⟩ : ∃ (base : Option Addr) (sLen sCap : Nat), v = .slice base sLen sCap ∧ sLen = ks.length ∧ ((base = none ∧ sLen = 0 ∧ sCap = 0 ∧ 0 < 1) ∨ ∃ g, base = some ⟨g, 0, none⟩ ∧ B ≤ g ∧ sLen ≤ sCap ∧ RowC w g 27 (sCap * Try.t27.size) (numCells ks)) := by
    rcases h with ⟨rfl, rfl⟩ | ⟨g, c, n, rfl, rfl, h3, h4, h5⟩
    · exact ⟨none, 0, 0, rfl, rfl, .inl ⟨rfl, rfl, rfl, by omega⟩⟩
    · exact ⟨_, _, _, rfl, rfl, .inr ⟨g, rfl, h4, h3, by rw [size27n, Nat.mul_one]; exact h5⟩⟩
  obtain ⟨g', cp, w', hr, hg', hrow, hb, hcp, _⟩ := append_gen2 (P := Try.prog) w B 35 27 Try.t27 _ Try.underlying35 info27n zero27n rfl base sLen sCap (numCells ks) (by rw [size27n, hsl, Nat.mul_one, numCells_length]) _ 1 _ hsrc hB hbase (by rw [bytes27n]; omega) (by omega)
  refine ⟨g', _, cp, w', hr, .inr ⟨g', cp, _, rfl, by simp [hsl], hcp, hg', ?_⟩, hb⟩
  rw [size27n, Nat.mul_one] at hrow
  have e : numCells (ks ++ [s]) = numCells ks ++ [.int .u64 (s : Nat)] := by simp [numCells]
  rw [e]
  exact hrow
theorem looksOk_snoc {ks : List Nat} {s : Nat} (h : looksOk ks = true) (hs : s ≤ topN) (hr : ∀ p, ks.getLast? = some p → p < s) : looksOk (ks ++ [s]) = true := by
  rw [looksOk_iff] at h ⊢
  intro j hj
  rw [List.length_append, List.length_singleton] at hj
  by_cases e : j = ks.length
  · subst e
    unfold lkAt
    rw [getD_at (show (ks ++ [s])[ks.length]? = some s by simp)]
    by_cases h0 : ks.length = 0
    · simp [hs, h0]
    · obtain ⟨p, hp⟩ : ∃ p, ks[ks.length - 1]? = some p := ⟨_, List.getElem?_eq_getElem (by omega)⟩
      have h1 : (ks ++ [s])[ks.length - 1]? = some p := by rw [List.getElem?_append_left (by omega)]; exact hp
      rw [getD_at h1]
      have := hr p (by rw [List.getLast?_eq_getElem?]; exact hp)
      simp [hs, this]
  · have h1 := h j (by omega)
    unfold lkAt at h1 ⊢
    have e1 : (ks ++ [s]).getD j 0 = ks.getD j 0 := by
      simp only [List.getD]
      rw [List.getElem?_append_left (by omega)]
    have e2 : (ks ++ [s]).getD (j - 1) 0 = ks.getD (j - 1) 0 := by
      simp only [List.getD]
      rw [List.getElem?_append_left (by omega)]
    rw [e1, e2]
    exact h1
/-- How the files of a cut stand to each other. -/
def CutP (t : Int) : List (List Ent) → Prop
  | [] => True
  | [g] => g ≠ []
  | g :: h :: r => g ≠ [] ∧ t ≤ (sizeEs g : Int) ∧ (∃ p x, g.getLast? = some p ∧ h.head? = some x ∧ p.key ≠ x.key) ∧ CutP t (h :: r)
theorem cutG_P {t : Int} : ∀ (r G : List Ent), G ≠ [] → CutP t (cutG t G r) ∧ ∃ h tl, cutG t G r = h :: tl ∧ h.head? = G.head?
  | [], G, hG => by
    rw [cutG, if_neg hG]
    exact ⟨hG, G, [], rfl, rfl⟩
  | x :: r, G, hG => by
    rw [cutG]
    split
    · next hc =>
      rw [Bool.and_eq_true] at hc
      obtain ⟨ih, h, tl, e, hh⟩ := cutG_P (t := t) r [x] (by simp)
      rw [e] at ih ⊢
      refine ⟨⟨hG, of_decide_eq_true hc.1, ?_, ih⟩, G, _, rfl, rfl⟩
      have h2 := hc.2
      unfold diffL at h2
      cases hl : G.getLast? with
      | none => rw [hl] at h2; cases h2
      | some p =>
        rw [hl] at h2
        exact ⟨p, x, rfl, hh, by simpa using h2⟩
    · obtain ⟨ih, h, tl, e, hh⟩ := cutG_P (t := t) r (G ++ [x]) (by simp)
      refine ⟨ih, h, tl, e, ?_⟩
      rw [hh]
      cases G with
      | nil => exact absurd rfl hG
      | cons a b => rfl
theorem cutE_P {t : Int} (es : List Ent) : CutP t (cutE t es) := by
  cases es with
  | nil => exact trivial
  | cons x r => rw [cutE_cons]; exact (cutG_P r [x] (by simp)).1
theorem cutP_at {t : Int} : ∀ {L : List (List Ent)}, CutP t L → ∀ (i : Nat) (g : List Ent), L[i]? = some g → g ≠ [] ∧ ∀ h, L[i + 1]? = some h → t ≤ (sizeEs g : Int) ∧ ∃ p x, g.getLast? = some p ∧ h.head? = some x ∧ p.key ≠ x.key
  | [], _, i, g, hi => by simp at hi
  | [a], h, 0, g, hi => by
    obtain rfl : a = g := by simpa using hi
    exact ⟨h, fun h' hh => by simp at hh⟩
  | [a], h, i + 1, g, hi => by simp at hi
  | a :: b :: r, h, 0, g, hi => by
    obtain rfl : a = g := by simpa using hi
    refine ⟨h.1, fun h' hh => ?_⟩
    obtain rfl : b = h' := by simpa using hh
    exact ⟨h.2.1, h.2.2.1⟩
  | a :: b :: r, h, i + 1, g, hi => by
    have := cutP_at h.2.2.2 i g (by simpa using hi)
    refine ⟨this.1, fun h' hh => this.2 h' (by simpa using hh)⟩
theorem append_es (w : World) (B : Nat) (v : Value) (R R' : List Tow) (a : Option Addr) (c : Nat) (h : ERow w B v R) (hB : B ≤ w.heap.size) (h' : Ents w a R') (hp : 0 < R'.length) (hl : R.length + R'.length ≤ 1000000) :
    ∃ (g' n' c' : Nat) (w' : World), (∀ ty, (Builtin.append_ #[31, 31] ty #[v, .slice a R'.length c]).run Try.prog w = .ok (.slice (some ⟨g', 0, none⟩) n' c') w') ∧ ERow w' B (.slice (some ⟨g', 0, none⟩) n' c') (R ++ R') ∧ Below B w w' ∧ Turns (inRow v) w w' := by
  obtain ⟨base, sLen, sCap, rfl, hsl, hbase⟩ : ∃ (base : Option Addr) (sLen sCap : Nat), v = .slice base sLen sCap ∧ sLen = R.length ∧ ((base = none ∧ sLen = 0 ∧ sCap = 0 ∧ 0 < R'.length) ∨ ∃ g, base = some ⟨g, 0, none⟩ ∧ B ≤ g ∧ sLen ≤ sCap ∧ RowC w g 29 (sCap * Try.t29.size) (entCells R)) := by
    rcases h with ⟨rfl, rfl⟩ | ⟨g, c, n, rfl, rfl, h3, h4, h5⟩
    · exact ⟨none, 0, 0, rfl, rfl, .inl ⟨rfl, rfl, rfl, hp⟩⟩
    · exact ⟨_, _, _, rfl, rfl, .inr ⟨g, rfl, h4, h3, by rw [t29_size]; exact h5⟩⟩
  obtain ⟨g', cp, w', hr, hg', hrow, hb, hcp, _, _, hkeep⟩ := append_gen2 (P := Try.prog) w B 31 29 Try.t29 _ Try.underlying31 t29_info t29_zero rfl base sLen sCap (entCells R) (by rw [t29_size, hsl, entCells_length]) (.slice a R'.length c) R'.length (entCells R') (src_of_ents h') hB hbase (by rw [t29_bytes]; omega) (by omega)
  refine ⟨g', _, cp, w', hr, .inr ⟨g', cp, _, rfl, by simp [hsl], hcp, hg', ?_⟩, hb, ⟨hb.os, hb.tape, hb.output, hb.size, fun k hk hn => hkeep k hk fun e => hn ⟨sLen, sCap, by rw [e]⟩⟩⟩
  rw [t29_size] at hrow
  rw [entCells_append]
  exact hrow
end Go.Proofs.Ytpgligfolecieaa

/-
  CompactKeeps: a cut's files, one behind the other.
-/
namespace Go.Proofs.Ytpgligfolecieaa
open Go.RowKit
set_option maxRecDepth 100000
theorem cut_last {t : Int} {L : List Ent} {i : Nat} {J pR : List Tow} {y : Tow} (hi : 0 < i) (hg : (cutE t L)[i]? = some (ents pR)) (hy : pR[0]? = some y) (hj : ents J = ((cutE t L).take i).flatten) : ∃ J' z, J = J' ++ [z] ∧ z.e.key ≠ y.e.key := by
  obtain ⟨k, rfl⟩ : ∃ k, i = k + 1 := ⟨i - 1, by omega⟩
  have hk := (List.getElem?_eq_some_iff.1 hg).1
  obtain ⟨g, hgk⟩ : ∃ g, (cutE t L)[k]? = some g := ⟨_, List.getElem?_eq_getElem (by omega)⟩
  obtain ⟨_, hx⟩ := cutP_at (cutE_P (t := t) L) k g hgk
  obtain ⟨_, p, x, h1, h2, h3⟩ := hx _ hg
  have hxy : x = y.e := by
    cases pR with
    | nil => simp at hy
    | cons a r =>
      obtain rfl : a = y := by simpa using hy
      have : some a.e = some x := h2
      exact (Option.some.inj this).symm
  rw [List.take_add_one, hgk, List.flatten_append] at hj
  simp only [Option.toList_some, List.flatten_cons, List.flatten_nil, List.append_nil] at hj
  obtain ⟨g', e⟩ : ∃ g', g = g' ++ [p] := by
    rcases List.eq_nil_or_concat g with e | ⟨g', q, e⟩
    · rw [e] at h1; cases h1
    · rw [List.concat_eq_append] at e
      rw [e] at h1
      simp at h1
      exact ⟨g', by rw [e, h1]⟩
  rcases List.eq_nil_or_concat J with e2 | ⟨J', z, e2⟩
  · rw [e2, e] at hj
    simp [ents] at hj
  · rw [List.concat_eq_append] at e2
    refine ⟨J', z, e2, ?_⟩
    rw [e2, e, ← List.append_assoc] at hj
    have h4 : ents J' ++ [z.e] = ((cutE t L).take k).flatten ++ g' ++ [p] := by
      rw [← hj]
      unfold ents
      rw [List.map_append]
      rfl
    have h5 := List.append_inj_right' h4 rfl
    have h6 : z.e = p := by simpa using h5
    rw [h6, ← hxy]
    exact h3
theorem cut_big {t : Int} {L : List Ent} {i : Nat} {es : List Ent} (hg : (cutE t L)[i]? = some es) (hi : i + 1 < (cutE t L).length) : t ≤ (sizeEs es : Int) := by
  obtain ⟨h, hh⟩ : ∃ h, (cutE t L)[i + 1]? = some h := ⟨_, List.getElem?_eq_getElem hi⟩
  exact ((cutP_at (cutE_P (t := t) L) i es hg).2 h hh).1
end Go.Proofs.Ytpgligfolecieaa
