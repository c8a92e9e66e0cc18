/-
  A job leaves nothing behind that it would hide: the law's walk.
-/
import Derived.Test.YtkmcdjbadngfgaaPq
import Derived.Test.YtkmcdjbadngfgaaPn
import Derived.Test.YtkmcdjbadngfgaaXd
import Derived.Test.YtkmcdjbadngfgaaXp
import Derived.Test.YtkmcdjbadngfgaaTx
namespace Go.Proofs.Ytkmcdjbadngfgaa
open Go.RowKit
set_option maxRecDepth 100000
set_option maxHeartbeats 4000000
def botK (LL : List (List Fl)) (z i : Nat) (m : Fl) : Bool := ((LL.take i).drop (z + 2)).all fun l => l.all fun f => !ovL f m
def botI (LL : List (List Fl)) (z i : Nat) (m : Fl) (l : List Fl) : Bool := botK LL z i m && l.all fun f => !ovL f m
theorem botK_start {LL : List (List Fl)} {z : Nat} {m : Fl} : botK LL z (z + 2) m = true := by
  unfold botK
  rw [List.drop_of_length_le (by rw [List.length_take]; omega)]
  rfl
theorem botI_nil {LL : List (List Fl)} {z i : Nat} {m : Fl} : botI LL z i m [] = botK LL z i m := by simp [botI]
theorem botI_step {LL : List (List Fl)} {z i : Nat} {m : Fl} {xl : List Tf} {q : Nat} {y : Tf} (h : xl[q]? = some y) : botI LL z i m (fls (xl.take (q + 1))) = (botI LL z i m (fls (xl.take q)) && !ovL y.f m) := by
  unfold botI
  rw [List.take_add_one, h]
  simp only [fls, List.map_append, Option.toList_some, List.map_cons, List.map_nil, List.all_append, List.all_cons, List.all_nil, Bool.and_true, Bool.and_assoc]
theorem botI_end {LL : List (List Fl)} {z i : Nat} {m : Fl} {l : List Fl} (h : z + 2 ≤ i) (hi : i < LL.length) (hl : LL.getD i [] = l) : botI LL z i m l = botK LL z (i + 1) m := by
  unfold botI botK
  have hg : LL[i]? = some l := by
    rw [List.getElem?_eq_getElem hi, ← hl, List.getD, List.getElem?_eq_getElem hi]; rfl
  rw [List.take_add_one, hg, List.drop_append_of_le_length (by rw [List.length_take]; omega), List.all_append]
  simp
theorem F6.all {u : World} {b o : Nat} {x : Tf} (h : F6 u b o x) : u.cell? ⟨b, o, none⟩ = some (.int .u64 (x.f.no : Nat)) ∧ u.cell? ⟨b, o + 1, none⟩ = some (.int .i64 x.f.size) ∧ u.cell? ⟨b, o + 2, none⟩ = some (.slice x.la x.f.least.length x.lc) ∧ u.cell? ⟨b, o + 3, none⟩ = some (.slice x.ma x.f.most.length x.mc) ∧ u.cell? ⟨b, o + 4, none⟩ = some (.int .i64 x.f.ents) ∧ u.cell? ⟨b, o + 5, none⟩ = some (.int .u64 (x.f.seq : Nat)) := ⟨h.c0, h.c1, h.c2, h.c3, h.c4, h.c5⟩
theorem sound_any (a : Option Addr) (n c next seq log : Nat) (L : List Lv) (t b' f : Int) (w : World) (hL : Levs w a L) (hn : n = L.length) (hmx : n ≤ reachBytes) (hf : ∀ x ∈ L, x.l.length ≤ reachBytes ∧ ∀ f ∈ x.l, FitF f) (hb1 : next < 18446744073709551616) (hb2 : seq < 18446744073709551616) (hb3 : log < 18446744073709551616) :
    Calls Try.prog 5 #[verAgg a n c next seq log, setAgg t b' f] w fun e w' => e = .returned (.bool true) ∧ Turns (fun _ => False) w w' := by
  have TA := hide (((Turns.refl (fun _ => False) w).alloc (.cells #[.slice a n c, .int .u64 (next : Nat), .int .u64 (seq : Nat), .int .u64 (log : Nat)] 25)).alloc (.cells #[.int .i64 t, .int .i64 b', .int .i64 f] 35))
  have R0 := hide (((Turns.refl (fun _ => False) (w.alloc (.cells #[.slice a n c, .int .u64 (next : Nat), .int .u64 (seq : Nat), .int .u64 (log : Nat)] 25))).alloc (.cells #[.int .i64 t, .int .i64 b', .int .i64 f] 35)).heap (heap_alloc_new w (.cells #[.slice a n c, .int .u64 (next : Nat), .int .u64 (seq : Nat), .int .u64 (log : Nat)] 25)) (fun x => x))
  have R1 := hide (heap_alloc_new (w.alloc (.cells #[.slice a n c, .int .u64 (next : Nat), .int .u64 (seq : Nat), .int .u64 (log : Nat)] 25)) (.cells #[.int .i64 t, .int .i64 b', .int .i64 f] 35))
  simp only [World.size_alloc] at R1
  have SM := hide (fun (u : World) (tu : Turns (fun _ => False) w u) => small_any a n c next seq log L u (hL.quiet tu) hn hmx fun x hx => (hf x hx).1)
  have HVS := hide (fun (h : (decide (n ≤ 10) && (decide (w64 (cnt L : Nat) ≤ 100) && decide (w64 (levN L : Nat) ≤ 10000))) = true) => show VerIn w a n L next seq log by
    simp only [Bool.and_eq_true, decide_eq_true_iff] at h
    obtain ⟨g1, g2⟩ := small_fin hf (by rw [← hn]; exact h.1) h.2.1 h.2.2
    exact verIn_small hL hn hf g1 g2 hb1 hb2 hb3)
  generalize (decide (n ≤ 10) && (decide (w64 (cnt L : Nat) ≤ 100) && decide (w64 (levN L : Nat) ≤ 10000))) = S at *
  clear hL hn hmx hf hb1 hb2 hb3
  have LI := hide lives_any
  have CS := hide (checkSetup_any t b' f)
  unfold verAgg setAgg at *
  go_enter Try.func5, Try.ntmps5
  go_wp2_with fail
  obtain ⟨w0, hw0⟩ : ∃ u, u = (w.alloc (.cells #[.slice a n c, .int .u64 (next : Nat), .int .u64 (seq : Nat), .int .u64 (log : Nat)] 25)).alloc (.cells #[.int .i64 t, .int .i64 b', .int .i64 f] 35) := ⟨_, rfl⟩
  rw [← hw0] at TA R0 R1 ⊢
  clear hw0
  generalize w.heap.size = P at *
  refine (LI.out _).mono ?_
  rintro e w1 ⟨rfl, t1⟩
  have T1 := hide (TA.out.trans t1)
  have Q0 := hide (t1.heap R0.out (fun x => x))
  have Q1 := hide (t1.heap R1.out (fun x => x))
  have SK := hide (fun (u : World) (tu : Turns (fun _ => False) w1 u) => show (u.cell? ⟨P, 0, none⟩ = some (.slice a n c) ∧ u.cell? ⟨P, 1, none⟩ = some (.int .u64 (next : Nat)) ∧ u.cell? ⟨P, 2, none⟩ = some (.int .u64 (seq : Nat)) ∧ u.cell? ⟨P, 3, none⟩ = some (.int .u64 (log : Nat))) ∧ u.cell? ⟨P + 1, 0, none⟩ = some (.int .i64 t) ∧ u.cell? ⟨P + 1, 1, none⟩ = some (.int .i64 b') ∧ u.cell? ⟨P + 1, 2, none⟩ = some (.int .i64 f) from ⟨⟨cell_of_row u P 0 _ 25 (0, 0) (tu.heap Q0.out (fun x => x)), cell_of_row u P 1 _ 25 (0, 0) (tu.heap Q0.out (fun x => x)), cell_of_row u P 2 _ 25 (0, 0) (tu.heap Q0.out (fun x => x)), cell_of_row u P 3 _ 25 (0, 0) (tu.heap Q0.out (fun x => x))⟩, cell_of_row u (P + 1) 0 _ 35 (0, 0) (tu.heap Q1.out (fun x => x)), cell_of_row u (P + 1) 1 _ 35 (0, 0) (tu.heap Q1.out (fun x => x)), cell_of_row u (P + 1) 2 _ 35 (0, 0) (tu.heap Q1.out (fun x => x))⟩)
  clear t1 R0 R1 TA LI
  obtain ⟨⟨p0, p1, p2, p3⟩, q0, q1, q2⟩ := SK.out w1 (Turns.refl _ _)
  go_wp2_with fail
  refine (SM.out _ T1.out).mono ?_
  rintro e w2 ⟨rfl, t2⟩
  have T2 := hide t2
  clear t2 SM p0 p1 p2 p3 q0 q1 q2
  cases S with
  | false =>
    go_wp2_with fail
    go_ret
    exact ⟨rfl, T1.out.trans T2.out⟩
  | true =>
    have HV := hide (HVS.out (by first | rfl | trivial))
    clear HVS
    have CK := hide (rcheck_any a n c next seq log L w2 (HV.out.quiet (T1.out.trans T2.out)))
    have HC := hide (show chkV L next seq log = if wrongV L next seq log then 2 else 0 from rfl)
    have HE := hide (show setE t b' f = if setBad t b' f then 2 else 0 from rfl)
    have HW := hide (wrongV_F L next seq log)
    have NX := hide (fun (u : World) (tu : Turns (fun _ => False) w u) => next_any a n c next seq log L t b' f u (HV.out.quiet tu))
    have RE := hide (fun (u : World) (tu : Turns (fun _ => False) w u) => rest_any a n c next seq log L t b' f u (HV.out.quiet tu))
    have HRP := hide (show restP (flL L) next seq log t b' f = (!(wrongVF (flL L) next seq log || setBad t b' f) && !(dueP (scoresL (flL L) t b' f)).2) from rfl)
    unfold verAgg at CK
    unfold verAgg setAgg at NX RE
    generalize chkV L next seq log = CV at *
    generalize setE t b' f = E at *
    generalize restP (flL L) next seq log t b' f = RP at *
    obtain ⟨⟨p0, p1, p2, p3⟩, q0, q1, q2⟩ := SK.out w2 T2.out
    go_wp2_with fail
    refine CK.out.mono ?_
    rintro e w3 ⟨rfl, t3⟩
    have T3 := hide (T2.out.trans t3)
    clear t3 CK p0 p1 p2 p3 q0 q1 q2
    cases hWV : wrongVF (flL L) next seq log with
    | true =>
      have hV : CV = 2 := by rw [HC.out, HW.out, hWV]; rfl
      subst hV
      clear hWV HC HW
      go_wp2_with fail
      go_ret
      exact ⟨rfl, T1.out.trans T3.out⟩
    | false =>
      have hV : CV = 0 := by rw [HC.out, HW.out, hWV]; rfl
      subst hV
      have HWV := hide hWV
      clear hWV HC HW
      obtain ⟨⟨p0, p1, p2, p3⟩, q0, q1, q2⟩ := SK.out w3 T3.out
      go_wp2_with fail
      refine (CS.out _).mono ?_
      rintro e w4 ⟨rfl, t4⟩
      have T4 := hide (T3.out.trans t4)
      clear t4 CS p0 p1 p2 p3 q0 q1 q2
      cases hBD : setBad t b' f with
      | true =>
        have hE : E = 2 := by rw [HE.out, hBD]; rfl
        subst hE
        clear hBD HE
        go_wp2_with fail
        go_ret
        exact ⟨rfl, T1.out.trans T4.out⟩
      | false =>
        have hE : E = 0 := by rw [HE.out, hBD]; rfl
        subst hE
        have HBD := hide hBD
        clear hBD HE
        obtain ⟨⟨p0, p1, p2, p3⟩, q0, q1, q2⟩ := SK.out w4 T4.out
        go_wp2_with fail
        refine (NX.out _ (T1.out.trans T4.out)).mono ?_
        rintro e w5 ⟨v, er, rfl, ho, t5⟩
        have T5 := hide (T4.out.trans t5)
        clear t5 NX p0 p1 p2 p3 q0 q1 q2
        rcases ho with ⟨hw, _⟩ | ⟨_, hd, rfl, rfl⟩ | ⟨_, hd, rfl, z, lo, hi, U, LW, least, most, bt, hz, hdz, hj, ua, va, uc, vc, RR1, RR2, a1, a2, c1, c2, rfl, hr1, hr2, hr3, hr4⟩
        · exact absurd hw (by rw [HWV.out, HBD.out]; decide)
        · have hRP : RP = true := by rw [HRP.out, HWV.out, HBD.out, hd]; rfl
          subst hRP
          clear hd HRP
          unfold zeroJob
          have TJ := hide ((Turns.refl (fun _ => False) w5).alloc (.cells #[.int .i64 0, .slice none 0 0, .slice none 0 0, .slice none 0 0, .slice none 0 0, .bool false] 43))
          obtain ⟨⟨p0, p1, p2, p3⟩, q0, q1, q2⟩ := SK.out _ (T5.out.trans TJ.out)
          go_wp2_with fail
          refine (RE.out _ ((T1.out.trans T5.out).trans TJ.out)).mono ?_
          rintro e w6 ⟨rfl, t6⟩
          go_wp2_with fail
          go_ret
          exact ⟨rfl, ((T1.out.trans T5.out).trans TJ.out).trans t6⟩
        · have hRP : RP = false := by rw [HRP.out, HWV.out, HBD.out, hd]; rfl
          subst hRP
          have FA := hide (hj.facts HWV.out hz)
          have BQ := hide (fun (m : Fl) (h1 : m.least = least) (h2 : m.most = most) => hj.bot_eq HWV.out hz m h1 h2)
          have HU1 := hide hr1
          have HU2 := hide hr2
          have HB1 := hide hr3.1
          have HB2 := hide hr4.1
          have HZ := hide hz
          have H5 := hide (len_of_ok HWV.out)
          clear hd HRP hdz hj hr1 hr2 hr3 hr4
          have hn5 : n = 5 := by
            have h1 := H5.out
            rw [flL_length] at h1
            have h2 := HV.out.len
            omega
          subst hn5
          obtain ⟨b, off, rfl⟩ : ∃ b off, a = some ⟨b, off, none⟩ := by
            obtain ⟨x, hx⟩ : ∃ x, L[0]? = some x := ⟨_, List.getElem?_eq_getElem (by have := HV.out.len; omega)⟩
            obtain ⟨⟨b, off, e, _⟩, _⟩ := HV.out.levs 0 x hx
            exact ⟨b, off, e⟩
          have LV := hide (fun (i : Nat) (hi : i < 5) => show ∃ x : Lv, L[i]? = some x ∧ (flL L).getD i [] = fls x.l ∧ x.l.length ≤ 5000 ∧ ∀ u, Turns (fun _ => False) w u → u.cell? ⟨b, off + i, none⟩ = some (.slice x.a x.l.length x.c) ∧ Fils u x.a x.l from by
            obtain ⟨x, hx⟩ : ∃ x, L[i]? = some x := ⟨_, List.getElem?_eq_getElem (by have := HV.out.len; omega)⟩
            refine ⟨x, hx, by rw [List.getD, flL_at hx]; rfl, by have := cnt_take hx; have := cnt_take_le L (i + 1); have := HV.out.cnt; omega, fun u tu => ?_⟩
            obtain ⟨⟨b', off', e, hc⟩, hfi⟩ := (HV.out.quiet tu).levs i x hx
            cases e
            exact ⟨hc, hfi⟩)
          generalize hN1 : RR1.length = N1 at *
          generalize hN2 : RR2.length = N2 at *
          generalize hM1 : least.length = M1 at *
          generalize hM2 : most.length = M2 at *
          have HN1 := hide hN1
          have HN2 := hide hN2
          have HM1 := hide hM1
          have HM2 := hide hM2
          have hN0 : ¬ (N1 : Int) = 0 := by
            have h1 := FA.out.ne
            have h2 := fls_len HU1.out.2.1
            have h3 : U.length ≠ 0 := fun e => h1 (List.length_eq_zero_iff.1 e)
            omega
          clear hN1 hN2 hM1 hM2
          obtain ⟨w6, hw6⟩ : ∃ u, u = w5.alloc (.cells #[.int .i64 (z : Nat), .slice ua N1 uc, .slice va N2 vc, .slice a1 M1 c1, .slice a2 M2 c2, .bool bt] 43) := ⟨_, rfl⟩
          have T56 := hide (show Turns (fun _ => False) w5 w6 by rw [hw6]; exact (Turns.refl _ _).alloc _)
          have RJ := hide (show w6.heap[w5.heap.size]? = some (.cells #[.int .i64 (z : Nat), .slice ua N1 uc, .slice va N2 vc, .slice a1 M1 c1, .slice a2 M2 c2, .bool bt] 43 (0, 0)) by rw [hw6]; exact heap_alloc_new _ _)
          have HW6 := hide hw6
          clear hw6
          have T6 := hide ((T1.out.trans T5.out).trans T56.out)
          have SK := hide (fun (u : World) (tu : Turns (fun _ => False) w6 u) => SK.out u ((T5.out.trans T56.out).trans tu))
          have HFU := hide ((rows_fils HU1.out).quiet T56.out)
          have HFL := hide ((rows_fils HU2.out).quiet T56.out)
          have HB1 := hide (HB1.out.quiet T56.out)
          have HB2 := hide (HB2.out.quiet T56.out)
          have HFS := hide (And.intro HU1.out.2.1 HU2.out.2.1)
          clear HU1 HU2
          have hz0 : (0 : Int) ≤ z := by omega
          have hz3 : (z : Int) ≤ 3 := by omega
          have hz4 : (z : Int) < 4 := by omega
          obtain ⟨⟨p0, p1, p2, p3⟩, q0, q1, q2⟩ := SK.out _ (Turns.refl _ _)
          rw [HW6.out] at p0 p1 p2 p3 q0 q1 q2
          go_wp2_with fail
          rw [← HW6.out]
          generalize w5.heap.size = J at *
          clear p0 p1 p2 p3 q0 q1 q2 HW6
          refine (RE.out _ T6.out).mono ?_
          rintro e w7 ⟨rfl, t7⟩
          have T7 := hide t7
          clear t7 RE
          have SJ := hide (fun (u : World) (tu : Turns (fun _ => False) w6 u) => show u.cell? ⟨J, 0, none⟩ = some (.int .i64 (z : Nat)) ∧ u.cell? ⟨J, 1, none⟩ = some (.slice ua N1 uc) ∧ u.cell? ⟨J, 2, none⟩ = some (.slice va N2 vc) ∧ u.cell? ⟨J, 3, none⟩ = some (.slice a1 M1 c1) ∧ u.cell? ⟨J, 4, none⟩ = some (.slice a2 M2 c2) ∧ u.cell? ⟨J, 5, none⟩ = some (.bool bt) from ⟨cell_of_row u J 0 _ 43 (0, 0) (tu.heap RJ.out (fun x => x)), cell_of_row u J 1 _ 43 (0, 0) (tu.heap RJ.out (fun x => x)), cell_of_row u J 2 _ 43 (0, 0) (tu.heap RJ.out (fun x => x)), cell_of_row u J 3 _ 43 (0, 0) (tu.heap RJ.out (fun x => x)), cell_of_row u J 4 _ 43 (0, 0) (tu.heap RJ.out (fun x => x)), cell_of_row u J 5 _ 43 (0, 0) (tu.heap RJ.out (fun x => x))⟩)
          obtain ⟨⟨p0, p1, p2, p3⟩, _⟩ := SK.out _ T7.out
          obtain ⟨j0, j1, j2, j3, j4, j5⟩ := SJ.out _ T7.out
          go_upto_region 10 with (fail)
          · rename_i h9 h8
            exfalso
            have hz2 := HZ.out
            rcases h8 with (h8 | h8) | h8
            · simp at h8; omega
            · omega
            · omega
          have hz2 := HZ.out
          obtain ⟨⟨xa, xc, xll⟩, hxl, hgx, hxc, hxf⟩ := LV.out z (by omega)
          obtain ⟨⟨ya, yc, yll⟩, hyl, hgy, hyc, hyf⟩ := LV.out (z + 1) (by omega)
          simp only at hgx hxc hxf hgy hyc hyf
          obtain ⟨h0, _⟩ := hxf _ (T6.out.trans T7.out)
          obtain ⟨h1, _⟩ := hyf _ (T6.out.trans T7.out)
          have HXF := hide hxf
          have HYF := hide hyf
          have HGX := hide hgx
          have HGY := hide hgy
          have hzi : (z : Int) + 1 < 5 := by omega
          have hzj : (0 : Int) ≤ (z : Int) + 1 := by omega
          have hzk : (z : Int) < 5 := by omega
          have hxi : (xll.length : Int) ≤ 5000 := by omega
          have hyi : (yll.length : Int) ≤ 5000 := by omega
          have hw1 : wrap64 ((z : Int) + 1) = ((z + 1 : Nat) : Int) := by rw [wrap64_of (by omega) (by omega)]; omega
          have hzk2 : ((z + 1 : Nat) : Int) < 5 := by omega
          have hzk3 : (0 : Int) ≤ ((z + 1 : Nat) : Int) := by omega
          clear hxl hgx hxf hyl hgy hyf hz2
          go_quiet (fail)
          generalize hXL : xll.length = XL at *
          generalize hYL : yll.length = YL at *
          have HXL := hide hXL
          have HYL := hide hYL
          clear hXL hYL
          have HERE := hide (fun (x : Tf) (hx : x ∈ RR1) => show amongF (fls xll) x.f.no = true by
            rw [← HGX.out]; exact FA.out.here (by rw [← HFS.out.1]; exact List.mem_map.2 ⟨x, hx, rfl⟩))
          have UPF := hide (fun (x : Tf) (hx : x ∈ RR1) (y : Tf) (hy : y ∈ xll) (ho : ovL y.f x.f = true) => show amongF (fls RR1) y.f.no = true by
            rw [HFS.out.1]; exact FA.out.up (by rw [← HFS.out.1]; exact List.mem_map.2 ⟨x, hx, rfl⟩) (by rw [HGX.out]; exact List.mem_map.2 ⟨y, hy, rfl⟩) ho)
          have LOWF := hide (fun (x : Tf) (hx : x ∈ RR1) (y : Tf) (hy : y ∈ yll) (ho : ovL y.f x.f = true) => show amongF (fls RR2) y.f.no = true by
            rw [HFS.out.2]; exact FA.out.low (by rw [← HFS.out.1]; exact List.mem_map.2 ⟨x, hx, rfl⟩) (by rw [HGY.out]; exact List.mem_map.2 ⟨y, hy, rfl⟩) ho)
          have hN1m : (N1 : Int) ≤ 5000 := by
            have h1 := FA.out.hU
            have h2 := fls_len HFS.out.1
            have h3 : U.length ≤ (fls xll).length := by rw [h1, HGX.out]; exact List.length_filter_le _ _
            have h4 : (fls xll).length = xll.length := by simp [fls]
            have h5 := HN1.out
            have h6 := HXL.out
            omega
          have hN2m : (N2 : Int) ≤ 5000 := by
            have h1 := FA.out.hL
            have h2 := fls_len HFS.out.2
            have h3 : LW.length ≤ (fls yll).length := by rw [h1, HGY.out]; exact List.length_filter_le _ _
            have h4 : (fls yll).length = yll.length := by simp [fls]
            have h5 := HN2.out
            have h6 := HYL.out
            omega
          have AM0 := hide (fun (x : Tf) (u : World) (tu : Turns (fun _ => False) w6 u) => among_any xa XL xc xll x u (by have := (HXF.out u (T6.out.trans tu)).2; exact this) HXL.out.symm (by omega))
          have AU0 := hide (fun (x : Tf) (u : World) (tu : Turns (fun _ => False) w6 u) => among_any ua N1 uc RR1 x u (HFU.out.quiet tu) HN1.out.symm (by omega))
          have AL0 := hide (fun (x : Tf) (u : World) (tu : Turns (fun _ => False) w6 u) => among_any va N2 vc RR2 x u (HFL.out.quiet tu) HN2.out.symm (by omega))
          have OM0 := hide (fun (y : Tf) (u : World) (tu : Turns (fun _ => False) w6 u) (hy : FB u y) => loverlaps_any y ⟨a1, c1, a2, c2, ⟨0, 0, least, most, 0, 0⟩⟩ u hy ⟨by show Bytes u (.slice a1 least.length c1) least; rw [HM1.out]; exact HB1.out.quiet tu, by show Bytes u (.slice a2 most.length c2) most; rw [HM2.out]; exact HB2.out.quiet tu⟩)
          have XF2 := hide (fun (u : World) (tu : Turns (fun _ => False) w6 u) => (HXF.out u (T6.out.trans tu)).2)
          have YF2 := hide (fun (u : World) (tu : Turns (fun _ => False) w6 u) => (HYF.out u (T6.out.trans tu)).2)
          unfold Tf.agg at AM0 AU0 AL0 OM0
          simp only at OM0
          rw [HM1.out, HM2.out] at OM0
          clear p0 p1 p2 p3 j0 j1 j2 j3 j4 j5 h0 h1 HXF HYF
          go_wp2_with fail
          go_loopw [9] (fun i wr => ∃ k : Nat, i = .int .i64 (k : Nat) ∧ k ≤ N1 ∧ Turns (fun _ => False) w6 wr) (fun i _ => N1 - (intOf i).toNat)
          case atStart =>
            refine ⟨0, rfl, Nat.zero_le _, ?_⟩
            first
              | exact T7.out.drew
              | exact T7.out.drewN _
          case round =>
            obtain ⟨k, rfl, hk, htr⟩ := hrel
            have HTR := hide htr
            obtain ⟨j0, j1, j2, j3, j4, j5⟩ := SJ.out _ htr
            clear htr
            by_cases hkn : k < N1
            · obtain ⟨x, hx⟩ : ∃ x, RR1[k]? = some x := ⟨_, List.getElem?_eq_getElem (by have := HN1.out; omega)⟩
              obtain ⟨ub, uo, rfl, h6, _⟩ := fc_of (HFU.out.quiet HTR.out) hx
              have i1 : (k : Int) < N1 := by omega
              have i0 : (0 : Int) ≤ k := by omega
              have hxm := List.mem_of_getElem? hx
              have HX6 := hide (fun (u : World) (tu : Turns (fun _ => False) wr u) => (h6.quiet tu).all)
              have OV0 := hide (fun (y : Tf) (u : World) (tu : Turns (fun _ => False) w6 u) (hy : FB u y) => loverlaps_any y x u hy ((HFU.out.quiet tu) k x hx).2)
              have AMX := hide (fun (u : World) (tu : Turns (fun _ => False) w6 u) => AM0.out x u tu)
              have UPX := hide (fun (y : Tf) (hy : y ∈ xll) (ho : ovL y.f x.f = true) => UPF.out x hxm y hy ho)
              have LOX := hide (fun (y : Tf) (hy : y ∈ yll) (ho : ovL y.f x.f = true) => LOWF.out x hxm y hy ho)
              rw [HERE.out x hxm] at AMX
              clear hx hxm
              obtain ⟨lav, lcv, mav, mcv, ⟨nov, szv, lsv, msv, env, sqv⟩⟩ := x
              obtain ⟨x0, x1, x2, x3, x4, x5⟩ := h6
              have HV6 := hide (fun (u : World) (tu : Turns (fun _ => False) wr u) => HX6.out u tu)
              clear HX6
              unfold Tf.agg at OV0
              simp only at *
              generalize lsv.length = L1v at *
              generalize msv.length = L2v at *
              go_wp2_with fail
              refine (AMX.out _ HTR.out).mono ?_
              rintro e w9 ⟨rfl, t9⟩
              have T9 := hide (HTR.out.trans t9)
              have V6 := hide (fun (u : World) (tu : Turns (fun _ => False) w9 u) => HV6.out u (t9.trans tu))
              clear t9 AMX HV6 x0 x1 x2 x3 x4 x5 j0 j1 j2 j3 j4 j5
              go_wp2_with fail
              go_loopw [10] (fun i wq => ∃ q : Nat, i = .int .i64 (q : Nat) ∧ q ≤ XL ∧ Turns (fun _ => False) w9 wq) (fun i _ => XL - (intOf i).toNat)
              case atStart => exact ⟨0, rfl, Nat.zero_le _, Turns.refl _ _⟩
              case round =>
                obtain ⟨q, rfl, hq, htq⟩ := hrel
                have HTQ := hide htq
                have HT6 := hide (T9.out.trans htq)
                clear htq
                by_cases hqn : q < XL
                · obtain ⟨y, hy⟩ : ∃ y, xll[q]? = some y := ⟨_, List.getElem?_eq_getElem (by have := HXL.out; omega)⟩
                  obtain ⟨hb, ho, rfl, h6, hfb⟩ := fc_of (XF2.out _ HT6.out) hy
                  have j1' : (q : Int) < XL := by omega
                  have j0' : (0 : Int) ≤ q := by omega
                  have hym := List.mem_of_getElem? hy
                  have OVL := hide (fun (u : World) (tu : Turns (fun _ => False) wr u) => OV0.out y u (HT6.out.trans tu) (hfb.quiet tu))
                  have AMU := hide (fun (u : World) (tu : Turns (fun _ => False) wr u) => AU0.out y u (HT6.out.trans tu))
                  have UPY := hide (fun (ho : ovL y.f ⟨nov, szv, lsv, msv, env, sqv⟩ = true) => UPX.out y hym ho)
                  clear hfb hy hym
                  generalize amongF (fls RR1) y.f.no = am at *
                  generalize ovL y.f ⟨nov, szv, lsv, msv, env, sqv⟩ = ov at *
                  have Y6 := hide (fun (u : World) (tu : Turns (fun _ => False) wr u) => (h6.quiet tu).all)
                  obtain ⟨lay, lcy, may, mcy, ⟨noy, szy, lsy, msy, eny, sqy⟩⟩ := y
                  simp only at *
                  generalize lsy.length = L1y at *
                  generalize msy.length = L2y at *
                  have SK2 := hide (fun (u : World) (tu : Turns (fun _ => False) wr u) => show (u.cell? ⟨hb, ho + q * 6, none⟩ = some (.int .u64 (noy : Nat)) ∧ u.cell? ⟨hb, ho + q * 6 + 1, none⟩ = some (.int .i64 szy) ∧ u.cell? ⟨hb, ho + q * 6 + 2, none⟩ = some (.slice lay L1y lcy) ∧ u.cell? ⟨hb, ho + q * 6 + 3, none⟩ = some (.slice may L2y mcy) ∧ u.cell? ⟨hb, ho + q * 6 + 4, none⟩ = some (.int .i64 eny) ∧ u.cell? ⟨hb, ho + q * 6 + 5, none⟩ = some (.int .u64 (sqy : Nat))) ∧ (u.cell? ⟨ub, uo + k * 6, none⟩ = some (.int .u64 (nov : Nat)) ∧ u.cell? ⟨ub, uo + k * 6 + 1, none⟩ = some (.int .i64 szv) ∧ u.cell? ⟨ub, uo + k * 6 + 2, none⟩ = some (.slice lav L1v lcv) ∧ u.cell? ⟨ub, uo + k * 6 + 3, none⟩ = some (.slice mav L2v mcv) ∧ u.cell? ⟨ub, uo + k * 6 + 4, none⟩ = some (.int .i64 env) ∧ u.cell? ⟨ub, uo + k * 6 + 5, none⟩ = some (.int .u64 (sqv : Nat))) ∧ u.cell? ⟨J, 0, none⟩ = some (.int .i64 (z : Nat)) ∧ u.cell? ⟨J, 1, none⟩ = some (.slice (some ⟨ub, uo, none⟩) N1 uc) from by
                    obtain ⟨y0, y1, y2, y3, y4, y5⟩ := Y6.out u tu
                    obtain ⟨x0, x1, x2, x3, x4, x5⟩ := V6.out u (HTQ.out.trans tu)
                    obtain ⟨j0, j1, j2, j3, j4, j5⟩ := SJ.out u (HT6.out.trans tu)
                    exact ⟨⟨y0, y1, y2, y3, y4, y5⟩, ⟨x0, x1, x2, x3, x4, x5⟩, j0, j1⟩)
                  clear h6 Y6
                  go_upto_region 19 with (fail)
                  have tV : Turns (fun _ => False) wr wr.drew := (Turns.refl _ _).drew
                  have SK := SK2
                  clear SK2
                  cases ov with
                  | true =>
                    have ham : am = true := UPY.out (by first | rfl | trivial)
                    subst ham
                    refine wp_region_held_drew (S := fun u => (u.cell? ⟨hb, ho + q * 6, none⟩ = some (.int .u64 (noy : Nat)) ∧ u.cell? ⟨hb, ho + q * 6 + 1, none⟩ = some (.int .i64 szy) ∧ u.cell? ⟨hb, ho + q * 6 + 2, none⟩ = some (.slice lay L1y lcy) ∧ u.cell? ⟨hb, ho + q * 6 + 3, none⟩ = some (.slice may L2y mcy) ∧ u.cell? ⟨hb, ho + q * 6 + 4, none⟩ = some (.int .i64 eny) ∧ u.cell? ⟨hb, ho + q * 6 + 5, none⟩ = some (.int .u64 (sqy : Nat))) ∧ (u.cell? ⟨ub, uo + k * 6, none⟩ = some (.int .u64 (nov : Nat)) ∧ u.cell? ⟨ub, uo + k * 6 + 1, none⟩ = some (.int .i64 szv) ∧ u.cell? ⟨ub, uo + k * 6 + 2, none⟩ = some (.slice lav L1v lcv) ∧ u.cell? ⟨ub, uo + k * 6 + 3, none⟩ = some (.slice mav L2v mcv) ∧ u.cell? ⟨ub, uo + k * 6 + 4, none⟩ = some (.int .i64 env) ∧ u.cell? ⟨ub, uo + k * 6 + 5, none⟩ = some (.int .u64 (sqv : Nat))) ∧ u.cell? ⟨J, 0, none⟩ = some (.int .i64 (z : Nat)) ∧ u.cell? ⟨J, 1, none⟩ = some (.slice (some ⟨ub, uo, none⟩) N1 uc)) (by kernel_rfl) (SK.out _ tV) (fun _ => ?_)
                    change wpAnyH _ _ _ _ _ 39 (Array.replicate 39 false) _ _
                    refine wpAnyH_take (i := 0) (oi := { dst := some 98, op := Op.move (Operand.tmp 7), type := 31, pos := "law.go:110", after := #[], guard := none }) (v := .slice (some ⟨hb, ho, none⟩) XL xc) rfl (by kernel_rfl) (by kernel_rfl) (by kernel_rfl) (fun _ _ _ h => h) (Or.inl ⟨by rfl, ?_⟩) (SK.out _ tV) ?_
                    · rintro w ⟨⟨y0, y1, y2, y3, y4, y5⟩, ⟨x0, x1, x2, x3, x4, x5⟩, j0, j1⟩
                      go_simp
                    simp only [Act.put, List.setIfInBounds_toArray, List.set_cons_zero, List.set_cons_succ]
                    refine wpAnyH_take (i := 1) (oi := { dst := some 99, op := Op.move (Operand.tmp 10), type := 3, pos := "law.go:110", after := #[], guard := none }) (v := .int .i64 (q : Nat)) rfl (by kernel_rfl) (by kernel_rfl) (by kernel_rfl) (fun _ _ _ h => h) (Or.inl ⟨by rfl, ?_⟩) (SK.out _ tV) ?_
                    · rintro w ⟨⟨y0, y1, y2, y3, y4, y5⟩, ⟨x0, x1, x2, x3, x4, x5⟩, j0, j1⟩
                      go_simp
                    simp only [Act.put, List.setIfInBounds_toArray, List.set_cons_zero, List.set_cons_succ]
                    refine wpAnyH_take (i := 2) (oi := { dst := some 100, op := Op.indexAddr 31 (Operand.tmp 98) (Operand.tmp 99), type := 0, pos := "law.go:110", after := #[{ on := 0, ground := Ground.data }, { on := 1, ground := Ground.data }], guard := none }) (v := .pointer (some ⟨hb, ho + q * 6, none⟩)) rfl (by kernel_rfl) (by kernel_rfl) (by kernel_rfl) (fun _ _ _ h => h) (Or.inl ⟨by rfl, ?_⟩) (SK.out _ tV) ?_
                    · rintro w ⟨⟨y0, y1, y2, y3, y4, y5⟩, ⟨x0, x1, x2, x3, x4, x5⟩, j0, j1⟩
                      go_simp
                    simp only [Act.put, List.setIfInBounds_toArray, List.set_cons_zero, List.set_cons_succ]
                    refine wpAnyH_take (i := 3) (oi := { dst := some 101, op := Op.load 29 (Operand.tmp 100), type := 29, pos := "law.go:110", after := #[{ on := 2, ground := Ground.data }], guard := none }) (v := .agg #[.int .u64 (noy : Nat), .int .i64 szy, .slice lay L1y lcy, .slice may L2y mcy, .int .i64 eny, .int .u64 (sqy : Nat)]) rfl (by kernel_rfl) (by kernel_rfl) (by kernel_rfl) (fun _ _ _ h => h) (Or.inl ⟨by rfl, ?_⟩) (SK.out _ tV) ?_
                    · rintro w ⟨⟨y0, y1, y2, y3, y4, y5⟩, ⟨x0, x1, x2, x3, x4, x5⟩, j0, j1⟩
                      go_simp
                    simp only [Act.put, List.setIfInBounds_toArray, List.set_cons_zero, List.set_cons_succ]
                    refine wpAnyH_take (i := 4) (oi := { dst := some 102, op := Op.fieldAddr 43 (Operand.tmp 5) 1, type := 0, pos := "law.go:110", after := #[], guard := none }) (v := .pointer (some ⟨J, 1, none⟩)) rfl (by kernel_rfl) (by kernel_rfl) (by kernel_rfl) (fun _ _ _ h => h) (Or.inl ⟨by rfl, ?_⟩) (SK.out _ tV) ?_
                    · rintro w ⟨⟨y0, y1, y2, y3, y4, y5⟩, ⟨x0, x1, x2, x3, x4, x5⟩, j0, j1⟩
                      go_simp
                    simp only [Act.put, List.setIfInBounds_toArray, List.set_cons_zero, List.set_cons_succ]
                    refine wpAnyH_take (i := 5) (oi := { dst := some 103, op := Op.load 31 (Operand.tmp 102), type := 31, pos := "law.go:110", after := #[{ on := 4, ground := Ground.data }], guard := none }) (v := .slice (some ⟨ub, uo, none⟩) N1 uc) rfl (by kernel_rfl) (by kernel_rfl) (by kernel_rfl) (fun _ _ _ h => h) (Or.inl ⟨by rfl, ?_⟩) (SK.out _ tV) ?_
                    · rintro w ⟨⟨y0, y1, y2, y3, y4, y5⟩, ⟨x0, x1, x2, x3, x4, x5⟩, j0, j1⟩
                      go_simp
                    simp only [Act.put, List.setIfInBounds_toArray, List.set_cons_zero, List.set_cons_succ]
                    refine wpAnyH_take (i := 6) (oi := { dst := some 104, op := Op.move (Operand.tmp 9), type := 3, pos := "law.go:110", after := #[], guard := none }) (v := .int .i64 (k : Nat)) rfl (by kernel_rfl) (by kernel_rfl) (by kernel_rfl) (fun _ _ _ h => h) (Or.inl ⟨by rfl, ?_⟩) (SK.out _ tV) ?_
                    · rintro w ⟨⟨y0, y1, y2, y3, y4, y5⟩, ⟨x0, x1, x2, x3, x4, x5⟩, j0, j1⟩
                      go_simp
                    simp only [Act.put, List.setIfInBounds_toArray, List.set_cons_zero, List.set_cons_succ]
                    refine wpAnyH_take (i := 7) (oi := { dst := some 105, op := Op.indexAddr 31 (Operand.tmp 103) (Operand.tmp 104), type := 0, pos := "law.go:110", after := #[{ on := 5, ground := Ground.data }, { on := 6, ground := Ground.data }], guard := none }) (v := .pointer (some ⟨ub, uo + k * 6, none⟩)) rfl (by kernel_rfl) (by kernel_rfl) (by kernel_rfl) (fun _ _ _ h => h) (Or.inl ⟨by rfl, ?_⟩) (SK.out _ tV) ?_
                    · rintro w ⟨⟨y0, y1, y2, y3, y4, y5⟩, ⟨x0, x1, x2, x3, x4, x5⟩, j0, j1⟩
                      go_simp
                    simp only [Act.put, List.setIfInBounds_toArray, List.set_cons_zero, List.set_cons_succ]
                    refine wpAnyH_take (i := 8) (oi := { dst := some 106, op := Op.load 29 (Operand.tmp 105), type := 29, pos := "law.go:110", after := #[{ on := 7, ground := Ground.data }], guard := none }) (v := .agg #[.int .u64 (nov : Nat), .int .i64 szv, .slice lav L1v lcv, .slice mav L2v mcv, .int .i64 env, .int .u64 (sqv : Nat)]) rfl (by kernel_rfl) (by kernel_rfl) (by kernel_rfl) (fun _ _ _ h => h) (Or.inl ⟨by rfl, ?_⟩) (SK.out _ tV) ?_
                    · rintro w ⟨⟨y0, y1, y2, y3, y4, y5⟩, ⟨x0, x1, x2, x3, x4, x5⟩, j0, j1⟩
                      go_simp
                    simp only [Act.put, List.setIfInBounds_toArray, List.set_cons_zero, List.set_cons_succ]
                    refine wpAnyH_ready (rs := [9]) (by kernel_rfl) (by simp) ?_
                    refine AllReadyH.cons rfl (fun K hK => ?_) AllReadyH.nil
                    go_simp
                    refine (OVL.out _ tV).mono ?_
                    rintro oo Vn ⟨rfl, tC⟩
                    have tN := tC
                    have tV := tV.trans tN
                    clear tC
                    clear tN
                    go_simp
                    refine hK.out _ _ (SK.out _ tV) (fun _ => ?_)
                    clear hK K
                    refine wpAnyH_take (i := 10) (oi := { dst := some 108, op := Op.move (Operand.tmp 107), type := 4, pos := "law.go:110", after := #[{ on := 9, ground := Ground.data }, { on := 9, ground := Ground.chain }], guard := none }) (v := .bool true) rfl (by kernel_rfl) (by kernel_rfl) (by kernel_rfl) (fun _ _ _ h => h) (Or.inl ⟨by rfl, ?_⟩) (SK.out _ tV) ?_
                    · rintro w ⟨⟨y0, y1, y2, y3, y4, y5⟩, ⟨x0, x1, x2, x3, x4, x5⟩, j0, j1⟩
                      go_simp
                    simp only [Act.put, List.setIfInBounds_toArray, List.set_cons_zero, List.set_cons_succ]
                    refine wpAnyH_take (i := 11) (oi := { dst := some 109, op := Op.fieldAddr 43 (Operand.tmp 5) 1, type := 0, pos := "law.go:110", after := #[{ on := 10, ground := Ground.guard }], guard := some (10, true) }) (v := .pointer (some ⟨J, 1, none⟩)) rfl (by kernel_rfl) (by kernel_rfl) (by kernel_rfl) (fun _ _ _ h => h) (Or.inl ⟨by rfl, ?_⟩) (SK.out _ tV) ?_
                    · rintro w ⟨⟨y0, y1, y2, y3, y4, y5⟩, ⟨x0, x1, x2, x3, x4, x5⟩, j0, j1⟩
                      go_simp
                    simp only [Act.put, List.setIfInBounds_toArray, List.set_cons_zero, List.set_cons_succ]
                    refine wpAnyH_take (i := 12) (oi := { dst := some 110, op := Op.load 31 (Operand.tmp 109), type := 31, pos := "law.go:110", after := #[{ on := 11, ground := Ground.data }, { on := 10, ground := Ground.guard }], guard := some (10, true) }) (v := .slice (some ⟨ub, uo, none⟩) N1 uc) rfl (by kernel_rfl) (by kernel_rfl) (by kernel_rfl) (fun _ _ _ h => h) (Or.inl ⟨by rfl, ?_⟩) (SK.out _ tV) ?_
                    · rintro w ⟨⟨y0, y1, y2, y3, y4, y5⟩, ⟨x0, x1, x2, x3, x4, x5⟩, j0, j1⟩
                      go_simp
                    simp only [Act.put, List.setIfInBounds_toArray, List.set_cons_zero, List.set_cons_succ]
                    refine wpAnyH_take (i := 13) (oi := { dst := some 111, op := Op.move (Operand.tmp 7), type := 31, pos := "law.go:110", after := #[{ on := 10, ground := Ground.guard }], guard := some (10, true) }) (v := .slice (some ⟨hb, ho, none⟩) XL xc) rfl (by kernel_rfl) (by kernel_rfl) (by kernel_rfl) (fun _ _ _ h => h) (Or.inl ⟨by rfl, ?_⟩) (SK.out _ tV) ?_
                    · rintro w ⟨⟨y0, y1, y2, y3, y4, y5⟩, ⟨x0, x1, x2, x3, x4, x5⟩, j0, j1⟩
                      go_simp
                    simp only [Act.put, List.setIfInBounds_toArray, List.set_cons_zero, List.set_cons_succ]
                    refine wpAnyH_take (i := 14) (oi := { dst := some 112, op := Op.move (Operand.tmp 10), type := 3, pos := "law.go:110", after := #[{ on := 10, ground := Ground.guard }], guard := some (10, true) }) (v := .int .i64 (q : Nat)) rfl (by kernel_rfl) (by kernel_rfl) (by kernel_rfl) (fun _ _ _ h => h) (Or.inl ⟨by rfl, ?_⟩) (SK.out _ tV) ?_
                    · rintro w ⟨⟨y0, y1, y2, y3, y4, y5⟩, ⟨x0, x1, x2, x3, x4, x5⟩, j0, j1⟩
                      go_simp
                    simp only [Act.put, List.setIfInBounds_toArray, List.set_cons_zero, List.set_cons_succ]
                    refine wpAnyH_take (i := 15) (oi := { dst := some 113, op := Op.indexAddr 31 (Operand.tmp 111) (Operand.tmp 112), type := 0, pos := "law.go:110", after := #[{ on := 13, ground := Ground.data }, { on := 14, ground := Ground.data }, { on := 10, ground := Ground.guard }], guard := some (10, true) }) (v := .pointer (some ⟨hb, ho + q * 6, none⟩)) rfl (by kernel_rfl) (by kernel_rfl) (by kernel_rfl) (fun _ _ _ h => h) (Or.inl ⟨by rfl, ?_⟩) (SK.out _ tV) ?_
                    · rintro w ⟨⟨y0, y1, y2, y3, y4, y5⟩, ⟨x0, x1, x2, x3, x4, x5⟩, j0, j1⟩
                      go_simp
                    simp only [Act.put, List.setIfInBounds_toArray, List.set_cons_zero, List.set_cons_succ]
                    refine wpAnyH_take (i := 16) (oi := { dst := some 114, op := Op.load 29 (Operand.tmp 113), type := 29, pos := "law.go:110", after := #[{ on := 15, ground := Ground.data }, { on := 10, ground := Ground.guard }], guard := some (10, true) }) (v := .agg #[.int .u64 (noy : Nat), .int .i64 szy, .slice lay L1y lcy, .slice may L2y mcy, .int .i64 eny, .int .u64 (sqy : Nat)]) rfl (by kernel_rfl) (by kernel_rfl) (by kernel_rfl) (fun _ _ _ h => h) (Or.inl ⟨by rfl, ?_⟩) (SK.out _ tV) ?_
                    · rintro w ⟨⟨y0, y1, y2, y3, y4, y5⟩, ⟨x0, x1, x2, x3, x4, x5⟩, j0, j1⟩
                      go_simp
                    simp only [Act.put, List.setIfInBounds_toArray, List.set_cons_zero, List.set_cons_succ]
                    refine wpAnyH_ready (rs := [17]) (by kernel_rfl) (by simp) ?_
                    refine AllReadyH.cons rfl (fun K hK => ?_) AllReadyH.nil
                    go_simp
                    refine (AMU.out _ tV).mono ?_
                    rintro oo Vn ⟨rfl, tC⟩
                    have tN := tC
                    have tV := tV.trans tN
                    clear tC
                    clear tN
                    go_simp
                    refine hK.out _ _ (SK.out _ tV) (fun _ => ?_)
                    clear hK K
                    refine wpAnyH_take (i := 18) (oi := { dst := some 116, op := Op.unOp UnOp.not 4 (Operand.tmp 115), type := 4, pos := "law.go:110", after := #[{ on := 17, ground := Ground.data }, { on := 10, ground := Ground.guard }], guard := some (10, true) }) (v := .bool false) rfl (by kernel_rfl) (by kernel_rfl) (by kernel_rfl) (fun _ _ _ h => h) (Or.inl ⟨by rfl, ?_⟩) (SK.out _ tV) ?_
                    · rintro w ⟨⟨y0, y1, y2, y3, y4, y5⟩, ⟨x0, x1, x2, x3, x4, x5⟩, j0, j1⟩
                      go_simp
                    simp only [Act.put, List.setIfInBounds_toArray, List.set_cons_zero, List.set_cons_succ]
                    refine wpAnyH_take (i := 19) (oi := { dst := some 117, op := Op.pick (Operand.tmp 108) (Operand.tmp 116) (Operand.const (Value.bool false)), type := 4, pos := "law.go:110", after := #[{ on := 10, ground := Ground.data }, { on := 18, ground := Ground.data }], guard := none }) (v := .bool false) rfl (by kernel_rfl) (by kernel_rfl) (by kernel_rfl) (fun _ _ _ h => h) (Or.inl ⟨by rfl, ?_⟩) (SK.out _ tV) ?_
                    · rintro w ⟨⟨y0, y1, y2, y3, y4, y5⟩, ⟨x0, x1, x2, x3, x4, x5⟩, j0, j1⟩
                      go_simp
                    simp only [Act.put, List.setIfInBounds_toArray, List.set_cons_zero, List.set_cons_succ]
                    refine wpAnyH_take (i := 20) (oi := { dst := some 118, op := Op.move (Operand.tmp 117), type := 4, pos := "law.go:110", after := #[{ on := 19, ground := Ground.data }, { on := 17, ground := Ground.chain }], guard := none }) (v := .bool false) rfl (by kernel_rfl) (by kernel_rfl) (by kernel_rfl) (fun _ _ _ h => h) (Or.inl ⟨by rfl, ?_⟩) (SK.out _ tV) ?_
                    · rintro w ⟨⟨y0, y1, y2, y3, y4, y5⟩, ⟨x0, x1, x2, x3, x4, x5⟩, j0, j1⟩
                      go_simp
                    simp only [Act.put, List.setIfInBounds_toArray, List.set_cons_zero, List.set_cons_succ]
                    refine wpAnyH_take (i := 21) (oi := { dst := some 119, op := Op.fieldAddr 43 (Operand.tmp 5) 0, type := 0, pos := "law.go:110", after := #[{ on := 20, ground := Ground.guard }], guard := some (20, true) }) (v := undef) rfl (by kernel_rfl) (by kernel_rfl) (by kernel_rfl) (fun _ _ _ h => h) (Or.inr ⟨by rfl, rfl⟩) (SK.out _ tV) ?_
                    simp only [Act.put, List.setIfInBounds_toArray, List.set_cons_zero, List.set_cons_succ]
                    refine wpAnyH_take (i := 22) (oi := { dst := some 120, op := Op.load 3 (Operand.tmp 119), type := 3, pos := "law.go:110", after := #[{ on := 21, ground := Ground.data }, { on := 20, ground := Ground.guard }], guard := some (20, true) }) (v := undef) rfl (by kernel_rfl) (by kernel_rfl) (by kernel_rfl) (fun _ _ _ h => h) (Or.inr ⟨by rfl, rfl⟩) (SK.out _ tV) ?_
                    simp only [Act.put, List.setIfInBounds_toArray, List.set_cons_zero, List.set_cons_succ]
                    refine wpAnyH_take (i := 23) (oi := { dst := some 121, op := Op.binOp BinOp.gtr 3 (Operand.tmp 120) (Operand.const (Value.int IntKind.i64 0)) 3, type := 4, pos := "law.go:110", after := #[{ on := 22, ground := Ground.data }, { on := 20, ground := Ground.guard }], guard := some (20, true) }) (v := undef) rfl (by kernel_rfl) (by kernel_rfl) (by kernel_rfl) (fun _ _ _ h => h) (Or.inr ⟨by rfl, rfl⟩) (SK.out _ tV) ?_
                    simp only [Act.put, List.setIfInBounds_toArray, List.set_cons_zero, List.set_cons_succ]
                    refine wpAnyH_take (i := 24) (oi := { dst := some 122, op := Op.move (Operand.tmp 121), type := 4, pos := "law.go:110", after := #[{ on := 23, ground := Ground.data }, { on := 20, ground := Ground.chain }, { on := 20, ground := Ground.guard }], guard := some (20, true) }) (v := undef) rfl (by kernel_rfl) (by kernel_rfl) (by kernel_rfl) (fun _ _ _ h => h) (Or.inr ⟨by rfl, rfl⟩) (SK.out _ tV) ?_
                    simp only [Act.put, List.setIfInBounds_toArray, List.set_cons_zero, List.set_cons_succ]
                    refine wpAnyH_take (i := 25) (oi := { dst := some 123, op := Op.move (Operand.tmp 7), type := 31, pos := "law.go:110", after := #[{ on := 24, ground := Ground.guard }], guard := some (24, false) }) (v := undef) rfl (by kernel_rfl) (by kernel_rfl) (by kernel_rfl) (fun _ _ _ h => h) (Or.inr ⟨by rfl, rfl⟩) (SK.out _ tV) ?_
                    simp only [Act.put, List.setIfInBounds_toArray, List.set_cons_zero, List.set_cons_succ]
                    refine wpAnyH_take (i := 26) (oi := { dst := some 124, op := Op.move (Operand.tmp 10), type := 3, pos := "law.go:110", after := #[{ on := 24, ground := Ground.guard }], guard := some (24, false) }) (v := undef) rfl (by kernel_rfl) (by kernel_rfl) (by kernel_rfl) (fun _ _ _ h => h) (Or.inr ⟨by rfl, rfl⟩) (SK.out _ tV) ?_
                    simp only [Act.put, List.setIfInBounds_toArray, List.set_cons_zero, List.set_cons_succ]
                    refine wpAnyH_take (i := 27) (oi := { dst := some 125, op := Op.indexAddr 31 (Operand.tmp 123) (Operand.tmp 124), type := 0, pos := "law.go:110", after := #[{ on := 25, ground := Ground.data }, { on := 26, ground := Ground.data }, { on := 24, ground := Ground.guard }], guard := some (24, false) }) (v := undef) rfl (by kernel_rfl) (by kernel_rfl) (by kernel_rfl) (fun _ _ _ h => h) (Or.inr ⟨by rfl, rfl⟩) (SK.out _ tV) ?_
                    simp only [Act.put, List.setIfInBounds_toArray, List.set_cons_zero, List.set_cons_succ]
                    refine wpAnyH_take (i := 28) (oi := { dst := some 126, op := Op.fieldAddr 29 (Operand.tmp 125) 0, type := 0, pos := "law.go:110", after := #[{ on := 27, ground := Ground.data }, { on := 24, ground := Ground.guard }], guard := some (24, false) }) (v := undef) rfl (by kernel_rfl) (by kernel_rfl) (by kernel_rfl) (fun _ _ _ h => h) (Or.inr ⟨by rfl, rfl⟩) (SK.out _ tV) ?_
                    simp only [Act.put, List.setIfInBounds_toArray, List.set_cons_zero, List.set_cons_succ]
                    refine wpAnyH_take (i := 29) (oi := { dst := some 127, op := Op.load 23 (Operand.tmp 126), type := 23, pos := "law.go:110", after := #[{ on := 28, ground := Ground.data }, { on := 24, ground := Ground.guard }], guard := some (24, false) }) (v := undef) rfl (by kernel_rfl) (by kernel_rfl) (by kernel_rfl) (fun _ _ _ h => h) (Or.inr ⟨by rfl, rfl⟩) (SK.out _ tV) ?_
                    simp only [Act.put, List.setIfInBounds_toArray, List.set_cons_zero, List.set_cons_succ]
                    refine wpAnyH_take (i := 30) (oi := { dst := some 128, op := Op.fieldAddr 43 (Operand.tmp 5) 1, type := 0, pos := "law.go:110", after := #[{ on := 24, ground := Ground.guard }], guard := some (24, false) }) (v := undef) rfl (by kernel_rfl) (by kernel_rfl) (by kernel_rfl) (fun _ _ _ h => h) (Or.inr ⟨by rfl, rfl⟩) (SK.out _ tV) ?_
                    simp only [Act.put, List.setIfInBounds_toArray, List.set_cons_zero, List.set_cons_succ]
                    refine wpAnyH_take (i := 31) (oi := { dst := some 129, op := Op.load 31 (Operand.tmp 128), type := 31, pos := "law.go:110", after := #[{ on := 30, ground := Ground.data }, { on := 24, ground := Ground.guard }], guard := some (24, false) }) (v := undef) rfl (by kernel_rfl) (by kernel_rfl) (by kernel_rfl) (fun _ _ _ h => h) (Or.inr ⟨by rfl, rfl⟩) (SK.out _ tV) ?_
                    simp only [Act.put, List.setIfInBounds_toArray, List.set_cons_zero, List.set_cons_succ]
                    refine wpAnyH_take (i := 32) (oi := { dst := some 130, op := Op.move (Operand.tmp 9), type := 3, pos := "law.go:110", after := #[{ on := 24, ground := Ground.guard }], guard := some (24, false) }) (v := undef) rfl (by kernel_rfl) (by kernel_rfl) (by kernel_rfl) (fun _ _ _ h => h) (Or.inr ⟨by rfl, rfl⟩) (SK.out _ tV) ?_
                    simp only [Act.put, List.setIfInBounds_toArray, List.set_cons_zero, List.set_cons_succ]
                    refine wpAnyH_take (i := 33) (oi := { dst := some 131, op := Op.indexAddr 31 (Operand.tmp 129) (Operand.tmp 130), type := 0, pos := "law.go:110", after := #[{ on := 31, ground := Ground.data }, { on := 32, ground := Ground.data }, { on := 24, ground := Ground.guard }], guard := some (24, false) }) (v := undef) rfl (by kernel_rfl) (by kernel_rfl) (by kernel_rfl) (fun _ _ _ h => h) (Or.inr ⟨by rfl, rfl⟩) (SK.out _ tV) ?_
                    simp only [Act.put, List.setIfInBounds_toArray, List.set_cons_zero, List.set_cons_succ]
                    refine wpAnyH_take (i := 34) (oi := { dst := some 132, op := Op.fieldAddr 29 (Operand.tmp 131) 0, type := 0, pos := "law.go:110", after := #[{ on := 33, ground := Ground.data }, { on := 24, ground := Ground.guard }], guard := some (24, false) }) (v := undef) rfl (by kernel_rfl) (by kernel_rfl) (by kernel_rfl) (fun _ _ _ h => h) (Or.inr ⟨by rfl, rfl⟩) (SK.out _ tV) ?_
                    simp only [Act.put, List.setIfInBounds_toArray, List.set_cons_zero, List.set_cons_succ]
                    refine wpAnyH_take (i := 35) (oi := { dst := some 133, op := Op.load 23 (Operand.tmp 132), type := 23, pos := "law.go:110", after := #[{ on := 34, ground := Ground.data }, { on := 24, ground := Ground.guard }], guard := some (24, false) }) (v := undef) rfl (by kernel_rfl) (by kernel_rfl) (by kernel_rfl) (fun _ _ _ h => h) (Or.inr ⟨by rfl, rfl⟩) (SK.out _ tV) ?_
                    simp only [Act.put, List.setIfInBounds_toArray, List.set_cons_zero, List.set_cons_succ]
                    refine wpAnyH_take (i := 36) (oi := { dst := some 134, op := Op.binOp BinOp.lss 23 (Operand.tmp 127) (Operand.tmp 133) 23, type := 4, pos := "law.go:110", after := #[{ on := 29, ground := Ground.data }, { on := 35, ground := Ground.data }, { on := 24, ground := Ground.guard }], guard := some (24, false) }) (v := undef) rfl (by kernel_rfl) (by kernel_rfl) (by kernel_rfl) (fun _ _ _ h => h) (Or.inr ⟨by rfl, rfl⟩) (SK.out _ tV) ?_
                    simp only [Act.put, List.setIfInBounds_toArray, List.set_cons_zero, List.set_cons_succ]
                    refine wpAnyH_take (i := 37) (oi := { dst := some 135, op := Op.pick (Operand.tmp 122) (Operand.const (Value.bool true)) (Operand.tmp 134), type := 4, pos := "law.go:110", after := #[{ on := 24, ground := Ground.data }, { on := 36, ground := Ground.data }, { on := 20, ground := Ground.guard }], guard := some (20, true) }) (v := undef) rfl (by kernel_rfl) (by kernel_rfl) (by kernel_rfl) (fun _ _ _ h => h) (Or.inr ⟨by rfl, rfl⟩) (SK.out _ tV) ?_
                    simp only [Act.put, List.setIfInBounds_toArray, List.set_cons_zero, List.set_cons_succ]
                    refine wpAnyH_take (i := 38) (oi := { dst := some 136, op := Op.pick (Operand.tmp 118) (Operand.tmp 135) (Operand.const (Value.bool false)), type := 4, pos := "law.go:110", after := #[{ on := 20, ground := Ground.data }, { on := 37, ground := Ground.data }], guard := none }) (v := .bool false) rfl (by kernel_rfl) (by kernel_rfl) (by kernel_rfl) (fun _ _ _ h => h) (Or.inl ⟨by rfl, ?_⟩) (SK.out _ tV) ?_
                    · rintro w ⟨⟨y0, y1, y2, y3, y4, y5⟩, ⟨x0, x1, x2, x3, x4, x5⟩, j0, j1⟩
                      go_simp
                    simp only [Act.put, List.setIfInBounds_toArray, List.set_cons_zero, List.set_cons_succ]
                    refine wpAnyH_done (by kernel_rfl) ?_ _
                    have TU := hide tV
                    clear tV
                    go_wp2_with fail
                    go_roundw
                    case rel => exact ⟨q + 1, by go_num, by omega, HTQ.out.trans TU.out⟩
                    case measure => simp [intOf]; omega
                  | false =>
                    refine wp_region_held_drew (S := fun u => (u.cell? ⟨hb, ho + q * 6, none⟩ = some (.int .u64 (noy : Nat)) ∧ u.cell? ⟨hb, ho + q * 6 + 1, none⟩ = some (.int .i64 szy) ∧ u.cell? ⟨hb, ho + q * 6 + 2, none⟩ = some (.slice lay L1y lcy) ∧ u.cell? ⟨hb, ho + q * 6 + 3, none⟩ = some (.slice may L2y mcy) ∧ u.cell? ⟨hb, ho + q * 6 + 4, none⟩ = some (.int .i64 eny) ∧ u.cell? ⟨hb, ho + q * 6 + 5, none⟩ = some (.int .u64 (sqy : Nat))) ∧ (u.cell? ⟨ub, uo + k * 6, none⟩ = some (.int .u64 (nov : Nat)) ∧ u.cell? ⟨ub, uo + k * 6 + 1, none⟩ = some (.int .i64 szv) ∧ u.cell? ⟨ub, uo + k * 6 + 2, none⟩ = some (.slice lav L1v lcv) ∧ u.cell? ⟨ub, uo + k * 6 + 3, none⟩ = some (.slice mav L2v mcv) ∧ u.cell? ⟨ub, uo + k * 6 + 4, none⟩ = some (.int .i64 env) ∧ u.cell? ⟨ub, uo + k * 6 + 5, none⟩ = some (.int .u64 (sqv : Nat))) ∧ u.cell? ⟨J, 0, none⟩ = some (.int .i64 (z : Nat)) ∧ u.cell? ⟨J, 1, none⟩ = some (.slice (some ⟨ub, uo, none⟩) N1 uc)) (by kernel_rfl) (SK.out _ tV) (fun _ => ?_)
                    change wpAnyH _ _ _ _ _ 39 (Array.replicate 39 false) _ _
                    refine wpAnyH_take (i := 0) (oi := { dst := some 98, op := Op.move (Operand.tmp 7), type := 31, pos := "law.go:110", after := #[], guard := none }) (v := .slice (some ⟨hb, ho, none⟩) XL xc) rfl (by kernel_rfl) (by kernel_rfl) (by kernel_rfl) (fun _ _ _ h => h) (Or.inl ⟨by rfl, ?_⟩) (SK.out _ tV) ?_
                    · rintro w ⟨⟨y0, y1, y2, y3, y4, y5⟩, ⟨x0, x1, x2, x3, x4, x5⟩, j0, j1⟩
                      go_simp
                    simp only [Act.put, List.setIfInBounds_toArray, List.set_cons_zero, List.set_cons_succ]
                    refine wpAnyH_take (i := 1) (oi := { dst := some 99, op := Op.move (Operand.tmp 10), type := 3, pos := "law.go:110", after := #[], guard := none }) (v := .int .i64 (q : Nat)) rfl (by kernel_rfl) (by kernel_rfl) (by kernel_rfl) (fun _ _ _ h => h) (Or.inl ⟨by rfl, ?_⟩) (SK.out _ tV) ?_
                    · rintro w ⟨⟨y0, y1, y2, y3, y4, y5⟩, ⟨x0, x1, x2, x3, x4, x5⟩, j0, j1⟩
                      go_simp
                    simp only [Act.put, List.setIfInBounds_toArray, List.set_cons_zero, List.set_cons_succ]
                    refine wpAnyH_take (i := 2) (oi := { dst := some 100, op := Op.indexAddr 31 (Operand.tmp 98) (Operand.tmp 99), type := 0, pos := "law.go:110", after := #[{ on := 0, ground := Ground.data }, { on := 1, ground := Ground.data }], guard := none }) (v := .pointer (some ⟨hb, ho + q * 6, none⟩)) rfl (by kernel_rfl) (by kernel_rfl) (by kernel_rfl) (fun _ _ _ h => h) (Or.inl ⟨by rfl, ?_⟩) (SK.out _ tV) ?_
                    · rintro w ⟨⟨y0, y1, y2, y3, y4, y5⟩, ⟨x0, x1, x2, x3, x4, x5⟩, j0, j1⟩
                      go_simp
                    simp only [Act.put, List.setIfInBounds_toArray, List.set_cons_zero, List.set_cons_succ]
                    refine wpAnyH_take (i := 3) (oi := { dst := some 101, op := Op.load 29 (Operand.tmp 100), type := 29, pos := "law.go:110", after := #[{ on := 2, ground := Ground.data }], guard := none }) (v := .agg #[.int .u64 (noy : Nat), .int .i64 szy, .slice lay L1y lcy, .slice may L2y mcy, .int .i64 eny, .int .u64 (sqy : Nat)]) rfl (by kernel_rfl) (by kernel_rfl) (by kernel_rfl) (fun _ _ _ h => h) (Or.inl ⟨by rfl, ?_⟩) (SK.out _ tV) ?_
                    · rintro w ⟨⟨y0, y1, y2, y3, y4, y5⟩, ⟨x0, x1, x2, x3, x4, x5⟩, j0, j1⟩
                      go_simp
                    simp only [Act.put, List.setIfInBounds_toArray, List.set_cons_zero, List.set_cons_succ]
                    refine wpAnyH_take (i := 4) (oi := { dst := some 102, op := Op.fieldAddr 43 (Operand.tmp 5) 1, type := 0, pos := "law.go:110", after := #[], guard := none }) (v := .pointer (some ⟨J, 1, none⟩)) rfl (by kernel_rfl) (by kernel_rfl) (by kernel_rfl) (fun _ _ _ h => h) (Or.inl ⟨by rfl, ?_⟩) (SK.out _ tV) ?_
                    · rintro w ⟨⟨y0, y1, y2, y3, y4, y5⟩, ⟨x0, x1, x2, x3, x4, x5⟩, j0, j1⟩
                      go_simp
                    simp only [Act.put, List.setIfInBounds_toArray, List.set_cons_zero, List.set_cons_succ]
                    refine wpAnyH_take (i := 5) (oi := { dst := some 103, op := Op.load 31 (Operand.tmp 102), type := 31, pos := "law.go:110", after := #[{ on := 4, ground := Ground.data }], guard := none }) (v := .slice (some ⟨ub, uo, none⟩) N1 uc) rfl (by kernel_rfl) (by kernel_rfl) (by kernel_rfl) (fun _ _ _ h => h) (Or.inl ⟨by rfl, ?_⟩) (SK.out _ tV) ?_
                    · rintro w ⟨⟨y0, y1, y2, y3, y4, y5⟩, ⟨x0, x1, x2, x3, x4, x5⟩, j0, j1⟩
                      go_simp
                    simp only [Act.put, List.setIfInBounds_toArray, List.set_cons_zero, List.set_cons_succ]
                    refine wpAnyH_take (i := 6) (oi := { dst := some 104, op := Op.move (Operand.tmp 9), type := 3, pos := "law.go:110", after := #[], guard := none }) (v := .int .i64 (k : Nat)) rfl (by kernel_rfl) (by kernel_rfl) (by kernel_rfl) (fun _ _ _ h => h) (Or.inl ⟨by rfl, ?_⟩) (SK.out _ tV) ?_
                    · rintro w ⟨⟨y0, y1, y2, y3, y4, y5⟩, ⟨x0, x1, x2, x3, x4, x5⟩, j0, j1⟩
                      go_simp
                    simp only [Act.put, List.setIfInBounds_toArray, List.set_cons_zero, List.set_cons_succ]
                    refine wpAnyH_take (i := 7) (oi := { dst := some 105, op := Op.indexAddr 31 (Operand.tmp 103) (Operand.tmp 104), type := 0, pos := "law.go:110", after := #[{ on := 5, ground := Ground.data }, { on := 6, ground := Ground.data }], guard := none }) (v := .pointer (some ⟨ub, uo + k * 6, none⟩)) rfl (by kernel_rfl) (by kernel_rfl) (by kernel_rfl) (fun _ _ _ h => h) (Or.inl ⟨by rfl, ?_⟩) (SK.out _ tV) ?_
                    · rintro w ⟨⟨y0, y1, y2, y3, y4, y5⟩, ⟨x0, x1, x2, x3, x4, x5⟩, j0, j1⟩
                      go_simp
                    simp only [Act.put, List.setIfInBounds_toArray, List.set_cons_zero, List.set_cons_succ]
                    refine wpAnyH_take (i := 8) (oi := { dst := some 106, op := Op.load 29 (Operand.tmp 105), type := 29, pos := "law.go:110", after := #[{ on := 7, ground := Ground.data }], guard := none }) (v := .agg #[.int .u64 (nov : Nat), .int .i64 szv, .slice lav L1v lcv, .slice mav L2v mcv, .int .i64 env, .int .u64 (sqv : Nat)]) rfl (by kernel_rfl) (by kernel_rfl) (by kernel_rfl) (fun _ _ _ h => h) (Or.inl ⟨by rfl, ?_⟩) (SK.out _ tV) ?_
                    · rintro w ⟨⟨y0, y1, y2, y3, y4, y5⟩, ⟨x0, x1, x2, x3, x4, x5⟩, j0, j1⟩
                      go_simp
                    simp only [Act.put, List.setIfInBounds_toArray, List.set_cons_zero, List.set_cons_succ]
                    refine wpAnyH_ready (rs := [9]) (by kernel_rfl) (by simp) ?_
                    refine AllReadyH.cons rfl (fun K hK => ?_) AllReadyH.nil
                    go_simp
                    refine (OVL.out _ tV).mono ?_
                    rintro oo Vn ⟨rfl, tC⟩
                    have tN := tC
                    have tV := tV.trans tN
                    clear tC
                    clear tN
                    go_simp
                    refine hK.out _ _ (SK.out _ tV) (fun _ => ?_)
                    clear hK K
                    refine wpAnyH_take (i := 10) (oi := { dst := some 108, op := Op.move (Operand.tmp 107), type := 4, pos := "law.go:110", after := #[{ on := 9, ground := Ground.data }, { on := 9, ground := Ground.chain }], guard := none }) (v := .bool false) rfl (by kernel_rfl) (by kernel_rfl) (by kernel_rfl) (fun _ _ _ h => h) (Or.inl ⟨by rfl, ?_⟩) (SK.out _ tV) ?_
                    · rintro w ⟨⟨y0, y1, y2, y3, y4, y5⟩, ⟨x0, x1, x2, x3, x4, x5⟩, j0, j1⟩
                      go_simp
                    simp only [Act.put, List.setIfInBounds_toArray, List.set_cons_zero, List.set_cons_succ]
                    refine wpAnyH_take (i := 11) (oi := { dst := some 109, op := Op.fieldAddr 43 (Operand.tmp 5) 1, type := 0, pos := "law.go:110", after := #[{ on := 10, ground := Ground.guard }], guard := some (10, true) }) (v := undef) rfl (by kernel_rfl) (by kernel_rfl) (by kernel_rfl) (fun _ _ _ h => h) (Or.inr ⟨by rfl, rfl⟩) (SK.out _ tV) ?_
                    simp only [Act.put, List.setIfInBounds_toArray, List.set_cons_zero, List.set_cons_succ]
                    refine wpAnyH_take (i := 12) (oi := { dst := some 110, op := Op.load 31 (Operand.tmp 109), type := 31, pos := "law.go:110", after := #[{ on := 11, ground := Ground.data }, { on := 10, ground := Ground.guard }], guard := some (10, true) }) (v := undef) rfl (by kernel_rfl) (by kernel_rfl) (by kernel_rfl) (fun _ _ _ h => h) (Or.inr ⟨by rfl, rfl⟩) (SK.out _ tV) ?_
                    simp only [Act.put, List.setIfInBounds_toArray, List.set_cons_zero, List.set_cons_succ]
                    refine wpAnyH_take (i := 13) (oi := { dst := some 111, op := Op.move (Operand.tmp 7), type := 31, pos := "law.go:110", after := #[{ on := 10, ground := Ground.guard }], guard := some (10, true) }) (v := undef) rfl (by kernel_rfl) (by kernel_rfl) (by kernel_rfl) (fun _ _ _ h => h) (Or.inr ⟨by rfl, rfl⟩) (SK.out _ tV) ?_
                    simp only [Act.put, List.setIfInBounds_toArray, List.set_cons_zero, List.set_cons_succ]
                    refine wpAnyH_take (i := 14) (oi := { dst := some 112, op := Op.move (Operand.tmp 10), type := 3, pos := "law.go:110", after := #[{ on := 10, ground := Ground.guard }], guard := some (10, true) }) (v := undef) rfl (by kernel_rfl) (by kernel_rfl) (by kernel_rfl) (fun _ _ _ h => h) (Or.inr ⟨by rfl, rfl⟩) (SK.out _ tV) ?_
                    simp only [Act.put, List.setIfInBounds_toArray, List.set_cons_zero, List.set_cons_succ]
                    refine wpAnyH_take (i := 15) (oi := { dst := some 113, op := Op.indexAddr 31 (Operand.tmp 111) (Operand.tmp 112), type := 0, pos := "law.go:110", after := #[{ on := 13, ground := Ground.data }, { on := 14, ground := Ground.data }, { on := 10, ground := Ground.guard }], guard := some (10, true) }) (v := undef) rfl (by kernel_rfl) (by kernel_rfl) (by kernel_rfl) (fun _ _ _ h => h) (Or.inr ⟨by rfl, rfl⟩) (SK.out _ tV) ?_
                    simp only [Act.put, List.setIfInBounds_toArray, List.set_cons_zero, List.set_cons_succ]
                    refine wpAnyH_take (i := 16) (oi := { dst := some 114, op := Op.load 29 (Operand.tmp 113), type := 29, pos := "law.go:110", after := #[{ on := 15, ground := Ground.data }, { on := 10, ground := Ground.guard }], guard := some (10, true) }) (v := undef) rfl (by kernel_rfl) (by kernel_rfl) (by kernel_rfl) (fun _ _ _ h => h) (Or.inr ⟨by rfl, rfl⟩) (SK.out _ tV) ?_
                    simp only [Act.put, List.setIfInBounds_toArray, List.set_cons_zero, List.set_cons_succ]
                    refine wpAnyH_take (i := 17) (oi := { dst := some 115, op := Op.call { callee := Callee.value (Operand.func 23), args := #[Operand.tmp 110, Operand.tmp 114], argTypes := #[31, 29] }, type := 4, pos := "law.go:110", after := #[{ on := 12, ground := Ground.data }, { on := 16, ground := Ground.data }, { on := 10, ground := Ground.chain }, { on := 10, ground := Ground.guard }], guard := some (10, true) }) (v := undef) rfl (by kernel_rfl) (by kernel_rfl) (by kernel_rfl) (fun _ _ _ h => h) (Or.inr ⟨by rfl, rfl⟩) (SK.out _ tV) ?_
                    simp only [Act.put, List.setIfInBounds_toArray, List.set_cons_zero, List.set_cons_succ]
                    refine wpAnyH_take (i := 18) (oi := { dst := some 116, op := Op.unOp UnOp.not 4 (Operand.tmp 115), type := 4, pos := "law.go:110", after := #[{ on := 17, ground := Ground.data }, { on := 10, ground := Ground.guard }], guard := some (10, true) }) (v := undef) rfl (by kernel_rfl) (by kernel_rfl) (by kernel_rfl) (fun _ _ _ h => h) (Or.inr ⟨by rfl, rfl⟩) (SK.out _ tV) ?_
                    simp only [Act.put, List.setIfInBounds_toArray, List.set_cons_zero, List.set_cons_succ]
                    refine wpAnyH_take (i := 19) (oi := { dst := some 117, op := Op.pick (Operand.tmp 108) (Operand.tmp 116) (Operand.const (Value.bool false)), type := 4, pos := "law.go:110", after := #[{ on := 10, ground := Ground.data }, { on := 18, ground := Ground.data }], guard := none }) (v := .bool false) rfl (by kernel_rfl) (by kernel_rfl) (by kernel_rfl) (fun _ _ _ h => h) (Or.inl ⟨by rfl, ?_⟩) (SK.out _ tV) ?_
                    · rintro w ⟨⟨y0, y1, y2, y3, y4, y5⟩, ⟨x0, x1, x2, x3, x4, x5⟩, j0, j1⟩
                      go_simp
                    simp only [Act.put, List.setIfInBounds_toArray, List.set_cons_zero, List.set_cons_succ]
                    refine wpAnyH_take (i := 20) (oi := { dst := some 118, op := Op.move (Operand.tmp 117), type := 4, pos := "law.go:110", after := #[{ on := 19, ground := Ground.data }, { on := 17, ground := Ground.chain }], guard := none }) (v := .bool false) rfl (by kernel_rfl) (by kernel_rfl) (by kernel_rfl) (fun _ _ _ h => h) (Or.inl ⟨by rfl, ?_⟩) (SK.out _ tV) ?_
                    · rintro w ⟨⟨y0, y1, y2, y3, y4, y5⟩, ⟨x0, x1, x2, x3, x4, x5⟩, j0, j1⟩
                      go_simp
                    simp only [Act.put, List.setIfInBounds_toArray, List.set_cons_zero, List.set_cons_succ]
                    refine wpAnyH_take (i := 21) (oi := { dst := some 119, op := Op.fieldAddr 43 (Operand.tmp 5) 0, type := 0, pos := "law.go:110", after := #[{ on := 20, ground := Ground.guard }], guard := some (20, true) }) (v := undef) rfl (by kernel_rfl) (by kernel_rfl) (by kernel_rfl) (fun _ _ _ h => h) (Or.inr ⟨by rfl, rfl⟩) (SK.out _ tV) ?_
                    simp only [Act.put, List.setIfInBounds_toArray, List.set_cons_zero, List.set_cons_succ]
                    refine wpAnyH_take (i := 22) (oi := { dst := some 120, op := Op.load 3 (Operand.tmp 119), type := 3, pos := "law.go:110", after := #[{ on := 21, ground := Ground.data }, { on := 20, ground := Ground.guard }], guard := some (20, true) }) (v := undef) rfl (by kernel_rfl) (by kernel_rfl) (by kernel_rfl) (fun _ _ _ h => h) (Or.inr ⟨by rfl, rfl⟩) (SK.out _ tV) ?_
                    simp only [Act.put, List.setIfInBounds_toArray, List.set_cons_zero, List.set_cons_succ]
                    refine wpAnyH_take (i := 23) (oi := { dst := some 121, op := Op.binOp BinOp.gtr 3 (Operand.tmp 120) (Operand.const (Value.int IntKind.i64 0)) 3, type := 4, pos := "law.go:110", after := #[{ on := 22, ground := Ground.data }, { on := 20, ground := Ground.guard }], guard := some (20, true) }) (v := undef) rfl (by kernel_rfl) (by kernel_rfl) (by kernel_rfl) (fun _ _ _ h => h) (Or.inr ⟨by rfl, rfl⟩) (SK.out _ tV) ?_
                    simp only [Act.put, List.setIfInBounds_toArray, List.set_cons_zero, List.set_cons_succ]
                    refine wpAnyH_take (i := 24) (oi := { dst := some 122, op := Op.move (Operand.tmp 121), type := 4, pos := "law.go:110", after := #[{ on := 23, ground := Ground.data }, { on := 20, ground := Ground.chain }, { on := 20, ground := Ground.guard }], guard := some (20, true) }) (v := undef) rfl (by kernel_rfl) (by kernel_rfl) (by kernel_rfl) (fun _ _ _ h => h) (Or.inr ⟨by rfl, rfl⟩) (SK.out _ tV) ?_
                    simp only [Act.put, List.setIfInBounds_toArray, List.set_cons_zero, List.set_cons_succ]
                    refine wpAnyH_take (i := 25) (oi := { dst := some 123, op := Op.move (Operand.tmp 7), type := 31, pos := "law.go:110", after := #[{ on := 24, ground := Ground.guard }], guard := some (24, false) }) (v := undef) rfl (by kernel_rfl) (by kernel_rfl) (by kernel_rfl) (fun _ _ _ h => h) (Or.inr ⟨by rfl, rfl⟩) (SK.out _ tV) ?_
                    simp only [Act.put, List.setIfInBounds_toArray, List.set_cons_zero, List.set_cons_succ]
                    refine wpAnyH_take (i := 26) (oi := { dst := some 124, op := Op.move (Operand.tmp 10), type := 3, pos := "law.go:110", after := #[{ on := 24, ground := Ground.guard }], guard := some (24, false) }) (v := undef) rfl (by kernel_rfl) (by kernel_rfl) (by kernel_rfl) (fun _ _ _ h => h) (Or.inr ⟨by rfl, rfl⟩) (SK.out _ tV) ?_
                    simp only [Act.put, List.setIfInBounds_toArray, List.set_cons_zero, List.set_cons_succ]
                    refine wpAnyH_take (i := 27) (oi := { dst := some 125, op := Op.indexAddr 31 (Operand.tmp 123) (Operand.tmp 124), type := 0, pos := "law.go:110", after := #[{ on := 25, ground := Ground.data }, { on := 26, ground := Ground.data }, { on := 24, ground := Ground.guard }], guard := some (24, false) }) (v := undef) rfl (by kernel_rfl) (by kernel_rfl) (by kernel_rfl) (fun _ _ _ h => h) (Or.inr ⟨by rfl, rfl⟩) (SK.out _ tV) ?_
                    simp only [Act.put, List.setIfInBounds_toArray, List.set_cons_zero, List.set_cons_succ]
                    refine wpAnyH_take (i := 28) (oi := { dst := some 126, op := Op.fieldAddr 29 (Operand.tmp 125) 0, type := 0, pos := "law.go:110", after := #[{ on := 27, ground := Ground.data }, { on := 24, ground := Ground.guard }], guard := some (24, false) }) (v := undef) rfl (by kernel_rfl) (by kernel_rfl) (by kernel_rfl) (fun _ _ _ h => h) (Or.inr ⟨by rfl, rfl⟩) (SK.out _ tV) ?_
                    simp only [Act.put, List.setIfInBounds_toArray, List.set_cons_zero, List.set_cons_succ]
                    refine wpAnyH_take (i := 29) (oi := { dst := some 127, op := Op.load 23 (Operand.tmp 126), type := 23, pos := "law.go:110", after := #[{ on := 28, ground := Ground.data }, { on := 24, ground := Ground.guard }], guard := some (24, false) }) (v := undef) rfl (by kernel_rfl) (by kernel_rfl) (by kernel_rfl) (fun _ _ _ h => h) (Or.inr ⟨by rfl, rfl⟩) (SK.out _ tV) ?_
                    simp only [Act.put, List.setIfInBounds_toArray, List.set_cons_zero, List.set_cons_succ]
                    refine wpAnyH_take (i := 30) (oi := { dst := some 128, op := Op.fieldAddr 43 (Operand.tmp 5) 1, type := 0, pos := "law.go:110", after := #[{ on := 24, ground := Ground.guard }], guard := some (24, false) }) (v := undef) rfl (by kernel_rfl) (by kernel_rfl) (by kernel_rfl) (fun _ _ _ h => h) (Or.inr ⟨by rfl, rfl⟩) (SK.out _ tV) ?_
                    simp only [Act.put, List.setIfInBounds_toArray, List.set_cons_zero, List.set_cons_succ]
                    refine wpAnyH_take (i := 31) (oi := { dst := some 129, op := Op.load 31 (Operand.tmp 128), type := 31, pos := "law.go:110", after := #[{ on := 30, ground := Ground.data }, { on := 24, ground := Ground.guard }], guard := some (24, false) }) (v := undef) rfl (by kernel_rfl) (by kernel_rfl) (by kernel_rfl) (fun _ _ _ h => h) (Or.inr ⟨by rfl, rfl⟩) (SK.out _ tV) ?_
                    simp only [Act.put, List.setIfInBounds_toArray, List.set_cons_zero, List.set_cons_succ]
                    refine wpAnyH_take (i := 32) (oi := { dst := some 130, op := Op.move (Operand.tmp 9), type := 3, pos := "law.go:110", after := #[{ on := 24, ground := Ground.guard }], guard := some (24, false) }) (v := undef) rfl (by kernel_rfl) (by kernel_rfl) (by kernel_rfl) (fun _ _ _ h => h) (Or.inr ⟨by rfl, rfl⟩) (SK.out _ tV) ?_
                    simp only [Act.put, List.setIfInBounds_toArray, List.set_cons_zero, List.set_cons_succ]
                    refine wpAnyH_take (i := 33) (oi := { dst := some 131, op := Op.indexAddr 31 (Operand.tmp 129) (Operand.tmp 130), type := 0, pos := "law.go:110", after := #[{ on := 31, ground := Ground.data }, { on := 32, ground := Ground.data }, { on := 24, ground := Ground.guard }], guard := some (24, false) }) (v := undef) rfl (by kernel_rfl) (by kernel_rfl) (by kernel_rfl) (fun _ _ _ h => h) (Or.inr ⟨by rfl, rfl⟩) (SK.out _ tV) ?_
                    simp only [Act.put, List.setIfInBounds_toArray, List.set_cons_zero, List.set_cons_succ]
                    refine wpAnyH_take (i := 34) (oi := { dst := some 132, op := Op.fieldAddr 29 (Operand.tmp 131) 0, type := 0, pos := "law.go:110", after := #[{ on := 33, ground := Ground.data }, { on := 24, ground := Ground.guard }], guard := some (24, false) }) (v := undef) rfl (by kernel_rfl) (by kernel_rfl) (by kernel_rfl) (fun _ _ _ h => h) (Or.inr ⟨by rfl, rfl⟩) (SK.out _ tV) ?_
                    simp only [Act.put, List.setIfInBounds_toArray, List.set_cons_zero, List.set_cons_succ]
                    refine wpAnyH_take (i := 35) (oi := { dst := some 133, op := Op.load 23 (Operand.tmp 132), type := 23, pos := "law.go:110", after := #[{ on := 34, ground := Ground.data }, { on := 24, ground := Ground.guard }], guard := some (24, false) }) (v := undef) rfl (by kernel_rfl) (by kernel_rfl) (by kernel_rfl) (fun _ _ _ h => h) (Or.inr ⟨by rfl, rfl⟩) (SK.out _ tV) ?_
                    simp only [Act.put, List.setIfInBounds_toArray, List.set_cons_zero, List.set_cons_succ]
                    refine wpAnyH_take (i := 36) (oi := { dst := some 134, op := Op.binOp BinOp.lss 23 (Operand.tmp 127) (Operand.tmp 133) 23, type := 4, pos := "law.go:110", after := #[{ on := 29, ground := Ground.data }, { on := 35, ground := Ground.data }, { on := 24, ground := Ground.guard }], guard := some (24, false) }) (v := undef) rfl (by kernel_rfl) (by kernel_rfl) (by kernel_rfl) (fun _ _ _ h => h) (Or.inr ⟨by rfl, rfl⟩) (SK.out _ tV) ?_
                    simp only [Act.put, List.setIfInBounds_toArray, List.set_cons_zero, List.set_cons_succ]
                    refine wpAnyH_take (i := 37) (oi := { dst := some 135, op := Op.pick (Operand.tmp 122) (Operand.const (Value.bool true)) (Operand.tmp 134), type := 4, pos := "law.go:110", after := #[{ on := 24, ground := Ground.data }, { on := 36, ground := Ground.data }, { on := 20, ground := Ground.guard }], guard := some (20, true) }) (v := undef) rfl (by kernel_rfl) (by kernel_rfl) (by kernel_rfl) (fun _ _ _ h => h) (Or.inr ⟨by rfl, rfl⟩) (SK.out _ tV) ?_
                    simp only [Act.put, List.setIfInBounds_toArray, List.set_cons_zero, List.set_cons_succ]
                    refine wpAnyH_take (i := 38) (oi := { dst := some 136, op := Op.pick (Operand.tmp 118) (Operand.tmp 135) (Operand.const (Value.bool false)), type := 4, pos := "law.go:110", after := #[{ on := 20, ground := Ground.data }, { on := 37, ground := Ground.data }], guard := none }) (v := .bool false) rfl (by kernel_rfl) (by kernel_rfl) (by kernel_rfl) (fun _ _ _ h => h) (Or.inl ⟨by rfl, ?_⟩) (SK.out _ tV) ?_
                    · rintro w ⟨⟨y0, y1, y2, y3, y4, y5⟩, ⟨x0, x1, x2, x3, x4, x5⟩, j0, j1⟩
                      go_simp
                    simp only [Act.put, List.setIfInBounds_toArray, List.set_cons_zero, List.set_cons_succ]
                    refine wpAnyH_done (by kernel_rfl) ?_ _
                    have TU := hide tV
                    clear tV
                    go_wp2_with fail
                    go_roundw
                    case rel => exact ⟨q + 1, by go_num, by omega, HTQ.out.trans TU.out⟩
                    case measure => simp [intOf]; omega
                · obtain rfl : q = XL := by omega
                  go_wp2_with fail
                  go_loopw [11] (fun i wq => ∃ q : Nat, i = .int .i64 (q : Nat) ∧ q ≤ YL ∧ Turns (fun _ => False) w9 wq) (fun i _ => YL - (intOf i).toNat)
                  case atStart => exact ⟨0, rfl, Nat.zero_le _, HTQ.out⟩
                  case round =>
                  obtain ⟨q, rfl, hq, htq⟩ := hrel
                  have HTQ := hide htq
                  have HT6 := hide (T9.out.trans htq)
                  clear htq
                  by_cases hqn : q < YL
                  · obtain ⟨y, hy⟩ : ∃ y, yll[q]? = some y := ⟨_, List.getElem?_eq_getElem (by have := HYL.out; omega)⟩
                    obtain ⟨nb, no2, rfl, h6, hfb⟩ := fc_of (YF2.out _ HT6.out) hy
                    have j1' : (q : Int) < YL := by omega
                    have j0' : (0 : Int) ≤ q := by omega
                    have hym := List.mem_of_getElem? hy
                    have OVL := hide (fun (u : World) (tu : Turns (fun _ => False) wr u) => OV0.out y u (HT6.out.trans tu) (hfb.quiet tu))
                    have AML := hide (fun (u : World) (tu : Turns (fun _ => False) wr u) => AL0.out y u (HT6.out.trans tu))
                    have UPY := hide (fun (ho : ovL y.f ⟨nov, szv, lsv, msv, env, sqv⟩ = true) => LOX.out y hym ho)
                    clear hfb hy hym
                    generalize amongF (fls RR2) y.f.no = am at *
                    generalize ovL y.f ⟨nov, szv, lsv, msv, env, sqv⟩ = ov at *
                    have Y6 := hide (fun (u : World) (tu : Turns (fun _ => False) wr u) => (h6.quiet tu).all)
                    obtain ⟨lay, lcy, may, mcy, ⟨noy, szy, lsy, msy, eny, sqy⟩⟩ := y
                    simp only at *
                    generalize lsy.length = L1y at *
                    generalize msy.length = L2y at *
                    have SK2 := hide (fun (u : World) (tu : Turns (fun _ => False) wr u) => show (u.cell? ⟨nb, no2 + q * 6, none⟩ = some (.int .u64 (noy : Nat)) ∧ u.cell? ⟨nb, no2 + q * 6 + 1, none⟩ = some (.int .i64 szy) ∧ u.cell? ⟨nb, no2 + q * 6 + 2, none⟩ = some (.slice lay L1y lcy) ∧ u.cell? ⟨nb, no2 + q * 6 + 3, none⟩ = some (.slice may L2y mcy) ∧ u.cell? ⟨nb, no2 + q * 6 + 4, none⟩ = some (.int .i64 eny) ∧ u.cell? ⟨nb, no2 + q * 6 + 5, none⟩ = some (.int .u64 (sqy : Nat))) ∧ (u.cell? ⟨ub, uo + k * 6, none⟩ = some (.int .u64 (nov : Nat)) ∧ u.cell? ⟨ub, uo + k * 6 + 1, none⟩ = some (.int .i64 szv) ∧ u.cell? ⟨ub, uo + k * 6 + 2, none⟩ = some (.slice lav L1v lcv) ∧ u.cell? ⟨ub, uo + k * 6 + 3, none⟩ = some (.slice mav L2v mcv) ∧ u.cell? ⟨ub, uo + k * 6 + 4, none⟩ = some (.int .i64 env) ∧ u.cell? ⟨ub, uo + k * 6 + 5, none⟩ = some (.int .u64 (sqv : Nat))) ∧ u.cell? ⟨J, 1, none⟩ = some (.slice (some ⟨ub, uo, none⟩) N1 uc) ∧ u.cell? ⟨J, 2, none⟩ = some (.slice va N2 vc) from by
                      obtain ⟨y0, y1, y2, y3, y4, y5⟩ := Y6.out u tu
                      obtain ⟨x0, x1, x2, x3, x4, x5⟩ := V6.out u (HTQ.out.trans tu)
                      obtain ⟨j0, j1, j2, j3, j4, j5⟩ := SJ.out u (HT6.out.trans tu)
                      exact ⟨⟨y0, y1, y2, y3, y4, y5⟩, ⟨x0, x1, x2, x3, x4, x5⟩, j1, j2⟩)
                    clear h6 Y6
                    go_upto_region 24 with (fail)
                    have tV : Turns (fun _ => False) wr wr.drew := (Turns.refl _ _).drew
                    have SK := SK2
                    clear SK2
                    cases ov with
                    | true =>
                      have ham : am = true := UPY.out (by first | rfl | trivial)
                      subst ham
                      refine wp_region_held_drew (S := fun u => (u.cell? ⟨nb, no2 + q * 6, none⟩ = some (.int .u64 (noy : Nat)) ∧ u.cell? ⟨nb, no2 + q * 6 + 1, none⟩ = some (.int .i64 szy) ∧ u.cell? ⟨nb, no2 + q * 6 + 2, none⟩ = some (.slice lay L1y lcy) ∧ u.cell? ⟨nb, no2 + q * 6 + 3, none⟩ = some (.slice may L2y mcy) ∧ u.cell? ⟨nb, no2 + q * 6 + 4, none⟩ = some (.int .i64 eny) ∧ u.cell? ⟨nb, no2 + q * 6 + 5, none⟩ = some (.int .u64 (sqy : Nat))) ∧ (u.cell? ⟨ub, uo + k * 6, none⟩ = some (.int .u64 (nov : Nat)) ∧ u.cell? ⟨ub, uo + k * 6 + 1, none⟩ = some (.int .i64 szv) ∧ u.cell? ⟨ub, uo + k * 6 + 2, none⟩ = some (.slice lav L1v lcv) ∧ u.cell? ⟨ub, uo + k * 6 + 3, none⟩ = some (.slice mav L2v mcv) ∧ u.cell? ⟨ub, uo + k * 6 + 4, none⟩ = some (.int .i64 env) ∧ u.cell? ⟨ub, uo + k * 6 + 5, none⟩ = some (.int .u64 (sqv : Nat))) ∧ u.cell? ⟨J, 1, none⟩ = some (.slice (some ⟨ub, uo, none⟩) N1 uc) ∧ u.cell? ⟨J, 2, none⟩ = some (.slice va N2 vc)) (by kernel_rfl) (SK.out _ tV) (fun _ => ?_)
                      change wpAnyH _ _ _ _ _ 20 (Array.replicate 20 false) _ _
                      refine wpAnyH_take (i := 0) (oi := { dst := some 143, op := Op.move (Operand.tmp 8), type := 31, pos := "law.go:115", after := #[], guard := none }) (v := .slice (some ⟨nb, no2, none⟩) YL yc) rfl (by kernel_rfl) (by kernel_rfl) (by kernel_rfl) (fun _ _ _ h => h) (Or.inl ⟨by rfl, ?_⟩) (SK.out _ tV) ?_
                      · rintro w ⟨⟨y0, y1, y2, y3, y4, y5⟩, ⟨x0, x1, x2, x3, x4, x5⟩, j0, j1⟩
                        go_simp
                      simp only [Act.put, List.setIfInBounds_toArray, List.set_cons_zero, List.set_cons_succ]
                      refine wpAnyH_take (i := 1) (oi := { dst := some 144, op := Op.move (Operand.tmp 11), type := 3, pos := "law.go:115", after := #[], guard := none }) (v := .int .i64 (q : Nat)) rfl (by kernel_rfl) (by kernel_rfl) (by kernel_rfl) (fun _ _ _ h => h) (Or.inl ⟨by rfl, ?_⟩) (SK.out _ tV) ?_
                      · rintro w ⟨⟨y0, y1, y2, y3, y4, y5⟩, ⟨x0, x1, x2, x3, x4, x5⟩, j0, j1⟩
                        go_simp
                      simp only [Act.put, List.setIfInBounds_toArray, List.set_cons_zero, List.set_cons_succ]
                      refine wpAnyH_take (i := 2) (oi := { dst := some 145, op := Op.indexAddr 31 (Operand.tmp 143) (Operand.tmp 144), type := 0, pos := "law.go:115", after := #[{ on := 0, ground := Ground.data }, { on := 1, ground := Ground.data }], guard := none }) (v := .pointer (some ⟨nb, no2 + q * 6, none⟩)) rfl (by kernel_rfl) (by kernel_rfl) (by kernel_rfl) (fun _ _ _ h => h) (Or.inl ⟨by rfl, ?_⟩) (SK.out _ tV) ?_
                      · rintro w ⟨⟨y0, y1, y2, y3, y4, y5⟩, ⟨x0, x1, x2, x3, x4, x5⟩, j0, j1⟩
                        go_simp
                      simp only [Act.put, List.setIfInBounds_toArray, List.set_cons_zero, List.set_cons_succ]
                      refine wpAnyH_take (i := 3) (oi := { dst := some 146, op := Op.load 29 (Operand.tmp 145), type := 29, pos := "law.go:115", after := #[{ on := 2, ground := Ground.data }], guard := none }) (v := .agg #[.int .u64 (noy : Nat), .int .i64 szy, .slice lay L1y lcy, .slice may L2y mcy, .int .i64 eny, .int .u64 (sqy : Nat)]) rfl (by kernel_rfl) (by kernel_rfl) (by kernel_rfl) (fun _ _ _ h => h) (Or.inl ⟨by rfl, ?_⟩) (SK.out _ tV) ?_
                      · rintro w ⟨⟨y0, y1, y2, y3, y4, y5⟩, ⟨x0, x1, x2, x3, x4, x5⟩, j0, j1⟩
                        go_simp
                      simp only [Act.put, List.setIfInBounds_toArray, List.set_cons_zero, List.set_cons_succ]
                      refine wpAnyH_take (i := 4) (oi := { dst := some 147, op := Op.fieldAddr 43 (Operand.tmp 5) 1, type := 0, pos := "law.go:115", after := #[], guard := none }) (v := .pointer (some ⟨J, 1, none⟩)) rfl (by kernel_rfl) (by kernel_rfl) (by kernel_rfl) (fun _ _ _ h => h) (Or.inl ⟨by rfl, ?_⟩) (SK.out _ tV) ?_
                      · rintro w ⟨⟨y0, y1, y2, y3, y4, y5⟩, ⟨x0, x1, x2, x3, x4, x5⟩, j0, j1⟩
                        go_simp
                      simp only [Act.put, List.setIfInBounds_toArray, List.set_cons_zero, List.set_cons_succ]
                      refine wpAnyH_take (i := 5) (oi := { dst := some 148, op := Op.load 31 (Operand.tmp 147), type := 31, pos := "law.go:115", after := #[{ on := 4, ground := Ground.data }], guard := none }) (v := .slice (some ⟨ub, uo, none⟩) N1 uc) rfl (by kernel_rfl) (by kernel_rfl) (by kernel_rfl) (fun _ _ _ h => h) (Or.inl ⟨by rfl, ?_⟩) (SK.out _ tV) ?_
                      · rintro w ⟨⟨y0, y1, y2, y3, y4, y5⟩, ⟨x0, x1, x2, x3, x4, x5⟩, j0, j1⟩
                        go_simp
                      simp only [Act.put, List.setIfInBounds_toArray, List.set_cons_zero, List.set_cons_succ]
                      refine wpAnyH_take (i := 6) (oi := { dst := some 149, op := Op.move (Operand.tmp 9), type := 3, pos := "law.go:115", after := #[], guard := none }) (v := .int .i64 (k : Nat)) rfl (by kernel_rfl) (by kernel_rfl) (by kernel_rfl) (fun _ _ _ h => h) (Or.inl ⟨by rfl, ?_⟩) (SK.out _ tV) ?_
                      · rintro w ⟨⟨y0, y1, y2, y3, y4, y5⟩, ⟨x0, x1, x2, x3, x4, x5⟩, j0, j1⟩
                        go_simp
                      simp only [Act.put, List.setIfInBounds_toArray, List.set_cons_zero, List.set_cons_succ]
                      refine wpAnyH_take (i := 7) (oi := { dst := some 150, op := Op.indexAddr 31 (Operand.tmp 148) (Operand.tmp 149), type := 0, pos := "law.go:115", after := #[{ on := 5, ground := Ground.data }, { on := 6, ground := Ground.data }], guard := none }) (v := .pointer (some ⟨ub, uo + k * 6, none⟩)) rfl (by kernel_rfl) (by kernel_rfl) (by kernel_rfl) (fun _ _ _ h => h) (Or.inl ⟨by rfl, ?_⟩) (SK.out _ tV) ?_
                      · rintro w ⟨⟨y0, y1, y2, y3, y4, y5⟩, ⟨x0, x1, x2, x3, x4, x5⟩, j0, j1⟩
                        go_simp
                      simp only [Act.put, List.setIfInBounds_toArray, List.set_cons_zero, List.set_cons_succ]
                      refine wpAnyH_take (i := 8) (oi := { dst := some 151, op := Op.load 29 (Operand.tmp 150), type := 29, pos := "law.go:115", after := #[{ on := 7, ground := Ground.data }], guard := none }) (v := .agg #[.int .u64 (nov : Nat), .int .i64 szv, .slice lav L1v lcv, .slice mav L2v mcv, .int .i64 env, .int .u64 (sqv : Nat)]) rfl (by kernel_rfl) (by kernel_rfl) (by kernel_rfl) (fun _ _ _ h => h) (Or.inl ⟨by rfl, ?_⟩) (SK.out _ tV) ?_
                      · rintro w ⟨⟨y0, y1, y2, y3, y4, y5⟩, ⟨x0, x1, x2, x3, x4, x5⟩, j0, j1⟩
                        go_simp
                      simp only [Act.put, List.setIfInBounds_toArray, List.set_cons_zero, List.set_cons_succ]
                      refine wpAnyH_ready (rs := [9]) (by kernel_rfl) (by simp) ?_
                      refine AllReadyH.cons rfl (fun K hK => ?_) AllReadyH.nil
                      go_simp
                      refine (OVL.out _ tV).mono ?_
                      rintro oo Vn ⟨rfl, tC⟩
                      have tN := tC
                      have tV := tV.trans tN
                      clear tC
                      clear tN
                      go_simp
                      refine hK.out _ _ (SK.out _ tV) (fun _ => ?_)
                      clear hK K
                      refine wpAnyH_take (i := 10) (oi := { dst := some 153, op := Op.move (Operand.tmp 152), type := 4, pos := "law.go:115", after := #[{ on := 9, ground := Ground.data }, { on := 9, ground := Ground.chain }], guard := none }) (v := .bool true) rfl (by kernel_rfl) (by kernel_rfl) (by kernel_rfl) (fun _ _ _ h => h) (Or.inl ⟨by rfl, ?_⟩) (SK.out _ tV) ?_
                      · rintro w ⟨⟨y0, y1, y2, y3, y4, y5⟩, ⟨x0, x1, x2, x3, x4, x5⟩, j0, j1⟩
                        go_simp
                      simp only [Act.put, List.setIfInBounds_toArray, List.set_cons_zero, List.set_cons_succ]
                      refine wpAnyH_take (i := 11) (oi := { dst := some 154, op := Op.fieldAddr 43 (Operand.tmp 5) 2, type := 0, pos := "law.go:115", after := #[{ on := 10, ground := Ground.guard }], guard := some (10, true) }) (v := .pointer (some ⟨J, 2, none⟩)) rfl (by kernel_rfl) (by kernel_rfl) (by kernel_rfl) (fun _ _ _ h => h) (Or.inl ⟨by rfl, ?_⟩) (SK.out _ tV) ?_
                      · rintro w ⟨⟨y0, y1, y2, y3, y4, y5⟩, ⟨x0, x1, x2, x3, x4, x5⟩, j0, j1⟩
                        go_simp
                      simp only [Act.put, List.setIfInBounds_toArray, List.set_cons_zero, List.set_cons_succ]
                      refine wpAnyH_take (i := 12) (oi := { dst := some 155, op := Op.load 31 (Operand.tmp 154), type := 31, pos := "law.go:115", after := #[{ on := 11, ground := Ground.data }, { on := 10, ground := Ground.guard }], guard := some (10, true) }) (v := .slice va N2 vc) rfl (by kernel_rfl) (by kernel_rfl) (by kernel_rfl) (fun _ _ _ h => h) (Or.inl ⟨by rfl, ?_⟩) (SK.out _ tV) ?_
                      · rintro w ⟨⟨y0, y1, y2, y3, y4, y5⟩, ⟨x0, x1, x2, x3, x4, x5⟩, j0, j1⟩
                        go_simp
                      simp only [Act.put, List.setIfInBounds_toArray, List.set_cons_zero, List.set_cons_succ]
                      refine wpAnyH_take (i := 13) (oi := { dst := some 156, op := Op.move (Operand.tmp 8), type := 31, pos := "law.go:115", after := #[{ on := 10, ground := Ground.guard }], guard := some (10, true) }) (v := .slice (some ⟨nb, no2, none⟩) YL yc) rfl (by kernel_rfl) (by kernel_rfl) (by kernel_rfl) (fun _ _ _ h => h) (Or.inl ⟨by rfl, ?_⟩) (SK.out _ tV) ?_
                      · rintro w ⟨⟨y0, y1, y2, y3, y4, y5⟩, ⟨x0, x1, x2, x3, x4, x5⟩, j0, j1⟩
                        go_simp
                      simp only [Act.put, List.setIfInBounds_toArray, List.set_cons_zero, List.set_cons_succ]
                      refine wpAnyH_take (i := 14) (oi := { dst := some 157, op := Op.move (Operand.tmp 11), type := 3, pos := "law.go:115", after := #[{ on := 10, ground := Ground.guard }], guard := some (10, true) }) (v := .int .i64 (q : Nat)) rfl (by kernel_rfl) (by kernel_rfl) (by kernel_rfl) (fun _ _ _ h => h) (Or.inl ⟨by rfl, ?_⟩) (SK.out _ tV) ?_
                      · rintro w ⟨⟨y0, y1, y2, y3, y4, y5⟩, ⟨x0, x1, x2, x3, x4, x5⟩, j0, j1⟩
                        go_simp
                      simp only [Act.put, List.setIfInBounds_toArray, List.set_cons_zero, List.set_cons_succ]
                      refine wpAnyH_take (i := 15) (oi := { dst := some 158, op := Op.indexAddr 31 (Operand.tmp 156) (Operand.tmp 157), type := 0, pos := "law.go:115", after := #[{ on := 13, ground := Ground.data }, { on := 14, ground := Ground.data }, { on := 10, ground := Ground.guard }], guard := some (10, true) }) (v := .pointer (some ⟨nb, no2 + q * 6, none⟩)) rfl (by kernel_rfl) (by kernel_rfl) (by kernel_rfl) (fun _ _ _ h => h) (Or.inl ⟨by rfl, ?_⟩) (SK.out _ tV) ?_
                      · rintro w ⟨⟨y0, y1, y2, y3, y4, y5⟩, ⟨x0, x1, x2, x3, x4, x5⟩, j0, j1⟩
                        go_simp
                      simp only [Act.put, List.setIfInBounds_toArray, List.set_cons_zero, List.set_cons_succ]
                      refine wpAnyH_take (i := 16) (oi := { dst := some 159, op := Op.load 29 (Operand.tmp 158), type := 29, pos := "law.go:115", after := #[{ on := 15, ground := Ground.data }, { on := 10, ground := Ground.guard }], guard := some (10, true) }) (v := .agg #[.int .u64 (noy : Nat), .int .i64 szy, .slice lay L1y lcy, .slice may L2y mcy, .int .i64 eny, .int .u64 (sqy : Nat)]) rfl (by kernel_rfl) (by kernel_rfl) (by kernel_rfl) (fun _ _ _ h => h) (Or.inl ⟨by rfl, ?_⟩) (SK.out _ tV) ?_
                      · rintro w ⟨⟨y0, y1, y2, y3, y4, y5⟩, ⟨x0, x1, x2, x3, x4, x5⟩, j0, j1⟩
                        go_simp
                      simp only [Act.put, List.setIfInBounds_toArray, List.set_cons_zero, List.set_cons_succ]
                      refine wpAnyH_ready (rs := [17]) (by kernel_rfl) (by simp) ?_
                      refine AllReadyH.cons rfl (fun K hK => ?_) AllReadyH.nil
                      go_simp
                      refine (AML.out _ tV).mono ?_
                      rintro oo Vn ⟨rfl, tC⟩
                      have tN := tC
                      have tV := tV.trans tN
                      clear tC
                      clear tN
                      go_simp
                      refine hK.out _ _ (SK.out _ tV) (fun _ => ?_)
                      clear hK K
                      refine wpAnyH_take (i := 18) (oi := { dst := some 161, op := Op.unOp UnOp.not 4 (Operand.tmp 160), type := 4, pos := "law.go:115", after := #[{ on := 17, ground := Ground.data }, { on := 10, ground := Ground.guard }], guard := some (10, true) }) (v := .bool false) rfl (by kernel_rfl) (by kernel_rfl) (by kernel_rfl) (fun _ _ _ h => h) (Or.inl ⟨by rfl, ?_⟩) (SK.out _ tV) ?_
                      · rintro w ⟨⟨y0, y1, y2, y3, y4, y5⟩, ⟨x0, x1, x2, x3, x4, x5⟩, j0, j1⟩
                        go_simp
                      simp only [Act.put, List.setIfInBounds_toArray, List.set_cons_zero, List.set_cons_succ]
                      refine wpAnyH_take (i := 19) (oi := { dst := some 162, op := Op.pick (Operand.tmp 153) (Operand.tmp 161) (Operand.const (Value.bool false)), type := 4, pos := "law.go:115", after := #[{ on := 10, ground := Ground.data }, { on := 18, ground := Ground.data }], guard := none }) (v := .bool false) rfl (by kernel_rfl) (by kernel_rfl) (by kernel_rfl) (fun _ _ _ h => h) (Or.inl ⟨by rfl, ?_⟩) (SK.out _ tV) ?_
                      · rintro w ⟨⟨y0, y1, y2, y3, y4, y5⟩, ⟨x0, x1, x2, x3, x4, x5⟩, j0, j1⟩
                        go_simp
                      simp only [Act.put, List.setIfInBounds_toArray, List.set_cons_zero, List.set_cons_succ]
                      refine wpAnyH_done (by kernel_rfl) ?_ _
                      have TU := hide tV
                      clear tV
                      go_wp2_with fail
                      go_roundw
                      case rel => exact ⟨q + 1, by go_num, by omega, HTQ.out.trans TU.out⟩
                      case measure => simp [intOf]; omega
                    | false =>
                      refine wp_region_held_drew (S := fun u => (u.cell? ⟨nb, no2 + q * 6, none⟩ = some (.int .u64 (noy : Nat)) ∧ u.cell? ⟨nb, no2 + q * 6 + 1, none⟩ = some (.int .i64 szy) ∧ u.cell? ⟨nb, no2 + q * 6 + 2, none⟩ = some (.slice lay L1y lcy) ∧ u.cell? ⟨nb, no2 + q * 6 + 3, none⟩ = some (.slice may L2y mcy) ∧ u.cell? ⟨nb, no2 + q * 6 + 4, none⟩ = some (.int .i64 eny) ∧ u.cell? ⟨nb, no2 + q * 6 + 5, none⟩ = some (.int .u64 (sqy : Nat))) ∧ (u.cell? ⟨ub, uo + k * 6, none⟩ = some (.int .u64 (nov : Nat)) ∧ u.cell? ⟨ub, uo + k * 6 + 1, none⟩ = some (.int .i64 szv) ∧ u.cell? ⟨ub, uo + k * 6 + 2, none⟩ = some (.slice lav L1v lcv) ∧ u.cell? ⟨ub, uo + k * 6 + 3, none⟩ = some (.slice mav L2v mcv) ∧ u.cell? ⟨ub, uo + k * 6 + 4, none⟩ = some (.int .i64 env) ∧ u.cell? ⟨ub, uo + k * 6 + 5, none⟩ = some (.int .u64 (sqv : Nat))) ∧ u.cell? ⟨J, 1, none⟩ = some (.slice (some ⟨ub, uo, none⟩) N1 uc) ∧ u.cell? ⟨J, 2, none⟩ = some (.slice va N2 vc)) (by kernel_rfl) (SK.out _ tV) (fun _ => ?_)
                      change wpAnyH _ _ _ _ _ 20 (Array.replicate 20 false) _ _
                      refine wpAnyH_take (i := 0) (oi := { dst := some 143, op := Op.move (Operand.tmp 8), type := 31, pos := "law.go:115", after := #[], guard := none }) (v := .slice (some ⟨nb, no2, none⟩) YL yc) rfl (by kernel_rfl) (by kernel_rfl) (by kernel_rfl) (fun _ _ _ h => h) (Or.inl ⟨by rfl, ?_⟩) (SK.out _ tV) ?_
                      · rintro w ⟨⟨y0, y1, y2, y3, y4, y5⟩, ⟨x0, x1, x2, x3, x4, x5⟩, j0, j1⟩
                        go_simp
                      simp only [Act.put, List.setIfInBounds_toArray, List.set_cons_zero, List.set_cons_succ]
                      refine wpAnyH_take (i := 1) (oi := { dst := some 144, op := Op.move (Operand.tmp 11), type := 3, pos := "law.go:115", after := #[], guard := none }) (v := .int .i64 (q : Nat)) rfl (by kernel_rfl) (by kernel_rfl) (by kernel_rfl) (fun _ _ _ h => h) (Or.inl ⟨by rfl, ?_⟩) (SK.out _ tV) ?_
                      · rintro w ⟨⟨y0, y1, y2, y3, y4, y5⟩, ⟨x0, x1, x2, x3, x4, x5⟩, j0, j1⟩
                        go_simp
                      simp only [Act.put, List.setIfInBounds_toArray, List.set_cons_zero, List.set_cons_succ]
                      refine wpAnyH_take (i := 2) (oi := { dst := some 145, op := Op.indexAddr 31 (Operand.tmp 143) (Operand.tmp 144), type := 0, pos := "law.go:115", after := #[{ on := 0, ground := Ground.data }, { on := 1, ground := Ground.data }], guard := none }) (v := .pointer (some ⟨nb, no2 + q * 6, none⟩)) rfl (by kernel_rfl) (by kernel_rfl) (by kernel_rfl) (fun _ _ _ h => h) (Or.inl ⟨by rfl, ?_⟩) (SK.out _ tV) ?_
                      · rintro w ⟨⟨y0, y1, y2, y3, y4, y5⟩, ⟨x0, x1, x2, x3, x4, x5⟩, j0, j1⟩
                        go_simp
                      simp only [Act.put, List.setIfInBounds_toArray, List.set_cons_zero, List.set_cons_succ]
                      refine wpAnyH_take (i := 3) (oi := { dst := some 146, op := Op.load 29 (Operand.tmp 145), type := 29, pos := "law.go:115", after := #[{ on := 2, ground := Ground.data }], guard := none }) (v := .agg #[.int .u64 (noy : Nat), .int .i64 szy, .slice lay L1y lcy, .slice may L2y mcy, .int .i64 eny, .int .u64 (sqy : Nat)]) rfl (by kernel_rfl) (by kernel_rfl) (by kernel_rfl) (fun _ _ _ h => h) (Or.inl ⟨by rfl, ?_⟩) (SK.out _ tV) ?_
                      · rintro w ⟨⟨y0, y1, y2, y3, y4, y5⟩, ⟨x0, x1, x2, x3, x4, x5⟩, j0, j1⟩
                        go_simp
                      simp only [Act.put, List.setIfInBounds_toArray, List.set_cons_zero, List.set_cons_succ]
                      refine wpAnyH_take (i := 4) (oi := { dst := some 147, op := Op.fieldAddr 43 (Operand.tmp 5) 1, type := 0, pos := "law.go:115", after := #[], guard := none }) (v := .pointer (some ⟨J, 1, none⟩)) rfl (by kernel_rfl) (by kernel_rfl) (by kernel_rfl) (fun _ _ _ h => h) (Or.inl ⟨by rfl, ?_⟩) (SK.out _ tV) ?_
                      · rintro w ⟨⟨y0, y1, y2, y3, y4, y5⟩, ⟨x0, x1, x2, x3, x4, x5⟩, j0, j1⟩
                        go_simp
                      simp only [Act.put, List.setIfInBounds_toArray, List.set_cons_zero, List.set_cons_succ]
                      refine wpAnyH_take (i := 5) (oi := { dst := some 148, op := Op.load 31 (Operand.tmp 147), type := 31, pos := "law.go:115", after := #[{ on := 4, ground := Ground.data }], guard := none }) (v := .slice (some ⟨ub, uo, none⟩) N1 uc) rfl (by kernel_rfl) (by kernel_rfl) (by kernel_rfl) (fun _ _ _ h => h) (Or.inl ⟨by rfl, ?_⟩) (SK.out _ tV) ?_
                      · rintro w ⟨⟨y0, y1, y2, y3, y4, y5⟩, ⟨x0, x1, x2, x3, x4, x5⟩, j0, j1⟩
                        go_simp
                      simp only [Act.put, List.setIfInBounds_toArray, List.set_cons_zero, List.set_cons_succ]
                      refine wpAnyH_take (i := 6) (oi := { dst := some 149, op := Op.move (Operand.tmp 9), type := 3, pos := "law.go:115", after := #[], guard := none }) (v := .int .i64 (k : Nat)) rfl (by kernel_rfl) (by kernel_rfl) (by kernel_rfl) (fun _ _ _ h => h) (Or.inl ⟨by rfl, ?_⟩) (SK.out _ tV) ?_
                      · rintro w ⟨⟨y0, y1, y2, y3, y4, y5⟩, ⟨x0, x1, x2, x3, x4, x5⟩, j0, j1⟩
                        go_simp
                      simp only [Act.put, List.setIfInBounds_toArray, List.set_cons_zero, List.set_cons_succ]
                      refine wpAnyH_take (i := 7) (oi := { dst := some 150, op := Op.indexAddr 31 (Operand.tmp 148) (Operand.tmp 149), type := 0, pos := "law.go:115", after := #[{ on := 5, ground := Ground.data }, { on := 6, ground := Ground.data }], guard := none }) (v := .pointer (some ⟨ub, uo + k * 6, none⟩)) rfl (by kernel_rfl) (by kernel_rfl) (by kernel_rfl) (fun _ _ _ h => h) (Or.inl ⟨by rfl, ?_⟩) (SK.out _ tV) ?_
                      · rintro w ⟨⟨y0, y1, y2, y3, y4, y5⟩, ⟨x0, x1, x2, x3, x4, x5⟩, j0, j1⟩
                        go_simp
                      simp only [Act.put, List.setIfInBounds_toArray, List.set_cons_zero, List.set_cons_succ]
                      refine wpAnyH_take (i := 8) (oi := { dst := some 151, op := Op.load 29 (Operand.tmp 150), type := 29, pos := "law.go:115", after := #[{ on := 7, ground := Ground.data }], guard := none }) (v := .agg #[.int .u64 (nov : Nat), .int .i64 szv, .slice lav L1v lcv, .slice mav L2v mcv, .int .i64 env, .int .u64 (sqv : Nat)]) rfl (by kernel_rfl) (by kernel_rfl) (by kernel_rfl) (fun _ _ _ h => h) (Or.inl ⟨by rfl, ?_⟩) (SK.out _ tV) ?_
                      · rintro w ⟨⟨y0, y1, y2, y3, y4, y5⟩, ⟨x0, x1, x2, x3, x4, x5⟩, j0, j1⟩
                        go_simp
                      simp only [Act.put, List.setIfInBounds_toArray, List.set_cons_zero, List.set_cons_succ]
                      refine wpAnyH_ready (rs := [9]) (by kernel_rfl) (by simp) ?_
                      refine AllReadyH.cons rfl (fun K hK => ?_) AllReadyH.nil
                      go_simp
                      refine (OVL.out _ tV).mono ?_
                      rintro oo Vn ⟨rfl, tC⟩
                      have tN := tC
                      have tV := tV.trans tN
                      clear tC
                      clear tN
                      go_simp
                      refine hK.out _ _ (SK.out _ tV) (fun _ => ?_)
                      clear hK K
                      refine wpAnyH_take (i := 10) (oi := { dst := some 153, op := Op.move (Operand.tmp 152), type := 4, pos := "law.go:115", after := #[{ on := 9, ground := Ground.data }, { on := 9, ground := Ground.chain }], guard := none }) (v := .bool false) rfl (by kernel_rfl) (by kernel_rfl) (by kernel_rfl) (fun _ _ _ h => h) (Or.inl ⟨by rfl, ?_⟩) (SK.out _ tV) ?_
                      · rintro w ⟨⟨y0, y1, y2, y3, y4, y5⟩, ⟨x0, x1, x2, x3, x4, x5⟩, j0, j1⟩
                        go_simp
                      simp only [Act.put, List.setIfInBounds_toArray, List.set_cons_zero, List.set_cons_succ]
                      refine wpAnyH_take (i := 11) (oi := { dst := some 154, op := Op.fieldAddr 43 (Operand.tmp 5) 2, type := 0, pos := "law.go:115", after := #[{ on := 10, ground := Ground.guard }], guard := some (10, true) }) (v := undef) rfl (by kernel_rfl) (by kernel_rfl) (by kernel_rfl) (fun _ _ _ h => h) (Or.inr ⟨by rfl, rfl⟩) (SK.out _ tV) ?_
                      simp only [Act.put, List.setIfInBounds_toArray, List.set_cons_zero, List.set_cons_succ]
                      refine wpAnyH_take (i := 12) (oi := { dst := some 155, op := Op.load 31 (Operand.tmp 154), type := 31, pos := "law.go:115", after := #[{ on := 11, ground := Ground.data }, { on := 10, ground := Ground.guard }], guard := some (10, true) }) (v := undef) rfl (by kernel_rfl) (by kernel_rfl) (by kernel_rfl) (fun _ _ _ h => h) (Or.inr ⟨by rfl, rfl⟩) (SK.out _ tV) ?_
                      simp only [Act.put, List.setIfInBounds_toArray, List.set_cons_zero, List.set_cons_succ]
                      refine wpAnyH_take (i := 13) (oi := { dst := some 156, op := Op.move (Operand.tmp 8), type := 31, pos := "law.go:115", after := #[{ on := 10, ground := Ground.guard }], guard := some (10, true) }) (v := undef) rfl (by kernel_rfl) (by kernel_rfl) (by kernel_rfl) (fun _ _ _ h => h) (Or.inr ⟨by rfl, rfl⟩) (SK.out _ tV) ?_
                      simp only [Act.put, List.setIfInBounds_toArray, List.set_cons_zero, List.set_cons_succ]
                      refine wpAnyH_take (i := 14) (oi := { dst := some 157, op := Op.move (Operand.tmp 11), type := 3, pos := "law.go:115", after := #[{ on := 10, ground := Ground.guard }], guard := some (10, true) }) (v := undef) rfl (by kernel_rfl) (by kernel_rfl) (by kernel_rfl) (fun _ _ _ h => h) (Or.inr ⟨by rfl, rfl⟩) (SK.out _ tV) ?_
                      simp only [Act.put, List.setIfInBounds_toArray, List.set_cons_zero, List.set_cons_succ]
                      refine wpAnyH_take (i := 15) (oi := { dst := some 158, op := Op.indexAddr 31 (Operand.tmp 156) (Operand.tmp 157), type := 0, pos := "law.go:115", after := #[{ on := 13, ground := Ground.data }, { on := 14, ground := Ground.data }, { on := 10, ground := Ground.guard }], guard := some (10, true) }) (v := undef) rfl (by kernel_rfl) (by kernel_rfl) (by kernel_rfl) (fun _ _ _ h => h) (Or.inr ⟨by rfl, rfl⟩) (SK.out _ tV) ?_
                      simp only [Act.put, List.setIfInBounds_toArray, List.set_cons_zero, List.set_cons_succ]
                      refine wpAnyH_take (i := 16) (oi := { dst := some 159, op := Op.load 29 (Operand.tmp 158), type := 29, pos := "law.go:115", after := #[{ on := 15, ground := Ground.data }, { on := 10, ground := Ground.guard }], guard := some (10, true) }) (v := undef) rfl (by kernel_rfl) (by kernel_rfl) (by kernel_rfl) (fun _ _ _ h => h) (Or.inr ⟨by rfl, rfl⟩) (SK.out _ tV) ?_
                      simp only [Act.put, List.setIfInBounds_toArray, List.set_cons_zero, List.set_cons_succ]
                      refine wpAnyH_take (i := 17) (oi := { dst := some 160, op := Op.call { callee := Callee.value (Operand.func 23), args := #[Operand.tmp 155, Operand.tmp 159], argTypes := #[31, 29] }, type := 4, pos := "law.go:115", after := #[{ on := 12, ground := Ground.data }, { on := 16, ground := Ground.data }, { on := 10, ground := Ground.chain }, { on := 10, ground := Ground.guard }], guard := some (10, true) }) (v := undef) rfl (by kernel_rfl) (by kernel_rfl) (by kernel_rfl) (fun _ _ _ h => h) (Or.inr ⟨by rfl, rfl⟩) (SK.out _ tV) ?_
                      simp only [Act.put, List.setIfInBounds_toArray, List.set_cons_zero, List.set_cons_succ]
                      refine wpAnyH_take (i := 18) (oi := { dst := some 161, op := Op.unOp UnOp.not 4 (Operand.tmp 160), type := 4, pos := "law.go:115", after := #[{ on := 17, ground := Ground.data }, { on := 10, ground := Ground.guard }], guard := some (10, true) }) (v := undef) rfl (by kernel_rfl) (by kernel_rfl) (by kernel_rfl) (fun _ _ _ h => h) (Or.inr ⟨by rfl, rfl⟩) (SK.out _ tV) ?_
                      simp only [Act.put, List.setIfInBounds_toArray, List.set_cons_zero, List.set_cons_succ]
                      refine wpAnyH_take (i := 19) (oi := { dst := some 162, op := Op.pick (Operand.tmp 153) (Operand.tmp 161) (Operand.const (Value.bool false)), type := 4, pos := "law.go:115", after := #[{ on := 10, ground := Ground.data }, { on := 18, ground := Ground.data }], guard := none }) (v := .bool false) rfl (by kernel_rfl) (by kernel_rfl) (by kernel_rfl) (fun _ _ _ h => h) (Or.inl ⟨by rfl, ?_⟩) (SK.out _ tV) ?_
                      · rintro w ⟨⟨y0, y1, y2, y3, y4, y5⟩, ⟨x0, x1, x2, x3, x4, x5⟩, j0, j1⟩
                        go_simp
                      simp only [Act.put, List.setIfInBounds_toArray, List.set_cons_zero, List.set_cons_succ]
                      refine wpAnyH_done (by kernel_rfl) ?_ _
                      have TU := hide tV
                      clear tV
                      go_wp2_with fail
                      go_roundw
                      case rel => exact ⟨q + 1, by go_num, by omega, HTQ.out.trans TU.out⟩
                      case measure => simp [intOf]; omega
                  · obtain rfl : q = YL := by omega
                    go_wp2_with fail
                    go_roundw
                    case rel => exact ⟨k + 1, by go_num, by omega, HT6.out⟩
                    case measure => simp [intOf]; omega
            · obtain rfl : k = N1 := by omega
              have HEND := hide (fun (m : Fl) => show botK (flL L) z 5 m = botL (flL L) z m by unfold botK botL; rw [List.take_of_length_le (by have := H5.out; omega)])
              have BQ5 := hide (BQ.out ⟨0, 0, least, most, 0, 0⟩ rfl rfl)
              have B5 := hide (HEND.out ⟨0, 0, least, most, 0, 0⟩)
              generalize hmm : (⟨0, 0, least, most, 0, 0⟩ : Fl) = mm at *
              clear hmm AM0 AU0 AL0 UPF LOWF HERE XF2 YF2 HEND BQ
              have hw2 : wrap64 ((z : Int) + 2) = ((z + 2 : Nat) : Int) := by rw [wrap64_of (by omega) (by omega)]; omega
              go_wp2_with fail
              go_loopw [12, 13] (fun bv iv wr2 => ∃ i : Nat, iv = .int .i64 (i : Nat) ∧ z + 2 ≤ i ∧ i ≤ 5 ∧ bv = .bool (botK (flL L) z i mm) ∧ Turns (fun _ => False) w6 wr2) (fun _ iv _ => 5 - (intOf iv).toNat)
              case atStart => exact ⟨z + 2, by first | rfl | (rw [hw2]), Nat.le_refl _, by omega, by rw [botK_start], HTR.out⟩
              case round =>
                obtain ⟨i, rfl, hi2, hi5, rfl, htr2⟩ := hrel
                have HT2 := hide htr2
                clear htr2
                by_cases hi : i < 5
                · have k1 : (i : Int) < 5 := by omega
                  have k0 : (0 : Int) ≤ i := by omega
                  obtain ⟨⟨xa2, xc2, xl2⟩, hx2, hg2, hc2, hf2⟩ := LV.out i hi
                  simp only at hg2 hc2 hf2
                  have hx2i : (xl2.length : Int) ≤ 5000 := by omega
                  have HST := hide (fun (q : Nat) (y : Tf) (hy : xl2[q]? = some y) => botI_step (z := z) (i := i) (m := mm) (LL := flL L) hy)
                  have HSE := hide (show botI (flL L) z i mm (fls xl2) = botK (flL L) z (i + 1) mm from botI_end hi2 (by have := H5.out; omega) hg2)
                  have HS0 := hide (botI_nil (LL := flL L) (z := z) (i := i) (m := mm))
                  clear hx2 hg2
                  generalize hXL2 : xl2.length = XL2 at *
                  have HXL2 := hide hXL2
                  clear hXL2
                  go_wp2_with fail
                  go_loopw [12, 14] (fun bv iv wq => ∃ q : Nat, iv = .int .i64 (q : Nat) ∧ q ≤ XL2 ∧ bv = .bool (botI (flL L) z i mm (fls (xl2.take q))) ∧ Turns (fun _ => False) w6 wq) (fun _ iv _ => XL2 - (intOf iv).toNat)
                  case atStart => exact ⟨0, rfl, Nat.zero_le _, by rw [show fls (xl2.take 0) = [] from rfl, HS0.out], HT2.out⟩
                  case round =>
                    obtain ⟨q, rfl, hq, rfl, htq⟩ := hrel
                    have HTQ := hide htq
                    clear htq
                    have HFQ := hide (fun (u : World) (tu : Turns (fun _ => False) wr u) => hf2 u ((T6.out.trans HTQ.out).trans tu))
                    obtain ⟨lc0, lf0⟩ := hf2 wr (T6.out.trans HTQ.out)
                    obtain ⟨⟨p0, p1, p2, p3⟩, _⟩ := SK.out wr HTQ.out
                    by_cases hqn : q < XL2
                    · obtain ⟨y, hy⟩ : ∃ y, xl2[q]? = some y := ⟨_, List.getElem?_eq_getElem (by have := HXL2.out; omega)⟩
                      obtain ⟨hb, ho, rfl, h6, hfb⟩ := fc_of lf0 hy
                      have j1' : (q : Int) < XL2 := by omega
                      have j0' : (0 : Int) ≤ q := by omega
                      have OVM := hide (fun (u : World) (tu : Turns (fun _ => False) wr u) => OM0.out y u (HTQ.out.trans tu) (hfb.quiet tu))
                      have HNX := hide (HST.out q y hy)
                      clear hfb hy lf0
                      generalize ovL y.f mm = ov at *
                      generalize botI (flL L) z i mm (fls (xl2.take q)) = bb at *
                      have Y6 := hide (fun (u : World) (tu : Turns (fun _ => False) wr u) => (h6.quiet tu).all)
                      obtain ⟨lay, lcy, may, mcy, ⟨noy, szy, lsy, msy, eny, sqy⟩⟩ := y
                      simp only at *
                      generalize lsy.length = L1y at *
                      generalize msy.length = L2y at *
                      have SK2 := hide (fun (u : World) (tu : Turns (fun _ => False) wr u) => show u.cell? ⟨P, 0, none⟩ = some (.slice (some ⟨b, off, none⟩) 5 c) ∧ u.cell? ⟨b, off + i, none⟩ = some (.slice (some ⟨hb, ho, none⟩) XL2 xc2) ∧ (u.cell? ⟨hb, ho + q * 6, none⟩ = some (.int .u64 (noy : Nat)) ∧ u.cell? ⟨hb, ho + q * 6 + 1, none⟩ = some (.int .i64 szy) ∧ u.cell? ⟨hb, ho + q * 6 + 2, none⟩ = some (.slice lay L1y lcy) ∧ u.cell? ⟨hb, ho + q * 6 + 3, none⟩ = some (.slice may L2y mcy) ∧ u.cell? ⟨hb, ho + q * 6 + 4, none⟩ = some (.int .i64 eny) ∧ u.cell? ⟨hb, ho + q * 6 + 5, none⟩ = some (.int .u64 (sqy : Nat))) ∧ u.cell? ⟨J, 3, none⟩ = some (.slice a1 M1 c1) ∧ u.cell? ⟨J, 4, none⟩ = some (.slice a2 M2 c2) from by
                        obtain ⟨y0, y1, y2, y3, y4, y5⟩ := Y6.out u tu
                        obtain ⟨j0, j1, j2, j3, j4, j5⟩ := SJ.out u (HTQ.out.trans tu)
                        obtain ⟨⟨p0, _⟩, _⟩ := SK.out u (HTQ.out.trans tu)
                        exact ⟨p0, (HFQ.out u tu).1, ⟨y0, y1, y2, y3, y4, y5⟩, j3, j4⟩)
                      clear h6 Y6
                      go_upto_region 33 with (fail)
                      have tV : Turns (fun _ => False) wr wr.drew := (Turns.refl _ _).drew
                      clear SK
                      have SK := SK2
                      clear SK2 p0 p1 p2 p3 lc0
                      cases bb with
                      | false =>
                        refine wp_region_held_drew (S := fun u => u.cell? ⟨P, 0, none⟩ = some (.slice (some ⟨b, off, none⟩) 5 c) ∧ u.cell? ⟨b, off + i, none⟩ = some (.slice (some ⟨hb, ho, none⟩) XL2 xc2) ∧ (u.cell? ⟨hb, ho + q * 6, none⟩ = some (.int .u64 (noy : Nat)) ∧ u.cell? ⟨hb, ho + q * 6 + 1, none⟩ = some (.int .i64 szy) ∧ u.cell? ⟨hb, ho + q * 6 + 2, none⟩ = some (.slice lay L1y lcy) ∧ u.cell? ⟨hb, ho + q * 6 + 3, none⟩ = some (.slice may L2y mcy) ∧ u.cell? ⟨hb, ho + q * 6 + 4, none⟩ = some (.int .i64 eny) ∧ u.cell? ⟨hb, ho + q * 6 + 5, none⟩ = some (.int .u64 (sqy : Nat))) ∧ u.cell? ⟨J, 3, none⟩ = some (.slice a1 M1 c1) ∧ u.cell? ⟨J, 4, none⟩ = some (.slice a2 M2 c2)) (by kernel_rfl) (SK.out _ tV) (fun _ => ?_)
                        change wpAnyH _ _ _ _ _ 19 (Array.replicate 19 false) _ _
                        refine wpAnyH_take (i := 0) (oi := { dst := some 180, op := Op.move (Operand.tmp 12), type := 4, pos := "law.go:123", after := #[], guard := none }) (v := .bool false) rfl (by kernel_rfl) (by kernel_rfl) (by kernel_rfl) (fun _ _ _ h => h) (Or.inl ⟨by rfl, ?_⟩) (SK.out _ tV) ?_
                        · rintro w ⟨p0, h0, ⟨y0, y1, y2, y3, y4, y5⟩, j3, j4⟩
                          go_simp
                        simp only [Act.put, List.setIfInBounds_toArray, List.set_cons_zero, List.set_cons_succ]
                        refine wpAnyH_take (i := 1) (oi := { dst := some 181, op := Op.move (Operand.tmp 180), type := 4, pos := "law.go:123", after := #[{ on := 0, ground := Ground.data }], guard := none }) (v := .bool false) rfl (by kernel_rfl) (by kernel_rfl) (by kernel_rfl) (fun _ _ _ h => h) (Or.inl ⟨by rfl, ?_⟩) (SK.out _ tV) ?_
                        · rintro w ⟨p0, h0, ⟨y0, y1, y2, y3, y4, y5⟩, j3, j4⟩
                          go_simp
                        simp only [Act.put, List.setIfInBounds_toArray, List.set_cons_zero, List.set_cons_succ]
                        refine wpAnyH_take (i := 2) (oi := { dst := some 182, op := Op.fieldAddr 25 (Operand.tmp 2) 0, type := 0, pos := "law.go:123", after := #[{ on := 1, ground := Ground.guard }], guard := some (1, true) }) (v := undef) rfl (by kernel_rfl) (by kernel_rfl) (by kernel_rfl) (fun _ _ _ h => h) (Or.inr ⟨by rfl, rfl⟩) (SK.out _ tV) ?_
                        simp only [Act.put, List.setIfInBounds_toArray, List.set_cons_zero, List.set_cons_succ]
                        refine wpAnyH_take (i := 3) (oi := { dst := some 183, op := Op.load 22 (Operand.tmp 182), type := 22, pos := "law.go:123", after := #[{ on := 2, ground := Ground.data }, { on := 1, ground := Ground.guard }], guard := some (1, true) }) (v := undef) rfl (by kernel_rfl) (by kernel_rfl) (by kernel_rfl) (fun _ _ _ h => h) (Or.inr ⟨by rfl, rfl⟩) (SK.out _ tV) ?_
                        simp only [Act.put, List.setIfInBounds_toArray, List.set_cons_zero, List.set_cons_succ]
                        refine wpAnyH_take (i := 4) (oi := { dst := some 184, op := Op.move (Operand.tmp 13), type := 3, pos := "law.go:123", after := #[{ on := 1, ground := Ground.guard }], guard := some (1, true) }) (v := undef) rfl (by kernel_rfl) (by kernel_rfl) (by kernel_rfl) (fun _ _ _ h => h) (Or.inr ⟨by rfl, rfl⟩) (SK.out _ tV) ?_
                        simp only [Act.put, List.setIfInBounds_toArray, List.set_cons_zero, List.set_cons_succ]
                        refine wpAnyH_take (i := 5) (oi := { dst := some 185, op := Op.indexAddr 22 (Operand.tmp 183) (Operand.tmp 184), type := 0, pos := "law.go:123", after := #[{ on := 3, ground := Ground.data }, { on := 4, ground := Ground.data }, { on := 1, ground := Ground.guard }], guard := some (1, true) }) (v := undef) rfl (by kernel_rfl) (by kernel_rfl) (by kernel_rfl) (fun _ _ _ h => h) (Or.inr ⟨by rfl, rfl⟩) (SK.out _ tV) ?_
                        simp only [Act.put, List.setIfInBounds_toArray, List.set_cons_zero, List.set_cons_succ]
                        refine wpAnyH_take (i := 6) (oi := { dst := some 186, op := Op.load 31 (Operand.tmp 185), type := 31, pos := "law.go:123", after := #[{ on := 5, ground := Ground.data }, { on := 1, ground := Ground.guard }], guard := some (1, true) }) (v := undef) rfl (by kernel_rfl) (by kernel_rfl) (by kernel_rfl) (fun _ _ _ h => h) (Or.inr ⟨by rfl, rfl⟩) (SK.out _ tV) ?_
                        simp only [Act.put, List.setIfInBounds_toArray, List.set_cons_zero, List.set_cons_succ]
                        refine wpAnyH_take (i := 7) (oi := { dst := some 187, op := Op.move (Operand.tmp 14), type := 3, pos := "law.go:123", after := #[{ on := 1, ground := Ground.guard }], guard := some (1, true) }) (v := undef) rfl (by kernel_rfl) (by kernel_rfl) (by kernel_rfl) (fun _ _ _ h => h) (Or.inr ⟨by rfl, rfl⟩) (SK.out _ tV) ?_
                        simp only [Act.put, List.setIfInBounds_toArray, List.set_cons_zero, List.set_cons_succ]
                        refine wpAnyH_take (i := 8) (oi := { dst := some 188, op := Op.indexAddr 31 (Operand.tmp 186) (Operand.tmp 187), type := 0, pos := "law.go:123", after := #[{ on := 6, ground := Ground.data }, { on := 7, ground := Ground.data }, { on := 1, ground := Ground.guard }], guard := some (1, true) }) (v := undef) rfl (by kernel_rfl) (by kernel_rfl) (by kernel_rfl) (fun _ _ _ h => h) (Or.inr ⟨by rfl, rfl⟩) (SK.out _ tV) ?_
                        simp only [Act.put, List.setIfInBounds_toArray, List.set_cons_zero, List.set_cons_succ]
                        refine wpAnyH_take (i := 9) (oi := { dst := some 189, op := Op.load 29 (Operand.tmp 188), type := 29, pos := "law.go:123", after := #[{ on := 8, ground := Ground.data }, { on := 1, ground := Ground.guard }], guard := some (1, true) }) (v := undef) rfl (by kernel_rfl) (by kernel_rfl) (by kernel_rfl) (fun _ _ _ h => h) (Or.inr ⟨by rfl, rfl⟩) (SK.out _ tV) ?_
                        simp only [Act.put, List.setIfInBounds_toArray, List.set_cons_zero, List.set_cons_succ]
                        refine wpAnyH_take (i := 10) (oi := { dst := some 190, op := Op.fieldAddr 43 (Operand.tmp 5) 3, type := 0, pos := "law.go:123", after := #[{ on := 1, ground := Ground.guard }], guard := some (1, true) }) (v := undef) rfl (by kernel_rfl) (by kernel_rfl) (by kernel_rfl) (fun _ _ _ h => h) (Or.inr ⟨by rfl, rfl⟩) (SK.out _ tV) ?_
                        simp only [Act.put, List.setIfInBounds_toArray, List.set_cons_zero, List.set_cons_succ]
                        refine wpAnyH_take (i := 11) (oi := { dst := some 191, op := Op.load 27 (Operand.tmp 190), type := 27, pos := "law.go:123", after := #[{ on := 10, ground := Ground.data }, { on := 1, ground := Ground.guard }], guard := some (1, true) }) (v := undef) rfl (by kernel_rfl) (by kernel_rfl) (by kernel_rfl) (fun _ _ _ h => h) (Or.inr ⟨by rfl, rfl⟩) (SK.out _ tV) ?_
                        simp only [Act.put, List.setIfInBounds_toArray, List.set_cons_zero, List.set_cons_succ]
                        refine wpAnyH_take (i := 12) (oi := { dst := some 192, op := Op.fieldAddr 43 (Operand.tmp 5) 4, type := 0, pos := "law.go:123", after := #[{ on := 1, ground := Ground.guard }], guard := some (1, true) }) (v := undef) rfl (by kernel_rfl) (by kernel_rfl) (by kernel_rfl) (fun _ _ _ h => h) (Or.inr ⟨by rfl, rfl⟩) (SK.out _ tV) ?_
                        simp only [Act.put, List.setIfInBounds_toArray, List.set_cons_zero, List.set_cons_succ]
                        refine wpAnyH_take (i := 13) (oi := { dst := some 193, op := Op.load 27 (Operand.tmp 192), type := 27, pos := "law.go:123", after := #[{ on := 12, ground := Ground.data }, { on := 1, ground := Ground.guard }], guard := some (1, true) }) (v := undef) rfl (by kernel_rfl) (by kernel_rfl) (by kernel_rfl) (fun _ _ _ h => h) (Or.inr ⟨by rfl, rfl⟩) (SK.out _ tV) ?_
                        simp only [Act.put, List.setIfInBounds_toArray, List.set_cons_zero, List.set_cons_succ]
                        refine wpAnyH_take (i := 14) (oi := { dst := some 194, op := Op.build 29 #[(2, Operand.tmp 191), (3, Operand.tmp 193)], type := 29, pos := "law.go:123", after := #[{ on := 11, ground := Ground.data }, { on := 13, ground := Ground.data }, { on := 1, ground := Ground.guard }], guard := some (1, true) }) (v := undef) rfl (by kernel_rfl) (by kernel_rfl) (by kernel_rfl) (fun _ _ _ h => h) (Or.inr ⟨by rfl, rfl⟩) (SK.out _ tV) ?_
                        simp only [Act.put, List.setIfInBounds_toArray, List.set_cons_zero, List.set_cons_succ]
                        refine wpAnyH_take (i := 15) (oi := { dst := some 195, op := Op.call { callee := Callee.value (Operand.func 24), args := #[Operand.tmp 189, Operand.tmp 194], argTypes := #[29, 29] }, type := 4, pos := "law.go:123", after := #[{ on := 9, ground := Ground.data }, { on := 14, ground := Ground.data }, { on := 1, ground := Ground.chain }, { on := 1, ground := Ground.guard }], guard := some (1, true) }) (v := undef) rfl (by kernel_rfl) (by kernel_rfl) (by kernel_rfl) (fun _ _ _ h => h) (Or.inr ⟨by rfl, rfl⟩) (SK.out _ tV) ?_
                        simp only [Act.put, List.setIfInBounds_toArray, List.set_cons_zero, List.set_cons_succ]
                        refine wpAnyH_take (i := 16) (oi := { dst := some 196, op := Op.unOp UnOp.not 4 (Operand.tmp 195), type := 4, pos := "law.go:123", after := #[{ on := 15, ground := Ground.data }, { on := 1, ground := Ground.guard }], guard := some (1, true) }) (v := undef) rfl (by kernel_rfl) (by kernel_rfl) (by kernel_rfl) (fun _ _ _ h => h) (Or.inr ⟨by rfl, rfl⟩) (SK.out _ tV) ?_
                        simp only [Act.put, List.setIfInBounds_toArray, List.set_cons_zero, List.set_cons_succ]
                        refine wpAnyH_take (i := 17) (oi := { dst := some 197, op := Op.pick (Operand.tmp 181) (Operand.tmp 196) (Operand.const (Value.bool false)), type := 4, pos := "law.go:123", after := #[{ on := 1, ground := Ground.data }, { on := 16, ground := Ground.data }], guard := none }) (v := .bool false) rfl (by kernel_rfl) (by kernel_rfl) (by kernel_rfl) (fun _ _ _ h => h) (Or.inl ⟨by rfl, ?_⟩) (SK.out _ tV) ?_
                        · rintro w ⟨p0, h0, ⟨y0, y1, y2, y3, y4, y5⟩, j3, j4⟩
                          go_simp
                        simp only [Act.put, List.setIfInBounds_toArray, List.set_cons_zero, List.set_cons_succ]
                        refine wpAnyH_take (i := 18) (oi := { dst := some 12, op := Op.assign (Operand.tmp 197), type := 4, pos := "law.go:123", after := #[{ on := 17, ground := Ground.data }, { on := 15, ground := Ground.chain }, { on := 0, ground := Ground.phase }, { on := 1, ground := Ground.phase }, { on := 2, ground := Ground.phase }, { on := 3, ground := Ground.phase }, { on := 4, ground := Ground.phase }, { on := 5, ground := Ground.phase }, { on := 6, ground := Ground.phase }, { on := 7, ground := Ground.phase }, { on := 8, ground := Ground.phase }, { on := 9, ground := Ground.phase }, { on := 10, ground := Ground.phase }, { on := 11, ground := Ground.phase }, { on := 12, ground := Ground.phase }, { on := 13, ground := Ground.phase }, { on := 14, ground := Ground.phase }, { on := 15, ground := Ground.phase }, { on := 16, ground := Ground.phase }, { on := 17, ground := Ground.phase }], guard := none }) (v := .bool false) rfl (by kernel_rfl) (by kernel_rfl) (by kernel_rfl) (fun _ _ _ h => h) (Or.inl ⟨by rfl, ?_⟩) (SK.out _ tV) ?_
                        · rintro w ⟨p0, h0, ⟨y0, y1, y2, y3, y4, y5⟩, j3, j4⟩
                          go_simp
                        simp only [Act.put, List.setIfInBounds_toArray, List.set_cons_zero, List.set_cons_succ]
                        refine wpAnyH_done (by kernel_rfl) ?_ _
                        have TU := hide tV
                        clear tV
                        go_wp2_with fail
                        go_roundw
                        case rel => exact ⟨q + 1, by go_num, by omega, by rw [HNX.out]; rfl, HTQ.out.trans TU.out⟩
                        case measure => simp [intOf]; omega
                      | true =>
                        cases ov with
                        | true =>
                          refine wp_region_held_drew (S := fun u => u.cell? ⟨P, 0, none⟩ = some (.slice (some ⟨b, off, none⟩) 5 c) ∧ u.cell? ⟨b, off + i, none⟩ = some (.slice (some ⟨hb, ho, none⟩) XL2 xc2) ∧ (u.cell? ⟨hb, ho + q * 6, none⟩ = some (.int .u64 (noy : Nat)) ∧ u.cell? ⟨hb, ho + q * 6 + 1, none⟩ = some (.int .i64 szy) ∧ u.cell? ⟨hb, ho + q * 6 + 2, none⟩ = some (.slice lay L1y lcy) ∧ u.cell? ⟨hb, ho + q * 6 + 3, none⟩ = some (.slice may L2y mcy) ∧ u.cell? ⟨hb, ho + q * 6 + 4, none⟩ = some (.int .i64 eny) ∧ u.cell? ⟨hb, ho + q * 6 + 5, none⟩ = some (.int .u64 (sqy : Nat))) ∧ u.cell? ⟨J, 3, none⟩ = some (.slice a1 M1 c1) ∧ u.cell? ⟨J, 4, none⟩ = some (.slice a2 M2 c2)) (by kernel_rfl) (SK.out _ tV) (fun _ => ?_)
                          change wpAnyH _ _ _ _ _ 19 (Array.replicate 19 false) _ _
                          refine wpAnyH_take (i := 0) (oi := { dst := some 180, op := Op.move (Operand.tmp 12), type := 4, pos := "law.go:123", after := #[], guard := none }) (v := .bool true) rfl (by kernel_rfl) (by kernel_rfl) (by kernel_rfl) (fun _ _ _ h => h) (Or.inl ⟨by rfl, ?_⟩) (SK.out _ tV) ?_
                          · rintro w ⟨p0, h0, ⟨y0, y1, y2, y3, y4, y5⟩, j3, j4⟩
                            go_simp
                          simp only [Act.put, List.setIfInBounds_toArray, List.set_cons_zero, List.set_cons_succ]
                          refine wpAnyH_take (i := 1) (oi := { dst := some 181, op := Op.move (Operand.tmp 180), type := 4, pos := "law.go:123", after := #[{ on := 0, ground := Ground.data }], guard := none }) (v := .bool true) rfl (by kernel_rfl) (by kernel_rfl) (by kernel_rfl) (fun _ _ _ h => h) (Or.inl ⟨by rfl, ?_⟩) (SK.out _ tV) ?_
                          · rintro w ⟨p0, h0, ⟨y0, y1, y2, y3, y4, y5⟩, j3, j4⟩
                            go_simp
                          simp only [Act.put, List.setIfInBounds_toArray, List.set_cons_zero, List.set_cons_succ]
                          refine wpAnyH_take (i := 2) (oi := { dst := some 182, op := Op.fieldAddr 25 (Operand.tmp 2) 0, type := 0, pos := "law.go:123", after := #[{ on := 1, ground := Ground.guard }], guard := some (1, true) }) (v := .pointer (some ⟨P, 0, none⟩)) rfl (by kernel_rfl) (by kernel_rfl) (by kernel_rfl) (fun _ _ _ h => h) (Or.inl ⟨by rfl, ?_⟩) (SK.out _ tV) ?_
                          · rintro w ⟨p0, h0, ⟨y0, y1, y2, y3, y4, y5⟩, j3, j4⟩
                            go_simp
                          simp only [Act.put, List.setIfInBounds_toArray, List.set_cons_zero, List.set_cons_succ]
                          refine wpAnyH_take (i := 3) (oi := { dst := some 183, op := Op.load 22 (Operand.tmp 182), type := 22, pos := "law.go:123", after := #[{ on := 2, ground := Ground.data }, { on := 1, ground := Ground.guard }], guard := some (1, true) }) (v := .slice (some ⟨b, off, none⟩) 5 c) rfl (by kernel_rfl) (by kernel_rfl) (by kernel_rfl) (fun _ _ _ h => h) (Or.inl ⟨by rfl, ?_⟩) (SK.out _ tV) ?_
                          · rintro w ⟨p0, h0, ⟨y0, y1, y2, y3, y4, y5⟩, j3, j4⟩
                            go_simp
                          simp only [Act.put, List.setIfInBounds_toArray, List.set_cons_zero, List.set_cons_succ]
                          refine wpAnyH_take (i := 4) (oi := { dst := some 184, op := Op.move (Operand.tmp 13), type := 3, pos := "law.go:123", after := #[{ on := 1, ground := Ground.guard }], guard := some (1, true) }) (v := .int .i64 (i : Nat)) rfl (by kernel_rfl) (by kernel_rfl) (by kernel_rfl) (fun _ _ _ h => h) (Or.inl ⟨by rfl, ?_⟩) (SK.out _ tV) ?_
                          · rintro w ⟨p0, h0, ⟨y0, y1, y2, y3, y4, y5⟩, j3, j4⟩
                            go_simp
                          simp only [Act.put, List.setIfInBounds_toArray, List.set_cons_zero, List.set_cons_succ]
                          refine wpAnyH_take (i := 5) (oi := { dst := some 185, op := Op.indexAddr 22 (Operand.tmp 183) (Operand.tmp 184), type := 0, pos := "law.go:123", after := #[{ on := 3, ground := Ground.data }, { on := 4, ground := Ground.data }, { on := 1, ground := Ground.guard }], guard := some (1, true) }) (v := .pointer (some ⟨b, off + i, none⟩)) rfl (by kernel_rfl) (by kernel_rfl) (by kernel_rfl) (fun _ _ _ h => h) (Or.inl ⟨by rfl, ?_⟩) (SK.out _ tV) ?_
                          · rintro w ⟨p0, h0, ⟨y0, y1, y2, y3, y4, y5⟩, j3, j4⟩
                            go_simp
                          simp only [Act.put, List.setIfInBounds_toArray, List.set_cons_zero, List.set_cons_succ]
                          refine wpAnyH_take (i := 6) (oi := { dst := some 186, op := Op.load 31 (Operand.tmp 185), type := 31, pos := "law.go:123", after := #[{ on := 5, ground := Ground.data }, { on := 1, ground := Ground.guard }], guard := some (1, true) }) (v := .slice (some ⟨hb, ho, none⟩) XL2 xc2) rfl (by kernel_rfl) (by kernel_rfl) (by kernel_rfl) (fun _ _ _ h => h) (Or.inl ⟨by rfl, ?_⟩) (SK.out _ tV) ?_
                          · rintro w ⟨p0, h0, ⟨y0, y1, y2, y3, y4, y5⟩, j3, j4⟩
                            go_simp
                          simp only [Act.put, List.setIfInBounds_toArray, List.set_cons_zero, List.set_cons_succ]
                          refine wpAnyH_take (i := 7) (oi := { dst := some 187, op := Op.move (Operand.tmp 14), type := 3, pos := "law.go:123", after := #[{ on := 1, ground := Ground.guard }], guard := some (1, true) }) (v := .int .i64 (q : Nat)) rfl (by kernel_rfl) (by kernel_rfl) (by kernel_rfl) (fun _ _ _ h => h) (Or.inl ⟨by rfl, ?_⟩) (SK.out _ tV) ?_
                          · rintro w ⟨p0, h0, ⟨y0, y1, y2, y3, y4, y5⟩, j3, j4⟩
                            go_simp
                          simp only [Act.put, List.setIfInBounds_toArray, List.set_cons_zero, List.set_cons_succ]
                          refine wpAnyH_take (i := 8) (oi := { dst := some 188, op := Op.indexAddr 31 (Operand.tmp 186) (Operand.tmp 187), type := 0, pos := "law.go:123", after := #[{ on := 6, ground := Ground.data }, { on := 7, ground := Ground.data }, { on := 1, ground := Ground.guard }], guard := some (1, true) }) (v := .pointer (some ⟨hb, ho + q * 6, none⟩)) rfl (by kernel_rfl) (by kernel_rfl) (by kernel_rfl) (fun _ _ _ h => h) (Or.inl ⟨by rfl, ?_⟩) (SK.out _ tV) ?_
                          · rintro w ⟨p0, h0, ⟨y0, y1, y2, y3, y4, y5⟩, j3, j4⟩
                            go_simp
                          simp only [Act.put, List.setIfInBounds_toArray, List.set_cons_zero, List.set_cons_succ]
                          refine wpAnyH_take (i := 9) (oi := { dst := some 189, op := Op.load 29 (Operand.tmp 188), type := 29, pos := "law.go:123", after := #[{ on := 8, ground := Ground.data }, { on := 1, ground := Ground.guard }], guard := some (1, true) }) (v := .agg #[.int .u64 (noy : Nat), .int .i64 szy, .slice lay L1y lcy, .slice may L2y mcy, .int .i64 eny, .int .u64 (sqy : Nat)]) rfl (by kernel_rfl) (by kernel_rfl) (by kernel_rfl) (fun _ _ _ h => h) (Or.inl ⟨by rfl, ?_⟩) (SK.out _ tV) ?_
                          · rintro w ⟨p0, h0, ⟨y0, y1, y2, y3, y4, y5⟩, j3, j4⟩
                            go_simp
                          simp only [Act.put, List.setIfInBounds_toArray, List.set_cons_zero, List.set_cons_succ]
                          refine wpAnyH_take (i := 10) (oi := { dst := some 190, op := Op.fieldAddr 43 (Operand.tmp 5) 3, type := 0, pos := "law.go:123", after := #[{ on := 1, ground := Ground.guard }], guard := some (1, true) }) (v := .pointer (some ⟨J, 3, none⟩)) rfl (by kernel_rfl) (by kernel_rfl) (by kernel_rfl) (fun _ _ _ h => h) (Or.inl ⟨by rfl, ?_⟩) (SK.out _ tV) ?_
                          · rintro w ⟨p0, h0, ⟨y0, y1, y2, y3, y4, y5⟩, j3, j4⟩
                            go_simp
                          simp only [Act.put, List.setIfInBounds_toArray, List.set_cons_zero, List.set_cons_succ]
                          refine wpAnyH_take (i := 11) (oi := { dst := some 191, op := Op.load 27 (Operand.tmp 190), type := 27, pos := "law.go:123", after := #[{ on := 10, ground := Ground.data }, { on := 1, ground := Ground.guard }], guard := some (1, true) }) (v := .slice a1 M1 c1) rfl (by kernel_rfl) (by kernel_rfl) (by kernel_rfl) (fun _ _ _ h => h) (Or.inl ⟨by rfl, ?_⟩) (SK.out _ tV) ?_
                          · rintro w ⟨p0, h0, ⟨y0, y1, y2, y3, y4, y5⟩, j3, j4⟩
                            go_simp
                          simp only [Act.put, List.setIfInBounds_toArray, List.set_cons_zero, List.set_cons_succ]
                          refine wpAnyH_take (i := 12) (oi := { dst := some 192, op := Op.fieldAddr 43 (Operand.tmp 5) 4, type := 0, pos := "law.go:123", after := #[{ on := 1, ground := Ground.guard }], guard := some (1, true) }) (v := .pointer (some ⟨J, 4, none⟩)) rfl (by kernel_rfl) (by kernel_rfl) (by kernel_rfl) (fun _ _ _ h => h) (Or.inl ⟨by rfl, ?_⟩) (SK.out _ tV) ?_
                          · rintro w ⟨p0, h0, ⟨y0, y1, y2, y3, y4, y5⟩, j3, j4⟩
                            go_simp
                          simp only [Act.put, List.setIfInBounds_toArray, List.set_cons_zero, List.set_cons_succ]
                          refine wpAnyH_take (i := 13) (oi := { dst := some 193, op := Op.load 27 (Operand.tmp 192), type := 27, pos := "law.go:123", after := #[{ on := 12, ground := Ground.data }, { on := 1, ground := Ground.guard }], guard := some (1, true) }) (v := .slice a2 M2 c2) rfl (by kernel_rfl) (by kernel_rfl) (by kernel_rfl) (fun _ _ _ h => h) (Or.inl ⟨by rfl, ?_⟩) (SK.out _ tV) ?_
                          · rintro w ⟨p0, h0, ⟨y0, y1, y2, y3, y4, y5⟩, j3, j4⟩
                            go_simp
                          simp only [Act.put, List.setIfInBounds_toArray, List.set_cons_zero, List.set_cons_succ]
                          refine wpAnyH_take (i := 14) (oi := { dst := some 194, op := Op.build 29 #[(2, Operand.tmp 191), (3, Operand.tmp 193)], type := 29, pos := "law.go:123", after := #[{ on := 11, ground := Ground.data }, { on := 13, ground := Ground.data }, { on := 1, ground := Ground.guard }], guard := some (1, true) }) (v := .agg #[.int .u64 0, .int .i64 0, .slice a1 M1 c1, .slice a2 M2 c2, .int .i64 0, .int .u64 0]) rfl (by kernel_rfl) (by kernel_rfl) (by kernel_rfl) (fun _ _ _ h => h) (Or.inl ⟨by rfl, ?_⟩) (SK.out _ tV) ?_
                          · rintro w ⟨p0, h0, ⟨y0, y1, y2, y3, y4, y5⟩, j3, j4⟩
                            go_simp
                          simp only [Act.put, List.setIfInBounds_toArray, List.set_cons_zero, List.set_cons_succ]
                          refine wpAnyH_ready (rs := [15]) (by kernel_rfl) (by simp) ?_
                          refine AllReadyH.cons rfl (fun K hK => ?_) AllReadyH.nil
                          go_simp
                          refine (OVM.out _ tV).mono ?_
                          rintro oo Vn ⟨rfl, tC⟩
                          have tN := tC
                          have tV := tV.trans tN
                          clear tC
                          clear tN
                          go_simp
                          refine hK.out _ _ (SK.out _ tV) (fun _ => ?_)
                          clear hK K
                          refine wpAnyH_take (i := 16) (oi := { dst := some 196, op := Op.unOp UnOp.not 4 (Operand.tmp 195), type := 4, pos := "law.go:123", after := #[{ on := 15, ground := Ground.data }, { on := 1, ground := Ground.guard }], guard := some (1, true) }) (v := .bool false) rfl (by kernel_rfl) (by kernel_rfl) (by kernel_rfl) (fun _ _ _ h => h) (Or.inl ⟨by rfl, ?_⟩) (SK.out _ tV) ?_
                          · rintro w ⟨p0, h0, ⟨y0, y1, y2, y3, y4, y5⟩, j3, j4⟩
                            go_simp
                          simp only [Act.put, List.setIfInBounds_toArray, List.set_cons_zero, List.set_cons_succ]
                          refine wpAnyH_take (i := 17) (oi := { dst := some 197, op := Op.pick (Operand.tmp 181) (Operand.tmp 196) (Operand.const (Value.bool false)), type := 4, pos := "law.go:123", after := #[{ on := 1, ground := Ground.data }, { on := 16, ground := Ground.data }], guard := none }) (v := .bool false) rfl (by kernel_rfl) (by kernel_rfl) (by kernel_rfl) (fun _ _ _ h => h) (Or.inl ⟨by rfl, ?_⟩) (SK.out _ tV) ?_
                          · rintro w ⟨p0, h0, ⟨y0, y1, y2, y3, y4, y5⟩, j3, j4⟩
                            go_simp
                          simp only [Act.put, List.setIfInBounds_toArray, List.set_cons_zero, List.set_cons_succ]
                          refine wpAnyH_take (i := 18) (oi := { dst := some 12, op := Op.assign (Operand.tmp 197), type := 4, pos := "law.go:123", after := #[{ on := 17, ground := Ground.data }, { on := 15, ground := Ground.chain }, { on := 0, ground := Ground.phase }, { on := 1, ground := Ground.phase }, { on := 2, ground := Ground.phase }, { on := 3, ground := Ground.phase }, { on := 4, ground := Ground.phase }, { on := 5, ground := Ground.phase }, { on := 6, ground := Ground.phase }, { on := 7, ground := Ground.phase }, { on := 8, ground := Ground.phase }, { on := 9, ground := Ground.phase }, { on := 10, ground := Ground.phase }, { on := 11, ground := Ground.phase }, { on := 12, ground := Ground.phase }, { on := 13, ground := Ground.phase }, { on := 14, ground := Ground.phase }, { on := 15, ground := Ground.phase }, { on := 16, ground := Ground.phase }, { on := 17, ground := Ground.phase }], guard := none }) (v := .bool false) rfl (by kernel_rfl) (by kernel_rfl) (by kernel_rfl) (fun _ _ _ h => h) (Or.inl ⟨by rfl, ?_⟩) (SK.out _ tV) ?_
                          · rintro w ⟨p0, h0, ⟨y0, y1, y2, y3, y4, y5⟩, j3, j4⟩
                            go_simp
                          simp only [Act.put, List.setIfInBounds_toArray, List.set_cons_zero, List.set_cons_succ]
                          refine wpAnyH_done (by kernel_rfl) ?_ _
                          have TU := hide tV
                          clear tV
                          go_wp2_with fail
                          go_roundw
                          case rel => exact ⟨q + 1, by go_num, by omega, by rw [HNX.out]; rfl, HTQ.out.trans TU.out⟩
                          case measure => simp [intOf]; omega
                        | false =>
                          refine wp_region_held_drew (S := fun u => u.cell? ⟨P, 0, none⟩ = some (.slice (some ⟨b, off, none⟩) 5 c) ∧ u.cell? ⟨b, off + i, none⟩ = some (.slice (some ⟨hb, ho, none⟩) XL2 xc2) ∧ (u.cell? ⟨hb, ho + q * 6, none⟩ = some (.int .u64 (noy : Nat)) ∧ u.cell? ⟨hb, ho + q * 6 + 1, none⟩ = some (.int .i64 szy) ∧ u.cell? ⟨hb, ho + q * 6 + 2, none⟩ = some (.slice lay L1y lcy) ∧ u.cell? ⟨hb, ho + q * 6 + 3, none⟩ = some (.slice may L2y mcy) ∧ u.cell? ⟨hb, ho + q * 6 + 4, none⟩ = some (.int .i64 eny) ∧ u.cell? ⟨hb, ho + q * 6 + 5, none⟩ = some (.int .u64 (sqy : Nat))) ∧ u.cell? ⟨J, 3, none⟩ = some (.slice a1 M1 c1) ∧ u.cell? ⟨J, 4, none⟩ = some (.slice a2 M2 c2)) (by kernel_rfl) (SK.out _ tV) (fun _ => ?_)
                          change wpAnyH _ _ _ _ _ 19 (Array.replicate 19 false) _ _
                          refine wpAnyH_take (i := 0) (oi := { dst := some 180, op := Op.move (Operand.tmp 12), type := 4, pos := "law.go:123", after := #[], guard := none }) (v := .bool true) rfl (by kernel_rfl) (by kernel_rfl) (by kernel_rfl) (fun _ _ _ h => h) (Or.inl ⟨by rfl, ?_⟩) (SK.out _ tV) ?_
                          · rintro w ⟨p0, h0, ⟨y0, y1, y2, y3, y4, y5⟩, j3, j4⟩
                            go_simp
                          simp only [Act.put, List.setIfInBounds_toArray, List.set_cons_zero, List.set_cons_succ]
                          refine wpAnyH_take (i := 1) (oi := { dst := some 181, op := Op.move (Operand.tmp 180), type := 4, pos := "law.go:123", after := #[{ on := 0, ground := Ground.data }], guard := none }) (v := .bool true) rfl (by kernel_rfl) (by kernel_rfl) (by kernel_rfl) (fun _ _ _ h => h) (Or.inl ⟨by rfl, ?_⟩) (SK.out _ tV) ?_
                          · rintro w ⟨p0, h0, ⟨y0, y1, y2, y3, y4, y5⟩, j3, j4⟩
                            go_simp
                          simp only [Act.put, List.setIfInBounds_toArray, List.set_cons_zero, List.set_cons_succ]
                          refine wpAnyH_take (i := 2) (oi := { dst := some 182, op := Op.fieldAddr 25 (Operand.tmp 2) 0, type := 0, pos := "law.go:123", after := #[{ on := 1, ground := Ground.guard }], guard := some (1, true) }) (v := .pointer (some ⟨P, 0, none⟩)) rfl (by kernel_rfl) (by kernel_rfl) (by kernel_rfl) (fun _ _ _ h => h) (Or.inl ⟨by rfl, ?_⟩) (SK.out _ tV) ?_
                          · rintro w ⟨p0, h0, ⟨y0, y1, y2, y3, y4, y5⟩, j3, j4⟩
                            go_simp
                          simp only [Act.put, List.setIfInBounds_toArray, List.set_cons_zero, List.set_cons_succ]
                          refine wpAnyH_take (i := 3) (oi := { dst := some 183, op := Op.load 22 (Operand.tmp 182), type := 22, pos := "law.go:123", after := #[{ on := 2, ground := Ground.data }, { on := 1, ground := Ground.guard }], guard := some (1, true) }) (v := .slice (some ⟨b, off, none⟩) 5 c) rfl (by kernel_rfl) (by kernel_rfl) (by kernel_rfl) (fun _ _ _ h => h) (Or.inl ⟨by rfl, ?_⟩) (SK.out _ tV) ?_
                          · rintro w ⟨p0, h0, ⟨y0, y1, y2, y3, y4, y5⟩, j3, j4⟩
                            go_simp
                          simp only [Act.put, List.setIfInBounds_toArray, List.set_cons_zero, List.set_cons_succ]
                          refine wpAnyH_take (i := 4) (oi := { dst := some 184, op := Op.move (Operand.tmp 13), type := 3, pos := "law.go:123", after := #[{ on := 1, ground := Ground.guard }], guard := some (1, true) }) (v := .int .i64 (i : Nat)) rfl (by kernel_rfl) (by kernel_rfl) (by kernel_rfl) (fun _ _ _ h => h) (Or.inl ⟨by rfl, ?_⟩) (SK.out _ tV) ?_
                          · rintro w ⟨p0, h0, ⟨y0, y1, y2, y3, y4, y5⟩, j3, j4⟩
                            go_simp
                          simp only [Act.put, List.setIfInBounds_toArray, List.set_cons_zero, List.set_cons_succ]
                          refine wpAnyH_take (i := 5) (oi := { dst := some 185, op := Op.indexAddr 22 (Operand.tmp 183) (Operand.tmp 184), type := 0, pos := "law.go:123", after := #[{ on := 3, ground := Ground.data }, { on := 4, ground := Ground.data }, { on := 1, ground := Ground.guard }], guard := some (1, true) }) (v := .pointer (some ⟨b, off + i, none⟩)) rfl (by kernel_rfl) (by kernel_rfl) (by kernel_rfl) (fun _ _ _ h => h) (Or.inl ⟨by rfl, ?_⟩) (SK.out _ tV) ?_
                          · rintro w ⟨p0, h0, ⟨y0, y1, y2, y3, y4, y5⟩, j3, j4⟩
                            go_simp
                          simp only [Act.put, List.setIfInBounds_toArray, List.set_cons_zero, List.set_cons_succ]
                          refine wpAnyH_take (i := 6) (oi := { dst := some 186, op := Op.load 31 (Operand.tmp 185), type := 31, pos := "law.go:123", after := #[{ on := 5, ground := Ground.data }, { on := 1, ground := Ground.guard }], guard := some (1, true) }) (v := .slice (some ⟨hb, ho, none⟩) XL2 xc2) rfl (by kernel_rfl) (by kernel_rfl) (by kernel_rfl) (fun _ _ _ h => h) (Or.inl ⟨by rfl, ?_⟩) (SK.out _ tV) ?_
                          · rintro w ⟨p0, h0, ⟨y0, y1, y2, y3, y4, y5⟩, j3, j4⟩
                            go_simp
                          simp only [Act.put, List.setIfInBounds_toArray, List.set_cons_zero, List.set_cons_succ]
                          refine wpAnyH_take (i := 7) (oi := { dst := some 187, op := Op.move (Operand.tmp 14), type := 3, pos := "law.go:123", after := #[{ on := 1, ground := Ground.guard }], guard := some (1, true) }) (v := .int .i64 (q : Nat)) rfl (by kernel_rfl) (by kernel_rfl) (by kernel_rfl) (fun _ _ _ h => h) (Or.inl ⟨by rfl, ?_⟩) (SK.out _ tV) ?_
                          · rintro w ⟨p0, h0, ⟨y0, y1, y2, y3, y4, y5⟩, j3, j4⟩
                            go_simp
                          simp only [Act.put, List.setIfInBounds_toArray, List.set_cons_zero, List.set_cons_succ]
                          refine wpAnyH_take (i := 8) (oi := { dst := some 188, op := Op.indexAddr 31 (Operand.tmp 186) (Operand.tmp 187), type := 0, pos := "law.go:123", after := #[{ on := 6, ground := Ground.data }, { on := 7, ground := Ground.data }, { on := 1, ground := Ground.guard }], guard := some (1, true) }) (v := .pointer (some ⟨hb, ho + q * 6, none⟩)) rfl (by kernel_rfl) (by kernel_rfl) (by kernel_rfl) (fun _ _ _ h => h) (Or.inl ⟨by rfl, ?_⟩) (SK.out _ tV) ?_
                          · rintro w ⟨p0, h0, ⟨y0, y1, y2, y3, y4, y5⟩, j3, j4⟩
                            go_simp
                          simp only [Act.put, List.setIfInBounds_toArray, List.set_cons_zero, List.set_cons_succ]
                          refine wpAnyH_take (i := 9) (oi := { dst := some 189, op := Op.load 29 (Operand.tmp 188), type := 29, pos := "law.go:123", after := #[{ on := 8, ground := Ground.data }, { on := 1, ground := Ground.guard }], guard := some (1, true) }) (v := .agg #[.int .u64 (noy : Nat), .int .i64 szy, .slice lay L1y lcy, .slice may L2y mcy, .int .i64 eny, .int .u64 (sqy : Nat)]) rfl (by kernel_rfl) (by kernel_rfl) (by kernel_rfl) (fun _ _ _ h => h) (Or.inl ⟨by rfl, ?_⟩) (SK.out _ tV) ?_
                          · rintro w ⟨p0, h0, ⟨y0, y1, y2, y3, y4, y5⟩, j3, j4⟩
                            go_simp
                          simp only [Act.put, List.setIfInBounds_toArray, List.set_cons_zero, List.set_cons_succ]
                          refine wpAnyH_take (i := 10) (oi := { dst := some 190, op := Op.fieldAddr 43 (Operand.tmp 5) 3, type := 0, pos := "law.go:123", after := #[{ on := 1, ground := Ground.guard }], guard := some (1, true) }) (v := .pointer (some ⟨J, 3, none⟩)) rfl (by kernel_rfl) (by kernel_rfl) (by kernel_rfl) (fun _ _ _ h => h) (Or.inl ⟨by rfl, ?_⟩) (SK.out _ tV) ?_
                          · rintro w ⟨p0, h0, ⟨y0, y1, y2, y3, y4, y5⟩, j3, j4⟩
                            go_simp
                          simp only [Act.put, List.setIfInBounds_toArray, List.set_cons_zero, List.set_cons_succ]
                          refine wpAnyH_take (i := 11) (oi := { dst := some 191, op := Op.load 27 (Operand.tmp 190), type := 27, pos := "law.go:123", after := #[{ on := 10, ground := Ground.data }, { on := 1, ground := Ground.guard }], guard := some (1, true) }) (v := .slice a1 M1 c1) rfl (by kernel_rfl) (by kernel_rfl) (by kernel_rfl) (fun _ _ _ h => h) (Or.inl ⟨by rfl, ?_⟩) (SK.out _ tV) ?_
                          · rintro w ⟨p0, h0, ⟨y0, y1, y2, y3, y4, y5⟩, j3, j4⟩
                            go_simp
                          simp only [Act.put, List.setIfInBounds_toArray, List.set_cons_zero, List.set_cons_succ]
                          refine wpAnyH_take (i := 12) (oi := { dst := some 192, op := Op.fieldAddr 43 (Operand.tmp 5) 4, type := 0, pos := "law.go:123", after := #[{ on := 1, ground := Ground.guard }], guard := some (1, true) }) (v := .pointer (some ⟨J, 4, none⟩)) rfl (by kernel_rfl) (by kernel_rfl) (by kernel_rfl) (fun _ _ _ h => h) (Or.inl ⟨by rfl, ?_⟩) (SK.out _ tV) ?_
                          · rintro w ⟨p0, h0, ⟨y0, y1, y2, y3, y4, y5⟩, j3, j4⟩
                            go_simp
                          simp only [Act.put, List.setIfInBounds_toArray, List.set_cons_zero, List.set_cons_succ]
                          refine wpAnyH_take (i := 13) (oi := { dst := some 193, op := Op.load 27 (Operand.tmp 192), type := 27, pos := "law.go:123", after := #[{ on := 12, ground := Ground.data }, { on := 1, ground := Ground.guard }], guard := some (1, true) }) (v := .slice a2 M2 c2) rfl (by kernel_rfl) (by kernel_rfl) (by kernel_rfl) (fun _ _ _ h => h) (Or.inl ⟨by rfl, ?_⟩) (SK.out _ tV) ?_
                          · rintro w ⟨p0, h0, ⟨y0, y1, y2, y3, y4, y5⟩, j3, j4⟩
                            go_simp
                          simp only [Act.put, List.setIfInBounds_toArray, List.set_cons_zero, List.set_cons_succ]
                          refine wpAnyH_take (i := 14) (oi := { dst := some 194, op := Op.build 29 #[(2, Operand.tmp 191), (3, Operand.tmp 193)], type := 29, pos := "law.go:123", after := #[{ on := 11, ground := Ground.data }, { on := 13, ground := Ground.data }, { on := 1, ground := Ground.guard }], guard := some (1, true) }) (v := .agg #[.int .u64 0, .int .i64 0, .slice a1 M1 c1, .slice a2 M2 c2, .int .i64 0, .int .u64 0]) rfl (by kernel_rfl) (by kernel_rfl) (by kernel_rfl) (fun _ _ _ h => h) (Or.inl ⟨by rfl, ?_⟩) (SK.out _ tV) ?_
                          · rintro w ⟨p0, h0, ⟨y0, y1, y2, y3, y4, y5⟩, j3, j4⟩
                            go_simp
                          simp only [Act.put, List.setIfInBounds_toArray, List.set_cons_zero, List.set_cons_succ]
                          refine wpAnyH_ready (rs := [15]) (by kernel_rfl) (by simp) ?_
                          refine AllReadyH.cons rfl (fun K hK => ?_) AllReadyH.nil
                          go_simp
                          refine (OVM.out _ tV).mono ?_
                          rintro oo Vn ⟨rfl, tC⟩
                          have tN := tC
                          have tV := tV.trans tN
                          clear tC
                          clear tN
                          go_simp
                          refine hK.out _ _ (SK.out _ tV) (fun _ => ?_)
                          clear hK K
                          refine wpAnyH_take (i := 16) (oi := { dst := some 196, op := Op.unOp UnOp.not 4 (Operand.tmp 195), type := 4, pos := "law.go:123", after := #[{ on := 15, ground := Ground.data }, { on := 1, ground := Ground.guard }], guard := some (1, true) }) (v := .bool true) rfl (by kernel_rfl) (by kernel_rfl) (by kernel_rfl) (fun _ _ _ h => h) (Or.inl ⟨by rfl, ?_⟩) (SK.out _ tV) ?_
                          · rintro w ⟨p0, h0, ⟨y0, y1, y2, y3, y4, y5⟩, j3, j4⟩
                            go_simp
                          simp only [Act.put, List.setIfInBounds_toArray, List.set_cons_zero, List.set_cons_succ]
                          refine wpAnyH_take (i := 17) (oi := { dst := some 197, op := Op.pick (Operand.tmp 181) (Operand.tmp 196) (Operand.const (Value.bool false)), type := 4, pos := "law.go:123", after := #[{ on := 1, ground := Ground.data }, { on := 16, ground := Ground.data }], guard := none }) (v := .bool true) rfl (by kernel_rfl) (by kernel_rfl) (by kernel_rfl) (fun _ _ _ h => h) (Or.inl ⟨by rfl, ?_⟩) (SK.out _ tV) ?_
                          · rintro w ⟨p0, h0, ⟨y0, y1, y2, y3, y4, y5⟩, j3, j4⟩
                            go_simp
                          simp only [Act.put, List.setIfInBounds_toArray, List.set_cons_zero, List.set_cons_succ]
                          refine wpAnyH_take (i := 18) (oi := { dst := some 12, op := Op.assign (Operand.tmp 197), type := 4, pos := "law.go:123", after := #[{ on := 17, ground := Ground.data }, { on := 15, ground := Ground.chain }, { on := 0, ground := Ground.phase }, { on := 1, ground := Ground.phase }, { on := 2, ground := Ground.phase }, { on := 3, ground := Ground.phase }, { on := 4, ground := Ground.phase }, { on := 5, ground := Ground.phase }, { on := 6, ground := Ground.phase }, { on := 7, ground := Ground.phase }, { on := 8, ground := Ground.phase }, { on := 9, ground := Ground.phase }, { on := 10, ground := Ground.phase }, { on := 11, ground := Ground.phase }, { on := 12, ground := Ground.phase }, { on := 13, ground := Ground.phase }, { on := 14, ground := Ground.phase }, { on := 15, ground := Ground.phase }, { on := 16, ground := Ground.phase }, { on := 17, ground := Ground.phase }], guard := none }) (v := .bool true) rfl (by kernel_rfl) (by kernel_rfl) (by kernel_rfl) (fun _ _ _ h => h) (Or.inl ⟨by rfl, ?_⟩) (SK.out _ tV) ?_
                          · rintro w ⟨p0, h0, ⟨y0, y1, y2, y3, y4, y5⟩, j3, j4⟩
                            go_simp
                          simp only [Act.put, List.setIfInBounds_toArray, List.set_cons_zero, List.set_cons_succ]
                          refine wpAnyH_done (by kernel_rfl) ?_ _
                          have TU := hide tV
                          clear tV
                          go_wp2_with fail
                          go_roundw
                          case rel => exact ⟨q + 1, by go_num, by omega, by rw [HNX.out]; rfl, HTQ.out.trans TU.out⟩
                          case measure => simp [intOf]; omega
                    · obtain rfl : q = XL2 := by omega
                      rw [List.take_of_length_le (by have := HXL2.out; omega), HSE.out]
                      go_wp2_with fail
                      go_roundw
                      case rel => exact ⟨i + 1, by go_num, by omega, by omega, rfl, HTQ.out⟩
                      case measure => simp [intOf]; omega
                · obtain rfl : i = 5 := by omega
                  rw [B5.out, BQ5.out]
                  obtain ⟨j0, j1, j2, j3, j4, j5⟩ := SJ.out _ HT2.out
                  go_wp2_with fail
                  go_ret
                  exact ⟨by simp, T6.out.trans HT2.out⟩
end Go.Proofs.Ytkmcdjbadngfgaa
