import Derived.Test.YtkmcdjbadngfgaaM21
import Derived.Test.YtkmcdjbadngfgaaM19
import Derived.Test.YtkmcdjbadngfgaaM17
import Derived.Test.YtkmcdjbadngfgaaM23
import Derived.Test.YtkmcdjbadngfgaaM02
/-
  Levels are scored, and jobs told, as the document says: the law's walk.
-/
namespace Go.Proofs.Ytkmcdjbadngfgaa
open Go.RowKit
set_option maxRecDepth 100000
set_option maxHeartbeats 4000000
theorem jobsm {L : List Lv} {next seq log z : Nat} {lo hi : List (BitVec 8)} {U LW : List Fl} {le mo : List (BitVec 8)} {bo : Bool} {w : World} {a : Option Addr} {n : Nat} (hv : VerIn w a n L next seq log) (hz : z ≤ 3) (hw : wrongVF (flL L) next seq log = false) (h : NextJ (flL L) next seq log z lo hi U LW le mo bo) : JobSm U LW le mo := by
  obtain ⟨l, hl⟩ : ∃ l, (flL L)[z]? = some l := ⟨_, List.getElem?_eq_getElem (by have := len_of_ok hw; omega)⟩
  have hg : (flL L).getD z [] = l := by rw [List.getD, hl]; rfl
  have hu := h.up
  rw [hg] at hu
  have hkl : ∀ f ∈ l, f.least.length ≤ 1000000 ∧ f.most.length ≤ 1000000 := fun f hf => by
    obtain ⟨x, hx, rfl⟩ : ∃ x, L[z]? = some x ∧ fls x.l = l := by
      unfold flL at hl
      rw [List.getElem?_map] at hl
      cases hk : L[z]? with
      | none => rw [hk] at hl; cases hl
      | some x => rw [hk] at hl; cases hl; exact ⟨x, rfl, rfl⟩
    obtain ⟨y, hy, rfl⟩ := List.mem_map.1 hf
    have := wrongF_false (wrongV_files (by rw [wrongV_F]; exact hw) x (List.mem_of_getElem? hx) y hy)
    omega
  have hlo : lo.length ≤ 1000000 ∧ hi.length ≤ 1000000 := by
    unfold UpP at hu
    split at hu
    · obtain ⟨f0, h0, hg, _⟩ := hu
      obtain ⟨f1, h1, e1⟩ := hg.lom
      obtain ⟨f2, h2, e2⟩ := hg.him
      exact ⟨by rw [e1]; exact (hkl f1 h1).1, by rw [e2]; exact (hkl f2 h2).2⟩
    · obtain ⟨f1, h1, e1, e2, _⟩ := hu
      exact ⟨by rw [e1]; exact (hkl f1 h1).1, by rw [e2]; exact (hkl f1 h1).2⟩
  have hk1 : ∀ f ∈ U, f.least.length ≤ 1000000 ∧ f.most.length ≤ 1000000 := fun f hf => by
    rw [h.hU] at hf; exact filesF_keys f (List.mem_filter.1 hf).1
  have hk2 : ∀ f ∈ LW, f.least.length ≤ 1000000 ∧ f.most.length ≤ 1000000 := fun f hf => by
    rw [h.hL] at hf; exact filesF_keys f (List.mem_filter.1 hf).1
  have n1 : U.length ≤ 5000 := by rw [h.hU]; exact Nat.le_trans (List.length_filter_le _ _) (filesF_len L next seq log _ hv.cnt)
  have n2 : LW.length ≤ 5000 := by rw [h.hL]; exact Nat.le_trans (List.length_filter_le _ _) (filesF_len L next seq log _ hv.cnt)
  have n3 : le.length ≤ 1000000 := by rw [h.hl]; exact loF_len hlo.1 fun f hf => (hk2 f hf).1
  have n4 : mo.length ≤ 1000000 := by rw [h.hm]; exact hiF_len hlo.2 fun f hf => (hk2 f hf).2
  exact ⟨by omega, fun f hf => by have := hk1 f hf; omega, by omega, fun f hf => by have := hk2 f hf; omega, by omega, by omega⟩
theorem job_cells {w : World} {v : Value} {z : Int} {U LW : List Fl} {le mo : List (BitVec 8)} {bo : Bool} (h : JobR w v z U LW le mo bo) : ∃ (q : Int) (ua : Option Addr) (n1 uc : Nat) (va : Option Addr) (n2 vc : Nat) (a1 : Option Addr) (n3 c1 : Nat) (a2 : Option Addr) (n4 c2 : Nat) (bt : Bool), v = .agg #[.int .i64 q, .slice ua n1 uc, .slice va n2 vc, .slice a1 n3 c1, .slice a2 n4 c2, .bool bt] := by
  obtain ⟨ua, va, uc, vc, R1, R2, a1, a2, c1, c2, rfl, _⟩ := h
  exact ⟨_, _, _, _, _, _, _, _, _, _, _, _, _, _, rfl⟩
/-- What the two sides answer is alike. -/
theorem next_alike {L : List Lv} {next seq log : Nat} {t b f : Int} {w : World} {a : Option Addr} {n : Nat} {v v' : Value} {e e' : Int} (hv : VerIn w a n L next seq log) (h : NextR (flL L) next seq log t b f w v e) (h' : NextR (flL L) next seq log t b f w v' e') :
    e = e' ∧ ∃ (z : Int) (U LW : List Fl) (le mo : List (BitVec 8)) (bo : Bool), JobR w v z U LW le mo bo ∧ JobR w v' z U LW le mo bo ∧ JobSm U LW le mo := by
  have hz : JobSm [] [] [] [] := ⟨(by simp), (fun f hf => by cases hf), (by simp), (fun f hf => by cases hf), (by simp), (by simp)⟩
  rcases h with ⟨h1, h2, h3⟩ | ⟨h1, h2, h3, h4⟩ | ⟨h1, h2, h3, z, lo, hi, U, LW, le, mo, bo, h4, h5, h6, h7⟩
  · rcases h' with ⟨g1, g2, g3⟩ | ⟨g1, _⟩ | ⟨g1, _⟩
    · exact ⟨by rw [h2, g2], 0, [], [], [], [], false, by rw [h3]; exact zero_read w, by rw [g3]; exact zero_read w, hz⟩
    · rw [h1] at g1; cases g1
    · rw [h1] at g1; cases g1
  · rcases h' with ⟨g1, _⟩ | ⟨g1, g2, g3, g4⟩ | ⟨g1, g2, _⟩
    · rw [h1] at g1; cases g1
    · exact ⟨by rw [h3, g3], 0, [], [], [], [], false, by rw [h4]; exact zero_read w, by rw [g4]; exact zero_read w, hz⟩
    · rw [h2] at g2; cases g2
  · rcases h' with ⟨g1, _⟩ | ⟨g1, g2, _⟩ | ⟨g1, g2, g3, z', lo', hi', U', LW', le', mo', bo', g4, g5, g6, g7⟩
    · rw [h1] at g1; cases g1
    · rw [h2] at g2; cases g2
    · have hw : wrongVF (flL L) next seq log = false := by
        cases hh : wrongVF (flL L) next seq log
        · rfl
        · rw [hh] at h1; cases h1
      have hzz : z' = z := by rw [h5] at g5; omega
      subst hzz
      obtain ⟨rfl, rfl, rfl, rfl, rfl⟩ := h6.same hw h4 g6
      exact ⟨by rw [h3, g3], (z' : Nat), U, LW, le, mo, bo, h7, g7, jobsm hv h4 hw h6⟩
theorem calls_any (a : Option Addr) (n c next seq log : Nat) (L : List Lv) (t b' f z : Int) (w : World) (hL : Levs w a L) (hn : n = L.length) (hmx : n ≤ reachBytes) (hf : ∀ x ∈ L, x.l.length ≤ reachBytes ∧ ∀ f ∈ x.l, FitF f) (hb1 : next < 18446744073709551616) (hb2 : seq < 18446744073709551616) (hb3 : log < 18446744073709551616) :
    Calls Try.prog 4 #[verAgg a n c next seq log, setAgg t b' f, .int .i64 z] w fun e w' => e = .returned (.bool true) ∧ Turns (fun _ => False) w w' := by
  have TA := hide (((Turns.refl (fun _ => False) w).alloc (.cells #[.slice a n c, .int .u64 (next : Nat), .int .u64 (seq : Nat), .int .u64 (log : Nat)] 25)).alloc (.cells #[.int .i64 t, .int .i64 b', .int .i64 f] 35))
  have R0 := hide (((Turns.refl (fun _ => False) (w.alloc (.cells #[.slice a n c, .int .u64 (next : Nat), .int .u64 (seq : Nat), .int .u64 (log : Nat)] 25))).alloc (.cells #[.int .i64 t, .int .i64 b', .int .i64 f] 35)).heap (heap_alloc_new w (.cells #[.slice a n c, .int .u64 (next : Nat), .int .u64 (seq : Nat), .int .u64 (log : Nat)] 25)) (fun x => x))
  have R1 := hide (heap_alloc_new (w.alloc (.cells #[.slice a n c, .int .u64 (next : Nat), .int .u64 (seq : Nat), .int .u64 (log : Nat)] 25)) (.cells #[.int .i64 t, .int .i64 b', .int .i64 f] 35))
  simp only [World.size_alloc] at R1
  have SM := hide (fun (u : World) (tu : Turns (fun _ => False) w u) => small_any a n c next seq log L u (hL.quiet tu) hn hmx fun x hx => (hf x hx).1)
  have HVS := hide (fun (h : (decide (n ≤ 10) && (decide (w64 (cnt L : Nat) ≤ 100) && decide (w64 (levN L : Nat) ≤ 10000))) = true) => show VerIn w a n L next seq log by
    simp only [Bool.and_eq_true, decide_eq_true_iff] at h
    obtain ⟨g1, g2⟩ := small_fin hf (by rw [← hn]; exact h.1) h.2.1 h.2.2
    exact verIn_small hL hn hf g1 g2 hb1 hb2 hb3)
  generalize (decide (n ≤ 10) && (decide (w64 (cnt L : Nat) ≤ 100) && decide (w64 (levN L : Nat) ≤ 10000))) = S at *
  clear hL hn hmx hf hb1 hb2 hb3
  have LI := hide lives_any
  have CS := hide (checkSetup_any t b' f)
  have RCS := hide (rcheckSetup_any t b' f)
  have BO := hide (bound_any t b' f z)
  have RBO := hide (rbound_any t b' f z)
  unfold verAgg setAgg at *
  go_enter Try.func4, Try.ntmps4
  go_wp2_with fail
  obtain ⟨w0, hw0⟩ : ∃ u, u = (w.alloc (.cells #[.slice a n c, .int .u64 (next : Nat), .int .u64 (seq : Nat), .int .u64 (log : Nat)] 25)).alloc (.cells #[.int .i64 t, .int .i64 b', .int .i64 f] 35) := ⟨_, rfl⟩
  rw [← hw0] at TA R0 R1 ⊢
  clear hw0
  generalize w.heap.size = P at *
  refine (LI.out _).mono ?_
  rintro e w1 ⟨rfl, t1⟩
  have T1 := hide (TA.out.trans t1)
  have Q0 := hide (t1.heap R0.out (fun x => x))
  have Q1 := hide (t1.heap R1.out (fun x => x))
  have SK := hide (fun (u : World) (tu : Turns (fun _ => False) w1 u) => show (u.cell? ⟨P, 0, none⟩ = some (.slice a n c) ∧ u.cell? ⟨P, 1, none⟩ = some (.int .u64 (next : Nat)) ∧ u.cell? ⟨P, 2, none⟩ = some (.int .u64 (seq : Nat)) ∧ u.cell? ⟨P, 3, none⟩ = some (.int .u64 (log : Nat))) ∧ (u.cell? ⟨P + 1, 0, none⟩ = some (.int .i64 t) ∧ u.cell? ⟨P + 1, 1, none⟩ = some (.int .i64 b') ∧ u.cell? ⟨P + 1, 2, none⟩ = some (.int .i64 f)) from ⟨⟨cell_of_row u P 0 _ 25 (0, 0) (tu.heap Q0.out (fun x => x)), cell_of_row u P 1 _ 25 (0, 0) (tu.heap Q0.out (fun x => x)), cell_of_row u P 2 _ 25 (0, 0) (tu.heap Q0.out (fun x => x)), cell_of_row u P 3 _ 25 (0, 0) (tu.heap Q0.out (fun x => x))⟩, cell_of_row u (P + 1) 0 _ 35 (0, 0) (tu.heap Q1.out (fun x => x)), cell_of_row u (P + 1) 1 _ 35 (0, 0) (tu.heap Q1.out (fun x => x)), cell_of_row u (P + 1) 2 _ 35 (0, 0) (tu.heap Q1.out (fun x => x))⟩)
  clear t1 R0 R1 TA LI
  obtain ⟨⟨p0, p1, p2, p3⟩, q0, q1, q2⟩ := SK.out w1 (Turns.refl _ _)
  go_wp2_with fail
  refine (SM.out _ T1.out).mono ?_
  rintro e w2 ⟨rfl, t2⟩
  have T2 := hide t2
  clear t2 SM p0 p1 p2 p3 q0 q1 q2
  cases S with
  | false =>
    go_wp2_with fail
    go_ret
    exact ⟨rfl, T1.out.trans T2.out⟩
  | true =>
    have HV := hide (HVS.out (by first | rfl | trivial))
    clear HVS
    have NX := hide (fun (u : World) (tu : Turns (fun _ => False) w u) => next_any a n c next seq log L t b' f u (HV.out.quiet tu))
    have RNX := hide (fun (u : World) (tu : Turns (fun _ => False) w u) => rnext_any a n c next seq log L t b' f u (HV.out.quiet tu))
    unfold verAgg setAgg at NX RNX
    obtain ⟨⟨p0, p1, p2, p3⟩, q0, q1, q2⟩ := SK.out w2 T2.out
    go_wp2_with fail
    refine (NX.out _ (T1.out.trans T2.out)).mono ?_
    rintro e w3 ⟨v, er, rfl, ho, t3⟩
    have T3 := hide (T2.out.trans t3)
    have HN := hide ho.read
    clear t3 NX p0 p1 p2 p3 q0 q1 q2 ho
    obtain ⟨q, ua, n1, uc, va, n2, vc, a1, n3, c1, a2, n4, c2, bt, hx⟩ : ∃ (q : Int) (ua : Option Addr) (n1 uc : Nat) (va : Option Addr) (n2 vc : Nat) (a1 : Option Addr) (n3 c1 : Nat) (a2 : Option Addr) (n4 c2 : Nat) (bt : Bool), v = .agg #[.int .i64 q, .slice ua n1 uc, .slice va n2 vc, .slice a1 n3 c1, .slice a2 n4 c2, .bool bt] := by
      obtain ⟨_, _, _, _, _, _, _, h, _, _⟩ := next_alike (HV.out.quiet (T1.out.trans T3.out)) HN.out HN.out
      exact job_cells h
    subst hx
    have TJ := hide ((Turns.refl (fun _ => False) w3).alloc (.cells #[.int .i64 q, .slice ua n1 uc, .slice va n2 vc, .slice a1 n3 c1, .slice a2 n4 c2, .bool bt] 43))
    obtain ⟨w4, hw4⟩ : ∃ u, u = w3.alloc (.cells #[.int .i64 q, .slice ua n1 uc, .slice va n2 vc, .slice a1 n3 c1, .slice a2 n4 c2, .bool bt] 43) := ⟨_, rfl⟩
    rw [← hw4] at TJ
    have RJ := hide (show w4.heap[w3.heap.size]? = some (.cells #[.int .i64 q, .slice ua n1 uc, .slice va n2 vc, .slice a1 n3 c1, .slice a2 n4 c2, .bool bt] 43 (0, 0)) by rw [hw4]; exact heap_alloc_new _ _)
    have HW4 := hide hw4
    clear hw4
    obtain ⟨⟨p0, p1, p2, p3⟩, q0, q1, q2⟩ := SK.out _ (T3.out.trans TJ.out)
    rw [HW4.out] at p0 p1 p2 p3 q0 q1 q2
    go_wp2_with fail
    rw [← HW4.out]
    generalize w3.heap.size = J at *
    clear p0 p1 p2 p3 q0 q1 q2 HW4
    refine (RNX.out _ ((T1.out.trans T3.out).trans TJ.out)).mono ?_
    rintro e w5 ⟨v', er', rfl, ho', t5⟩
    have T5 := hide ((T3.out.trans TJ.out).trans t5)
    have HN5 := hide (HN.out.quiet (TJ.out.trans t5))
    have RJ5 := hide (t5.heap RJ.out (fun x => x))
    obtain ⟨rfl, zz, U, LW, le, mo, bo, hj, hj', hsm⟩ := next_alike (HV.out.quiet (T1.out.trans T5.out)) HN5.out ho'
    obtain ⟨q', ua', n1', uc', va', n2', vc', a1', n3', c1', a2', n4', c2', bt', hx⟩ := job_cells hj'
    subst hx
    have HJ := hide hj
    have HJ' := hide hj'
    have HSM := hide hsm
    clear ho' t5 RJ hj hj' hsm RNX HN HN5 T3 TJ
    have TK := hide ((Turns.refl (fun _ => False) w5).alloc (.cells #[.int .i64 q', .slice ua' n1' uc', .slice va' n2' vc', .slice a1' n3' c1', .slice a2' n4' c2', .bool bt'] 43))
    obtain ⟨w6, hw6⟩ : ∃ u, u = w5.alloc (.cells #[.int .i64 q', .slice ua' n1' uc', .slice va' n2' vc', .slice a1' n3' c1', .slice a2' n4' c2', .bool bt'] 43) := ⟨_, rfl⟩
    rw [← hw6] at TK
    have RK := hide (show w6.heap[w5.heap.size]? = some (.cells #[.int .i64 q', .slice ua' n1' uc', .slice va' n2' vc', .slice a1' n3' c1', .slice a2' n4' c2', .bool bt'] 43 (0, 0)) by rw [hw6]; exact heap_alloc_new _ _)
    have RJ6 := hide (TK.out.heap RJ5.out (fun x => x))
    have T6 := hide ((T1.out.trans T5.out).trans TK.out)
    have HW6 := hide hw6
    clear hw6
    go_upto_region 7 with (fail)
    rw [← HW6.out]
    generalize w5.heap.size = K at *
    clear HW6
    have KJ := hide (fun (u : World) (tu : Turns (fun _ => False) w6 u) => kjob_same u _ _ zz U LW le mo bo (HJ.out.quiet (TK.out.trans tu)) (HJ'.out.quiet (TK.out.trans tu)) HSM.out)
    have SC := hide (fun (u : World) (tu : Turns (fun _ => False) w6 u) => Score_any a n c next seq log L t b' f z u (HV.out.quiet (T6.out.trans tu)))
    have RSC := hide (fun (u : World) (tu : Turns (fun _ => False) w6 u) => rScore_any a n c next seq log L t b' f z u (HV.out.quiet (T6.out.trans tu)))
    have RE := hide (fun (u : World) (tu : Turns (fun _ => False) w6 u) => rest_any a n c next seq log L t b' f u (HV.out.quiet (T6.out.trans tu)))
    have RRE := hide (fun (u : World) (tu : Turns (fun _ => False) w6 u) => rRest_any a n c next seq log L t b' f u (HV.out.quiet (T6.out.trans tu)))
    unfold verAgg setAgg at SC RSC RE RRE
    generalize ScoreP (flL L) next seq log t b' f z = SV at *
    generalize restP (flL L) next seq log t b' f = RV at *
    generalize setE t b' f = EV at *
    generalize boundP t b' f z = BV at *
    have SK := hide (fun (u : World) (tu : Turns (fun _ => False) w6 u) => show ((u.cell? ⟨P, 0, none⟩ = some (.slice a n c) ∧ u.cell? ⟨P, 1, none⟩ = some (.int .u64 (next : Nat)) ∧ u.cell? ⟨P, 2, none⟩ = some (.int .u64 (seq : Nat)) ∧ u.cell? ⟨P, 3, none⟩ = some (.int .u64 (log : Nat))) ∧ (u.cell? ⟨P + 1, 0, none⟩ = some (.int .i64 t) ∧ u.cell? ⟨P + 1, 1, none⟩ = some (.int .i64 b') ∧ u.cell? ⟨P + 1, 2, none⟩ = some (.int .i64 f))) ∧ (u.cell? ⟨J, 0, none⟩ = some (.int .i64 q) ∧ u.cell? ⟨J, 1, none⟩ = some (.slice ua n1 uc) ∧ u.cell? ⟨J, 2, none⟩ = some (.slice va n2 vc) ∧ u.cell? ⟨J, 3, none⟩ = some (.slice a1 n3 c1) ∧ u.cell? ⟨J, 4, none⟩ = some (.slice a2 n4 c2) ∧ u.cell? ⟨J, 5, none⟩ = some (.bool bt)) ∧ u.cell? ⟨K, 0, none⟩ = some (.int .i64 q') ∧ u.cell? ⟨K, 1, none⟩ = some (.slice ua' n1' uc') ∧ u.cell? ⟨K, 2, none⟩ = some (.slice va' n2' vc') ∧ u.cell? ⟨K, 3, none⟩ = some (.slice a1' n3' c1') ∧ u.cell? ⟨K, 4, none⟩ = some (.slice a2' n4' c2') ∧ u.cell? ⟨K, 5, none⟩ = some (.bool bt') from ⟨SK.out u ((T5.out.trans TK.out).trans tu), ⟨cell_of_row u J 0 _ 43 (0, 0) (tu.heap RJ6.out (fun x => x)), cell_of_row u J 1 _ 43 (0, 0) (tu.heap RJ6.out (fun x => x)), cell_of_row u J 2 _ 43 (0, 0) (tu.heap RJ6.out (fun x => x)), cell_of_row u J 3 _ 43 (0, 0) (tu.heap RJ6.out (fun x => x)), cell_of_row u J 4 _ 43 (0, 0) (tu.heap RJ6.out (fun x => x)), cell_of_row u J 5 _ 43 (0, 0) (tu.heap RJ6.out (fun x => x))⟩, cell_of_row u K 0 _ 43 (0, 0) (tu.heap RK.out (fun x => x)), cell_of_row u K 1 _ 43 (0, 0) (tu.heap RK.out (fun x => x)), cell_of_row u K 2 _ 43 (0, 0) (tu.heap RK.out (fun x => x)), cell_of_row u K 3 _ 43 (0, 0) (tu.heap RK.out (fun x => x)), cell_of_row u K 4 _ 43 (0, 0) (tu.heap RK.out (fun x => x)), cell_of_row u K 5 _ 43 (0, 0) (tu.heap RK.out (fun x => x))⟩)
    have tV : Turns (fun _ => False) w6 w6.drew := (Turns.refl _ _).drew
    refine wp_region_held_drew (S := fun u => ((u.cell? ⟨P, 0, none⟩ = some (.slice a n c) ∧ u.cell? ⟨P, 1, none⟩ = some (.int .u64 (next : Nat)) ∧ u.cell? ⟨P, 2, none⟩ = some (.int .u64 (seq : Nat)) ∧ u.cell? ⟨P, 3, none⟩ = some (.int .u64 (log : Nat))) ∧ (u.cell? ⟨P + 1, 0, none⟩ = some (.int .i64 t) ∧ u.cell? ⟨P + 1, 1, none⟩ = some (.int .i64 b') ∧ u.cell? ⟨P + 1, 2, none⟩ = some (.int .i64 f))) ∧ (u.cell? ⟨J, 0, none⟩ = some (.int .i64 q) ∧ u.cell? ⟨J, 1, none⟩ = some (.slice ua n1 uc) ∧ u.cell? ⟨J, 2, none⟩ = some (.slice va n2 vc) ∧ u.cell? ⟨J, 3, none⟩ = some (.slice a1 n3 c1) ∧ u.cell? ⟨J, 4, none⟩ = some (.slice a2 n4 c2) ∧ u.cell? ⟨J, 5, none⟩ = some (.bool bt)) ∧ u.cell? ⟨K, 0, none⟩ = some (.int .i64 q') ∧ u.cell? ⟨K, 1, none⟩ = some (.slice ua' n1' uc') ∧ u.cell? ⟨K, 2, none⟩ = some (.slice va' n2' vc') ∧ u.cell? ⟨K, 3, none⟩ = some (.slice a1' n3' c1') ∧ u.cell? ⟨K, 4, none⟩ = some (.slice a2' n4' c2') ∧ u.cell? ⟨K, 5, none⟩ = some (.bool bt')) (by kernel_rfl) (SK.out _ tV) (fun _ => ?_)
    change wpAnyH _ _ _ _ _ 45 (Array.replicate 45 false) _ _
    refine wpAnyH_take (i := 0) (oi := { dst := some 28, op := Op.load 43 (Operand.tmp 7), type := 43, pos := "law.go:70", after := #[], guard := none }) (v := .agg #[.int .i64 q, .slice ua n1 uc, .slice va n2 vc, .slice a1 n3 c1, .slice a2 n4 c2, .bool bt]) rfl (by kernel_rfl) (by kernel_rfl) (by kernel_rfl) (fun _ _ _ h => h) (Or.inl ⟨by rfl, ?_⟩) (SK.out _ tV) ?_
    · rintro w ⟨⟨⟨p0, p1, p2, p3⟩, q0, q1, q2⟩, ⟨j0, j1, j2, j3, j4, j5⟩, k0, k1, k2, k3, k4, k5⟩
      go_simp
    simp only [Act.put, List.setIfInBounds_toArray, List.set_cons_zero, List.set_cons_succ]
    refine wpAnyH_take (i := 1) (oi := { dst := some 29, op := Op.load 43 (Operand.tmp 9), type := 43, pos := "law.go:70", after := #[], guard := none }) (v := .agg #[.int .i64 q', .slice ua' n1' uc', .slice va' n2' vc', .slice a1' n3' c1', .slice a2' n4' c2', .bool bt']) rfl (by kernel_rfl) (by kernel_rfl) (by kernel_rfl) (fun _ _ _ h => h) (Or.inl ⟨by rfl, ?_⟩) (SK.out _ tV) ?_
    · rintro w ⟨⟨⟨p0, p1, p2, p3⟩, q0, q1, q2⟩, ⟨j0, j1, j2, j3, j4, j5⟩, k0, k1, k2, k3, k4, k5⟩
      go_simp
    simp only [Act.put, List.setIfInBounds_toArray, List.set_cons_zero, List.set_cons_succ]
    refine wpAnyH_ready (rs := [2]) (by kernel_rfl) (by simp) ?_
    refine AllReadyH.cons rfl (fun K hK => ?_) AllReadyH.nil
    go_simp
    refine (KJ.out _ tV).mono ?_
    rintro oo Vn ⟨rfl, tC⟩
    have tN := tC
    have tV := tV.trans tN
    clear tC
    clear tN
    go_simp
    refine hK.out _ _ (SK.out _ tV) (fun _ => ?_)
    clear hK K
    refine wpAnyH_take (i := 3) (oi := { dst := some 31, op := Op.move (Operand.tmp 30), type := 4, pos := "law.go:70", after := #[{ on := 2, ground := Ground.data }, { on := 2, ground := Ground.chain }], guard := none }) (v := .bool true) rfl (by kernel_rfl) (by kernel_rfl) (by kernel_rfl) (fun _ _ _ h => h) (Or.inl ⟨by rfl, ?_⟩) (SK.out _ tV) ?_
    · rintro w ⟨⟨⟨p0, p1, p2, p3⟩, q0, q1, q2⟩, ⟨j0, j1, j2, j3, j4, j5⟩, k0, k1, k2, k3, k4, k5⟩
      go_simp
    simp only [Act.put, List.setIfInBounds_toArray, List.set_cons_zero, List.set_cons_succ]
    refine wpAnyH_take (i := 4) (oi := { dst := some 32, op := Op.move (Operand.tmp 8), type := 39, pos := "law.go:70", after := #[{ on := 3, ground := Ground.guard }], guard := some (3, true) }) (v := .int .i64 er) rfl (by kernel_rfl) (by kernel_rfl) (by kernel_rfl) (fun _ _ _ h => h) (Or.inl ⟨by rfl, ?_⟩) (SK.out _ tV) ?_
    · rintro w ⟨⟨⟨p0, p1, p2, p3⟩, q0, q1, q2⟩, ⟨j0, j1, j2, j3, j4, j5⟩, k0, k1, k2, k3, k4, k5⟩
      go_simp
    simp only [Act.put, List.setIfInBounds_toArray, List.set_cons_zero, List.set_cons_succ]
    refine wpAnyH_take (i := 5) (oi := { dst := some 33, op := Op.move (Operand.tmp 10), type := 39, pos := "law.go:70", after := #[{ on := 3, ground := Ground.guard }], guard := some (3, true) }) (v := .int .i64 er) rfl (by kernel_rfl) (by kernel_rfl) (by kernel_rfl) (fun _ _ _ h => h) (Or.inl ⟨by rfl, ?_⟩) (SK.out _ tV) ?_
    · rintro w ⟨⟨⟨p0, p1, p2, p3⟩, q0, q1, q2⟩, ⟨j0, j1, j2, j3, j4, j5⟩, k0, k1, k2, k3, k4, k5⟩
      go_simp
    simp only [Act.put, List.setIfInBounds_toArray, List.set_cons_zero, List.set_cons_succ]
    refine wpAnyH_take (i := 6) (oi := { dst := some 34, op := Op.binOp BinOp.eql 39 (Operand.tmp 32) (Operand.tmp 33) 39, type := 4, pos := "law.go:70", after := #[{ on := 4, ground := Ground.data }, { on := 5, ground := Ground.data }, { on := 3, ground := Ground.guard }], guard := some (3, true) }) (v := .bool true) rfl (by kernel_rfl) (by kernel_rfl) (by kernel_rfl) (fun _ _ _ h => h) (Or.inl ⟨by rfl, ?_⟩) (SK.out _ tV) ?_
    · rintro w ⟨⟨⟨p0, p1, p2, p3⟩, q0, q1, q2⟩, ⟨j0, j1, j2, j3, j4, j5⟩, k0, k1, k2, k3, k4, k5⟩
      go_simp
    simp only [Act.put, List.setIfInBounds_toArray, List.set_cons_zero, List.set_cons_succ]
    refine wpAnyH_take (i := 7) (oi := { dst := some 35, op := Op.pick (Operand.tmp 31) (Operand.tmp 34) (Operand.const (Value.bool false)), type := 4, pos := "law.go:70", after := #[{ on := 3, ground := Ground.data }, { on := 6, ground := Ground.data }], guard := none }) (v := .bool true) rfl (by kernel_rfl) (by kernel_rfl) (by kernel_rfl) (fun _ _ _ h => h) (Or.inl ⟨by rfl, ?_⟩) (SK.out _ tV) ?_
    · rintro w ⟨⟨⟨p0, p1, p2, p3⟩, q0, q1, q2⟩, ⟨j0, j1, j2, j3, j4, j5⟩, k0, k1, k2, k3, k4, k5⟩
      go_simp
    simp only [Act.put, List.setIfInBounds_toArray, List.set_cons_zero, List.set_cons_succ]
    refine wpAnyH_take (i := 8) (oi := { dst := some 36, op := Op.move (Operand.tmp 35), type := 4, pos := "law.go:70", after := #[{ on := 7, ground := Ground.data }, { on := 3, ground := Ground.chain }], guard := none }) (v := .bool true) rfl (by kernel_rfl) (by kernel_rfl) (by kernel_rfl) (fun _ _ _ h => h) (Or.inl ⟨by rfl, ?_⟩) (SK.out _ tV) ?_
    · rintro w ⟨⟨⟨p0, p1, p2, p3⟩, q0, q1, q2⟩, ⟨j0, j1, j2, j3, j4, j5⟩, k0, k1, k2, k3, k4, k5⟩
      go_simp
    simp only [Act.put, List.setIfInBounds_toArray, List.set_cons_zero, List.set_cons_succ]
    refine wpAnyH_take (i := 9) (oi := { dst := some 37, op := Op.load 35 (Operand.tmp 4), type := 35, pos := "law.go:70", after := #[{ on := 8, ground := Ground.guard }], guard := some (8, true) }) (v := .agg #[.int .i64 t, .int .i64 b', .int .i64 f]) rfl (by kernel_rfl) (by kernel_rfl) (by kernel_rfl) (fun _ _ _ h => h) (Or.inl ⟨by rfl, ?_⟩) (SK.out _ tV) ?_
    · rintro w ⟨⟨⟨p0, p1, p2, p3⟩, q0, q1, q2⟩, ⟨j0, j1, j2, j3, j4, j5⟩, k0, k1, k2, k3, k4, k5⟩
      go_simp
    simp only [Act.put, List.setIfInBounds_toArray, List.set_cons_zero, List.set_cons_succ]
    refine wpAnyH_take (i := 11) (oi := { dst := some 39, op := Op.load 35 (Operand.tmp 4), type := 35, pos := "law.go:70", after := #[{ on := 8, ground := Ground.guard }], guard := some (8, true) }) (v := .agg #[.int .i64 t, .int .i64 b', .int .i64 f]) rfl (by kernel_rfl) (by kernel_rfl) (by kernel_rfl) (fun _ _ _ h => h) (Or.inl ⟨by rfl, ?_⟩) (SK.out _ tV) ?_
    · rintro w ⟨⟨⟨p0, p1, p2, p3⟩, q0, q1, q2⟩, ⟨j0, j1, j2, j3, j4, j5⟩, k0, k1, k2, k3, k4, k5⟩
      go_simp
    simp only [Act.put, List.setIfInBounds_toArray, List.set_cons_zero, List.set_cons_succ]
    refine wpAnyH_ready (rs := [10]) (by kernel_rfl) (by simp) ?_
    refine AllReadyH.cons rfl (fun K hK => ?_) AllReadyH.nil
    go_simp
    refine (CS.out _).mono ?_
    rintro oo Vn ⟨rfl, tC⟩
    have tN := tC
    have tV := tV.trans tN
    clear tC
    clear tN
    go_simp
    refine hK.out _ _ (SK.out _ tV) (fun _ => ?_)
    clear hK K
    refine wpAnyH_ready (rs := [12]) (by kernel_rfl) (by simp) ?_
    refine AllReadyH.cons rfl (fun K hK => ?_) AllReadyH.nil
    go_simp
    refine (RCS.out _).mono ?_
    rintro oo Vn ⟨rfl, tC⟩
    have tN := tC
    have tV := tV.trans tN
    clear tC
    clear tN
    go_simp
    refine hK.out _ _ (SK.out _ tV) (fun _ => ?_)
    clear hK K
    refine wpAnyH_take (i := 13) (oi := { dst := some 41, op := Op.binOp BinOp.eql 39 (Operand.tmp 38) (Operand.tmp 40) 39, type := 4, pos := "law.go:70", after := #[{ on := 10, ground := Ground.data }, { on := 12, ground := Ground.data }, { on := 8, ground := Ground.guard }], guard := some (8, true) }) (v := .bool true) rfl (by kernel_rfl) (by kernel_rfl) (by kernel_rfl) (fun _ _ _ h => h) (Or.inl ⟨by rfl, ?_⟩) (SK.out _ tV) ?_
    · rintro w ⟨⟨⟨p0, p1, p2, p3⟩, q0, q1, q2⟩, ⟨j0, j1, j2, j3, j4, j5⟩, k0, k1, k2, k3, k4, k5⟩
      go_simp
    simp only [Act.put, List.setIfInBounds_toArray, List.set_cons_zero, List.set_cons_succ]
    refine wpAnyH_take (i := 14) (oi := { dst := some 42, op := Op.pick (Operand.tmp 36) (Operand.tmp 41) (Operand.const (Value.bool false)), type := 4, pos := "law.go:70", after := #[{ on := 8, ground := Ground.data }, { on := 13, ground := Ground.data }], guard := none }) (v := .bool true) rfl (by kernel_rfl) (by kernel_rfl) (by kernel_rfl) (fun _ _ _ h => h) (Or.inl ⟨by rfl, ?_⟩) (SK.out _ tV) ?_
    · rintro w ⟨⟨⟨p0, p1, p2, p3⟩, q0, q1, q2⟩, ⟨j0, j1, j2, j3, j4, j5⟩, k0, k1, k2, k3, k4, k5⟩
      go_simp
    simp only [Act.put, List.setIfInBounds_toArray, List.set_cons_zero, List.set_cons_succ]
    refine wpAnyH_take (i := 15) (oi := { dst := some 43, op := Op.move (Operand.tmp 42), type := 4, pos := "law.go:70", after := #[{ on := 14, ground := Ground.data }, { on := 12, ground := Ground.chain }], guard := none }) (v := .bool true) rfl (by kernel_rfl) (by kernel_rfl) (by kernel_rfl) (fun _ _ _ h => h) (Or.inl ⟨by rfl, ?_⟩) (SK.out _ tV) ?_
    · rintro w ⟨⟨⟨p0, p1, p2, p3⟩, q0, q1, q2⟩, ⟨j0, j1, j2, j3, j4, j5⟩, k0, k1, k2, k3, k4, k5⟩
      go_simp
    simp only [Act.put, List.setIfInBounds_toArray, List.set_cons_zero, List.set_cons_succ]
    refine wpAnyH_take (i := 16) (oi := { dst := some 44, op := Op.load 35 (Operand.tmp 4), type := 35, pos := "law.go:70", after := #[{ on := 15, ground := Ground.guard }], guard := some (15, true) }) (v := .agg #[.int .i64 t, .int .i64 b', .int .i64 f]) rfl (by kernel_rfl) (by kernel_rfl) (by kernel_rfl) (fun _ _ _ h => h) (Or.inl ⟨by rfl, ?_⟩) (SK.out _ tV) ?_
    · rintro w ⟨⟨⟨p0, p1, p2, p3⟩, q0, q1, q2⟩, ⟨j0, j1, j2, j3, j4, j5⟩, k0, k1, k2, k3, k4, k5⟩
      go_simp
    simp only [Act.put, List.setIfInBounds_toArray, List.set_cons_zero, List.set_cons_succ]
    refine wpAnyH_take (i := 17) (oi := { dst := some 45, op := Op.move (Operand.tmp 2), type := 3, pos := "law.go:70", after := #[{ on := 15, ground := Ground.guard }], guard := some (15, true) }) (v := .int .i64 z) rfl (by kernel_rfl) (by kernel_rfl) (by kernel_rfl) (fun _ _ _ h => h) (Or.inl ⟨by rfl, ?_⟩) (SK.out _ tV) ?_
    · rintro w ⟨⟨⟨p0, p1, p2, p3⟩, q0, q1, q2⟩, ⟨j0, j1, j2, j3, j4, j5⟩, k0, k1, k2, k3, k4, k5⟩
      go_simp
    simp only [Act.put, List.setIfInBounds_toArray, List.set_cons_zero, List.set_cons_succ]
    refine wpAnyH_take (i := 19) (oi := { dst := some 47, op := Op.load 35 (Operand.tmp 4), type := 35, pos := "law.go:70", after := #[{ on := 15, ground := Ground.guard }], guard := some (15, true) }) (v := .agg #[.int .i64 t, .int .i64 b', .int .i64 f]) rfl (by kernel_rfl) (by kernel_rfl) (by kernel_rfl) (fun _ _ _ h => h) (Or.inl ⟨by rfl, ?_⟩) (SK.out _ tV) ?_
    · rintro w ⟨⟨⟨p0, p1, p2, p3⟩, q0, q1, q2⟩, ⟨j0, j1, j2, j3, j4, j5⟩, k0, k1, k2, k3, k4, k5⟩
      go_simp
    simp only [Act.put, List.setIfInBounds_toArray, List.set_cons_zero, List.set_cons_succ]
    refine wpAnyH_take (i := 20) (oi := { dst := some 48, op := Op.move (Operand.tmp 2), type := 3, pos := "law.go:70", after := #[{ on := 15, ground := Ground.guard }], guard := some (15, true) }) (v := .int .i64 z) rfl (by kernel_rfl) (by kernel_rfl) (by kernel_rfl) (fun _ _ _ h => h) (Or.inl ⟨by rfl, ?_⟩) (SK.out _ tV) ?_
    · rintro w ⟨⟨⟨p0, p1, p2, p3⟩, q0, q1, q2⟩, ⟨j0, j1, j2, j3, j4, j5⟩, k0, k1, k2, k3, k4, k5⟩
      go_simp
    simp only [Act.put, List.setIfInBounds_toArray, List.set_cons_zero, List.set_cons_succ]
    refine wpAnyH_ready (rs := [18]) (by kernel_rfl) (by simp) ?_
    refine AllReadyH.cons rfl (fun K hK => ?_) AllReadyH.nil
    go_simp
    refine (BO.out _).mono ?_
    rintro oo Vn ⟨rfl, tC⟩
    have tN := tC
    have tV := tV.trans tN
    clear tC
    clear tN
    go_simp
    refine hK.out _ _ (SK.out _ tV) (fun _ => ?_)
    clear hK K
    refine wpAnyH_ready (rs := [21]) (by kernel_rfl) (by simp) ?_
    refine AllReadyH.cons rfl (fun K hK => ?_) AllReadyH.nil
    go_simp
    refine (RBO.out _).mono ?_
    rintro oo Vn ⟨rfl, tC⟩
    have tN := tC
    have tV := tV.trans tN
    clear tC
    clear tN
    go_simp
    refine hK.out _ _ (SK.out _ tV) (fun _ => ?_)
    clear hK K
    refine wpAnyH_take (i := 22) (oi := { dst := some 50, op := Op.binOp BinOp.eql 3 (Operand.tmp 46) (Operand.tmp 49) 3, type := 4, pos := "law.go:70", after := #[{ on := 18, ground := Ground.data }, { on := 21, ground := Ground.data }, { on := 15, ground := Ground.guard }], guard := some (15, true) }) (v := .bool true) rfl (by kernel_rfl) (by kernel_rfl) (by kernel_rfl) (fun _ _ _ h => h) (Or.inl ⟨by rfl, ?_⟩) (SK.out _ tV) ?_
    · rintro w ⟨⟨⟨p0, p1, p2, p3⟩, q0, q1, q2⟩, ⟨j0, j1, j2, j3, j4, j5⟩, k0, k1, k2, k3, k4, k5⟩
      go_simp
    simp only [Act.put, List.setIfInBounds_toArray, List.set_cons_zero, List.set_cons_succ]
    refine wpAnyH_take (i := 23) (oi := { dst := some 51, op := Op.pick (Operand.tmp 43) (Operand.tmp 50) (Operand.const (Value.bool false)), type := 4, pos := "law.go:70", after := #[{ on := 15, ground := Ground.data }, { on := 22, ground := Ground.data }], guard := none }) (v := .bool true) rfl (by kernel_rfl) (by kernel_rfl) (by kernel_rfl) (fun _ _ _ h => h) (Or.inl ⟨by rfl, ?_⟩) (SK.out _ tV) ?_
    · rintro w ⟨⟨⟨p0, p1, p2, p3⟩, q0, q1, q2⟩, ⟨j0, j1, j2, j3, j4, j5⟩, k0, k1, k2, k3, k4, k5⟩
      go_simp
    simp only [Act.put, List.setIfInBounds_toArray, List.set_cons_zero, List.set_cons_succ]
    refine wpAnyH_take (i := 24) (oi := { dst := some 52, op := Op.move (Operand.tmp 51), type := 4, pos := "law.go:70", after := #[{ on := 23, ground := Ground.data }, { on := 21, ground := Ground.chain }], guard := none }) (v := .bool true) rfl (by kernel_rfl) (by kernel_rfl) (by kernel_rfl) (fun _ _ _ h => h) (Or.inl ⟨by rfl, ?_⟩) (SK.out _ tV) ?_
    · rintro w ⟨⟨⟨p0, p1, p2, p3⟩, q0, q1, q2⟩, ⟨j0, j1, j2, j3, j4, j5⟩, k0, k1, k2, k3, k4, k5⟩
      go_simp
    simp only [Act.put, List.setIfInBounds_toArray, List.set_cons_zero, List.set_cons_succ]
    refine wpAnyH_take (i := 25) (oi := { dst := some 53, op := Op.load 25 (Operand.tmp 3), type := 25, pos := "law.go:70", after := #[{ on := 24, ground := Ground.guard }], guard := some (24, true) }) (v := .agg #[.slice a n c, .int .u64 (next : Nat), .int .u64 (seq : Nat), .int .u64 (log : Nat)]) rfl (by kernel_rfl) (by kernel_rfl) (by kernel_rfl) (fun _ _ _ h => h) (Or.inl ⟨by rfl, ?_⟩) (SK.out _ tV) ?_
    · rintro w ⟨⟨⟨p0, p1, p2, p3⟩, q0, q1, q2⟩, ⟨j0, j1, j2, j3, j4, j5⟩, k0, k1, k2, k3, k4, k5⟩
      go_simp
    simp only [Act.put, List.setIfInBounds_toArray, List.set_cons_zero, List.set_cons_succ]
    refine wpAnyH_take (i := 26) (oi := { dst := some 54, op := Op.load 35 (Operand.tmp 4), type := 35, pos := "law.go:70", after := #[{ on := 24, ground := Ground.guard }], guard := some (24, true) }) (v := .agg #[.int .i64 t, .int .i64 b', .int .i64 f]) rfl (by kernel_rfl) (by kernel_rfl) (by kernel_rfl) (fun _ _ _ h => h) (Or.inl ⟨by rfl, ?_⟩) (SK.out _ tV) ?_
    · rintro w ⟨⟨⟨p0, p1, p2, p3⟩, q0, q1, q2⟩, ⟨j0, j1, j2, j3, j4, j5⟩, k0, k1, k2, k3, k4, k5⟩
      go_simp
    simp only [Act.put, List.setIfInBounds_toArray, List.set_cons_zero, List.set_cons_succ]
    refine wpAnyH_take (i := 27) (oi := { dst := some 55, op := Op.move (Operand.tmp 2), type := 3, pos := "law.go:70", after := #[{ on := 24, ground := Ground.guard }], guard := some (24, true) }) (v := .int .i64 z) rfl (by kernel_rfl) (by kernel_rfl) (by kernel_rfl) (fun _ _ _ h => h) (Or.inl ⟨by rfl, ?_⟩) (SK.out _ tV) ?_
    · rintro w ⟨⟨⟨p0, p1, p2, p3⟩, q0, q1, q2⟩, ⟨j0, j1, j2, j3, j4, j5⟩, k0, k1, k2, k3, k4, k5⟩
      go_simp
    simp only [Act.put, List.setIfInBounds_toArray, List.set_cons_zero, List.set_cons_succ]
    refine wpAnyH_take (i := 29) (oi := { dst := some 57, op := Op.load 25 (Operand.tmp 3), type := 25, pos := "law.go:70", after := #[{ on := 24, ground := Ground.guard }], guard := some (24, true) }) (v := .agg #[.slice a n c, .int .u64 (next : Nat), .int .u64 (seq : Nat), .int .u64 (log : Nat)]) rfl (by kernel_rfl) (by kernel_rfl) (by kernel_rfl) (fun _ _ _ h => h) (Or.inl ⟨by rfl, ?_⟩) (SK.out _ tV) ?_
    · rintro w ⟨⟨⟨p0, p1, p2, p3⟩, q0, q1, q2⟩, ⟨j0, j1, j2, j3, j4, j5⟩, k0, k1, k2, k3, k4, k5⟩
      go_simp
    simp only [Act.put, List.setIfInBounds_toArray, List.set_cons_zero, List.set_cons_succ]
    refine wpAnyH_take (i := 30) (oi := { dst := some 58, op := Op.load 35 (Operand.tmp 4), type := 35, pos := "law.go:70", after := #[{ on := 24, ground := Ground.guard }], guard := some (24, true) }) (v := .agg #[.int .i64 t, .int .i64 b', .int .i64 f]) rfl (by kernel_rfl) (by kernel_rfl) (by kernel_rfl) (fun _ _ _ h => h) (Or.inl ⟨by rfl, ?_⟩) (SK.out _ tV) ?_
    · rintro w ⟨⟨⟨p0, p1, p2, p3⟩, q0, q1, q2⟩, ⟨j0, j1, j2, j3, j4, j5⟩, k0, k1, k2, k3, k4, k5⟩
      go_simp
    simp only [Act.put, List.setIfInBounds_toArray, List.set_cons_zero, List.set_cons_succ]
    refine wpAnyH_take (i := 31) (oi := { dst := some 59, op := Op.move (Operand.tmp 2), type := 3, pos := "law.go:70", after := #[{ on := 24, ground := Ground.guard }], guard := some (24, true) }) (v := .int .i64 z) rfl (by kernel_rfl) (by kernel_rfl) (by kernel_rfl) (fun _ _ _ h => h) (Or.inl ⟨by rfl, ?_⟩) (SK.out _ tV) ?_
    · rintro w ⟨⟨⟨p0, p1, p2, p3⟩, q0, q1, q2⟩, ⟨j0, j1, j2, j3, j4, j5⟩, k0, k1, k2, k3, k4, k5⟩
      go_simp
    simp only [Act.put, List.setIfInBounds_toArray, List.set_cons_zero, List.set_cons_succ]
    refine wpAnyH_ready (rs := [28]) (by kernel_rfl) (by simp) ?_
    refine AllReadyH.cons rfl (fun K hK => ?_) AllReadyH.nil
    go_simp
    refine (SC.out _ tV).mono ?_
    rintro oo Vn ⟨rfl, tC⟩
    have tN := tC
    have tV := tV.trans tN
    clear tC
    clear tN
    go_simp
    refine hK.out _ _ (SK.out _ tV) (fun _ => ?_)
    clear hK K
    refine wpAnyH_ready (rs := [32]) (by kernel_rfl) (by simp) ?_
    refine AllReadyH.cons rfl (fun K hK => ?_) AllReadyH.nil
    go_simp
    refine (RSC.out _ tV).mono ?_
    rintro oo Vn ⟨rfl, tC⟩
    have tN := tC
    have tV := tV.trans tN
    clear tC
    clear tN
    go_simp
    refine hK.out _ _ (SK.out _ tV) (fun _ => ?_)
    clear hK K
    refine wpAnyH_take (i := 33) (oi := { dst := some 61, op := Op.binOp BinOp.eql 3 (Operand.tmp 56) (Operand.tmp 60) 3, type := 4, pos := "law.go:70", after := #[{ on := 28, ground := Ground.data }, { on := 32, ground := Ground.data }, { on := 24, ground := Ground.guard }], guard := some (24, true) }) (v := .bool true) rfl (by kernel_rfl) (by kernel_rfl) (by kernel_rfl) (fun _ _ _ h => h) (Or.inl ⟨by rfl, ?_⟩) (SK.out _ tV) ?_
    · rintro w ⟨⟨⟨p0, p1, p2, p3⟩, q0, q1, q2⟩, ⟨j0, j1, j2, j3, j4, j5⟩, k0, k1, k2, k3, k4, k5⟩
      go_simp
    simp only [Act.put, List.setIfInBounds_toArray, List.set_cons_zero, List.set_cons_succ]
    refine wpAnyH_take (i := 34) (oi := { dst := some 62, op := Op.pick (Operand.tmp 52) (Operand.tmp 61) (Operand.const (Value.bool false)), type := 4, pos := "law.go:70", after := #[{ on := 24, ground := Ground.data }, { on := 33, ground := Ground.data }], guard := none }) (v := .bool true) rfl (by kernel_rfl) (by kernel_rfl) (by kernel_rfl) (fun _ _ _ h => h) (Or.inl ⟨by rfl, ?_⟩) (SK.out _ tV) ?_
    · rintro w ⟨⟨⟨p0, p1, p2, p3⟩, q0, q1, q2⟩, ⟨j0, j1, j2, j3, j4, j5⟩, k0, k1, k2, k3, k4, k5⟩
      go_simp
    simp only [Act.put, List.setIfInBounds_toArray, List.set_cons_zero, List.set_cons_succ]
    refine wpAnyH_take (i := 35) (oi := { dst := some 63, op := Op.move (Operand.tmp 62), type := 4, pos := "law.go:70", after := #[{ on := 34, ground := Ground.data }, { on := 32, ground := Ground.chain }], guard := none }) (v := .bool true) rfl (by kernel_rfl) (by kernel_rfl) (by kernel_rfl) (fun _ _ _ h => h) (Or.inl ⟨by rfl, ?_⟩) (SK.out _ tV) ?_
    · rintro w ⟨⟨⟨p0, p1, p2, p3⟩, q0, q1, q2⟩, ⟨j0, j1, j2, j3, j4, j5⟩, k0, k1, k2, k3, k4, k5⟩
      go_simp
    simp only [Act.put, List.setIfInBounds_toArray, List.set_cons_zero, List.set_cons_succ]
    refine wpAnyH_take (i := 36) (oi := { dst := some 64, op := Op.load 25 (Operand.tmp 3), type := 25, pos := "law.go:70", after := #[{ on := 35, ground := Ground.guard }], guard := some (35, true) }) (v := .agg #[.slice a n c, .int .u64 (next : Nat), .int .u64 (seq : Nat), .int .u64 (log : Nat)]) rfl (by kernel_rfl) (by kernel_rfl) (by kernel_rfl) (fun _ _ _ h => h) (Or.inl ⟨by rfl, ?_⟩) (SK.out _ tV) ?_
    · rintro w ⟨⟨⟨p0, p1, p2, p3⟩, q0, q1, q2⟩, ⟨j0, j1, j2, j3, j4, j5⟩, k0, k1, k2, k3, k4, k5⟩
      go_simp
    simp only [Act.put, List.setIfInBounds_toArray, List.set_cons_zero, List.set_cons_succ]
    refine wpAnyH_take (i := 37) (oi := { dst := some 65, op := Op.load 35 (Operand.tmp 4), type := 35, pos := "law.go:70", after := #[{ on := 35, ground := Ground.guard }], guard := some (35, true) }) (v := .agg #[.int .i64 t, .int .i64 b', .int .i64 f]) rfl (by kernel_rfl) (by kernel_rfl) (by kernel_rfl) (fun _ _ _ h => h) (Or.inl ⟨by rfl, ?_⟩) (SK.out _ tV) ?_
    · rintro w ⟨⟨⟨p0, p1, p2, p3⟩, q0, q1, q2⟩, ⟨j0, j1, j2, j3, j4, j5⟩, k0, k1, k2, k3, k4, k5⟩
      go_simp
    simp only [Act.put, List.setIfInBounds_toArray, List.set_cons_zero, List.set_cons_succ]
    refine wpAnyH_take (i := 39) (oi := { dst := some 67, op := Op.load 25 (Operand.tmp 3), type := 25, pos := "law.go:70", after := #[{ on := 35, ground := Ground.guard }], guard := some (35, true) }) (v := .agg #[.slice a n c, .int .u64 (next : Nat), .int .u64 (seq : Nat), .int .u64 (log : Nat)]) rfl (by kernel_rfl) (by kernel_rfl) (by kernel_rfl) (fun _ _ _ h => h) (Or.inl ⟨by rfl, ?_⟩) (SK.out _ tV) ?_
    · rintro w ⟨⟨⟨p0, p1, p2, p3⟩, q0, q1, q2⟩, ⟨j0, j1, j2, j3, j4, j5⟩, k0, k1, k2, k3, k4, k5⟩
      go_simp
    simp only [Act.put, List.setIfInBounds_toArray, List.set_cons_zero, List.set_cons_succ]
    refine wpAnyH_take (i := 40) (oi := { dst := some 68, op := Op.load 35 (Operand.tmp 4), type := 35, pos := "law.go:70", after := #[{ on := 35, ground := Ground.guard }], guard := some (35, true) }) (v := .agg #[.int .i64 t, .int .i64 b', .int .i64 f]) rfl (by kernel_rfl) (by kernel_rfl) (by kernel_rfl) (fun _ _ _ h => h) (Or.inl ⟨by rfl, ?_⟩) (SK.out _ tV) ?_
    · rintro w ⟨⟨⟨p0, p1, p2, p3⟩, q0, q1, q2⟩, ⟨j0, j1, j2, j3, j4, j5⟩, k0, k1, k2, k3, k4, k5⟩
      go_simp
    simp only [Act.put, List.setIfInBounds_toArray, List.set_cons_zero, List.set_cons_succ]
    refine wpAnyH_ready (rs := [38]) (by kernel_rfl) (by simp) ?_
    refine AllReadyH.cons rfl (fun K hK => ?_) AllReadyH.nil
    go_simp
    refine (RE.out _ tV).mono ?_
    rintro oo Vn ⟨rfl, tC⟩
    have tN := tC
    have tV := tV.trans tN
    clear tC
    clear tN
    go_simp
    refine hK.out _ _ (SK.out _ tV) (fun _ => ?_)
    clear hK K
    refine wpAnyH_ready (rs := [41]) (by kernel_rfl) (by simp) ?_
    refine AllReadyH.cons rfl (fun K hK => ?_) AllReadyH.nil
    go_simp
    refine (RRE.out _ tV).mono ?_
    rintro oo Vn ⟨rfl, tC⟩
    have tN := tC
    have tV := tV.trans tN
    clear tC
    clear tN
    go_simp
    refine hK.out _ _ (SK.out _ tV) (fun _ => ?_)
    clear hK K
    refine wpAnyH_take (i := 42) (oi := { dst := some 70, op := Op.binOp BinOp.eql 4 (Operand.tmp 66) (Operand.tmp 69) 4, type := 4, pos := "law.go:70", after := #[{ on := 38, ground := Ground.data }, { on := 41, ground := Ground.data }, { on := 35, ground := Ground.guard }], guard := some (35, true) }) (v := .bool true) rfl (by kernel_rfl) (by kernel_rfl) (by kernel_rfl) (fun _ _ _ h => h) (Or.inl ⟨by rfl, ?_⟩) (SK.out _ tV) ?_
    · rintro w ⟨⟨⟨p0, p1, p2, p3⟩, q0, q1, q2⟩, ⟨j0, j1, j2, j3, j4, j5⟩, k0, k1, k2, k3, k4, k5⟩
      go_simp
    simp only [Act.put, List.setIfInBounds_toArray, List.set_cons_zero, List.set_cons_succ]
    refine wpAnyH_take (i := 43) (oi := { dst := some 71, op := Op.pick (Operand.tmp 63) (Operand.tmp 70) (Operand.const (Value.bool false)), type := 4, pos := "law.go:70", after := #[{ on := 35, ground := Ground.data }, { on := 42, ground := Ground.data }], guard := none }) (v := .bool true) rfl (by kernel_rfl) (by kernel_rfl) (by kernel_rfl) (fun _ _ _ h => h) (Or.inl ⟨by rfl, ?_⟩) (SK.out _ tV) ?_
    · rintro w ⟨⟨⟨p0, p1, p2, p3⟩, q0, q1, q2⟩, ⟨j0, j1, j2, j3, j4, j5⟩, k0, k1, k2, k3, k4, k5⟩
      go_simp
    simp only [Act.put, List.setIfInBounds_toArray, List.set_cons_zero, List.set_cons_succ]
    refine wpAnyH_take (i := 44) (oi := { dst := some 6, op := Op.assign (Operand.tmp 71), type := 4, pos := "law.go:70", after := #[{ on := 43, ground := Ground.data }, { on := 41, ground := Ground.chain }, { on := 0, ground := Ground.phase }, { on := 1, ground := Ground.phase }, { on := 2, ground := Ground.phase }, { on := 3, ground := Ground.phase }, { on := 4, ground := Ground.phase }, { on := 5, ground := Ground.phase }, { on := 6, ground := Ground.phase }, { on := 7, ground := Ground.phase }, { on := 8, ground := Ground.phase }, { on := 9, ground := Ground.phase }, { on := 10, ground := Ground.phase }, { on := 11, ground := Ground.phase }, { on := 12, ground := Ground.phase }, { on := 13, ground := Ground.phase }, { on := 14, ground := Ground.phase }, { on := 15, ground := Ground.phase }, { on := 16, ground := Ground.phase }, { on := 17, ground := Ground.phase }, { on := 18, ground := Ground.phase }, { on := 19, ground := Ground.phase }, { on := 20, ground := Ground.phase }, { on := 21, ground := Ground.phase }, { on := 22, ground := Ground.phase }, { on := 23, ground := Ground.phase }, { on := 24, ground := Ground.phase }, { on := 25, ground := Ground.phase }, { on := 26, ground := Ground.phase }, { on := 27, ground := Ground.phase }, { on := 28, ground := Ground.phase }, { on := 29, ground := Ground.phase }, { on := 30, ground := Ground.phase }, { on := 31, ground := Ground.phase }, { on := 32, ground := Ground.phase }, { on := 33, ground := Ground.phase }, { on := 34, ground := Ground.phase }, { on := 35, ground := Ground.phase }, { on := 36, ground := Ground.phase }, { on := 37, ground := Ground.phase }, { on := 38, ground := Ground.phase }, { on := 39, ground := Ground.phase }, { on := 40, ground := Ground.phase }, { on := 41, ground := Ground.phase }, { on := 42, ground := Ground.phase }, { on := 43, ground := Ground.phase }], guard := none }) (v := .bool true) rfl (by kernel_rfl) (by kernel_rfl) (by kernel_rfl) (fun _ _ _ h => h) (Or.inl ⟨by rfl, ?_⟩) (SK.out _ tV) ?_
    · rintro w ⟨⟨⟨p0, p1, p2, p3⟩, q0, q1, q2⟩, ⟨j0, j1, j2, j3, j4, j5⟩, k0, k1, k2, k3, k4, k5⟩
      go_simp
    simp only [Act.put, List.setIfInBounds_toArray, List.set_cons_zero, List.set_cons_succ]
    refine wpAnyH_done (by kernel_rfl) ?_ _
    go_wp2_with fail
    go_ret
    exact ⟨rfl, T6.out.trans tV⟩
end Go.Proofs.Ytkmcdjbadngfgaa
