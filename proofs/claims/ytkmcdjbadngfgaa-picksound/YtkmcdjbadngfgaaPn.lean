/-
  The chapter's examples: what Next answers there; lives.
-/
import Derived.Test.YtkmcdjbadngfgaaPm
namespace Go.Proofs.Ytkmcdjbadngfgaa
open Go.RowKit
set_option maxRecDepth 100000
set_option maxHeartbeats 4000000
def bs1 (k : Nat) : List (BitVec 8) := [BitVec.ofNat 8 k]
def exF (no : Nat) (sz : Int) (a b : Nat) : Fl := ⟨no, sz, bs1 a, bs1 b, 1, 1⟩
def exV (l0 l1 : List Fl) : List (List Fl) := [l0, l1, [], [], []]
instance (l : List Fl) (lo hi : List (BitVec 8)) : Decidable (Closed l lo hi) := by unfold Closed; exact inferInstance
instance (a b : List (BitVec 8)) : Decidable (cle a b) := by unfold cle; exact inferInstance
theorem ex1 : wrongVF (exV [exF 1 9 97 99, exF 2 9 120 122] []) 9 0 0 = false ∧ setBad 2 100 10 = false ∧ dueP (scoresL (exV [exF 1 9 97 99, exF 2 9 120 122] []) 2 100 10) = (0, true) := by decide
theorem ex2 : wrongVF (exV [exF 1 9 97 99, exF 2 9 98 100, exF 3 9 100 101] []) 9 0 0 = false ∧ dueP (scoresL (exV [exF 1 9 97 99, exF 2 9 98 100, exF 3 9 100 101] []) 2 100 10) = (0, true) := by decide
theorem ex3 : wrongVF (exV [] [exF 1 250 97 98]) 9 0 0 = false ∧ dueP (scoresL (exV [] [exF 1 250 97 98]) 2 100 10) = (1, true) := by decide
theorem ex4 : wrongVF (exV [] [exF 1 99 97 98]) 9 0 0 = false ∧ dueP (scoresL (exV [] [exF 1 99 97 98]) 2 100 10) = (0, false) := by decide
theorem fls_len {R : List Tf} {U : List Fl} (h : fls R = U) : R.length = U.length := by rw [← h]; simp [fls]
theorem files_at {LL : List (List Fl)} {next seq log : Nat} {t : Nat} {l : List Fl} (h : wrongVF LL next seq log = false) (ht : t < 5) (hl : LL[t]? = some l) : filesF LL next seq log (t : Nat) = l := by
  unfold filesF goodLev
  rw [h, decide_eq_true (show (0 : Int) ≤ (t : Nat) by omega), decide_eq_true (show ((t : Nat) : Int) < 5 by omega)]
  simp [List.getD, hl]
/-- A job of level 0: what its two lists have. -/
theorem job0 {l0 : List Fl} {f0 : Fl} {k : Nat} (lo' hi' : List (BitVec 8)) {w : World} {B : Nat} {v : Value} {e : Int} (h : NextOut (exV l0 []) 9 0 0 2 100 10 w B v e) (h1 : wrongVF (exV l0 []) 9 0 0 = false) (h3 : dueP (scoresL (exV l0 []) 2 100 10) = (0, true)) (hf : l0[0]? = some f0)
    (hcl : Closed l0 lo' hi' ∧ cle lo' f0.least ∧ cle f0.most hi')
    (hlen : ∀ f ∈ l0, ∀ g ∈ l0, Closed l0 f.least g.most → cle f.least f0.least → cle f0.most g.most → cle lo' f.least → cle g.most hi' → (l0.filter (overF f.least g.most)).length = k) :
    e = 0 ∧ ∃ (z : Int) (ua va a1 a2 : Option Addr) (uc vc n1 c1 n2 c2 : Nat) (bt : Bool), v = .agg #[.int .i64 z, .slice ua k uc, .slice va 0 vc, .slice a1 n1 c1, .slice a2 n2 c2, .bool bt] := by
  have h2 : setBad 2 100 10 = false := by decide
  rcases h with ⟨hw, _⟩ | ⟨_, hd, _⟩ | ⟨_, _, rfl, z, lo, hi, U, LW, least, most, bot, hz, hdz, hj, ua, va, uc, vc, R1, R2, a1, a2, c1, c2, rfl, hr1, hr2, _⟩
  · rw [h1, h2] at hw; cases hw
  · rw [h3] at hd; cases hd
  · rw [h3] at hdz
    obtain rfl : z = 0 := by simp at hdz; omega
    have hup := hj.up
    unfold UpP at hup
    rw [if_pos (show ((0 : Nat) : Int) = 0 from rfl)] at hup
    obtain ⟨g0, hf0, hg, hc⟩ := hup
    rw [show (exV l0 []).getD 0 [] = l0 from rfl] at hf0 hg hc
    rw [hf] at hf0
    cases hf0
    obtain ⟨f, hf, hlo⟩ := hg.lom
    obtain ⟨g, hg2, hhi⟩ := hg.him
    have hh := hg.hold
    have hU := hj.hU
    have hL := hj.hL
    rw [files_at h1 (by omega) (show (exV l0 [])[0]? = some l0 from rfl)] at hU
    rw [show ((0 : Nat) : Int) + 1 = ((1 : Nat) : Int) from rfl, files_at h1 (by omega) (show (exV l0 [])[1]? = some [] from rfl)] at hL
    subst hlo hhi
    have hle := hg.least lo' hi' hcl.1 hcl.2.1 hcl.2.2
    have hk := hlen f hf g hg2 hc hh.1 hh.2 hle.1 hle.2
    have n1 : R1.length = k := by rw [fls_len hr1.2.1, hU, hk]
    have n2 : R2.length = 0 := by rw [fls_len hr2.2.1, hL]; rfl
    rw [n1, n2]
    exact ⟨rfl, _, ua, va, a1, a2, uc, vc, _, c1, _, c2, bot, rfl⟩
theorem job1 {w : World} {B : Nat} {v : Value} {e : Int} (h : NextOut (exV [exF 1 9 97 99, exF 2 9 120 122] []) 9 0 0 2 100 10 w B v e) : e = 0 ∧ ∃ (z : Int) (ua va a1 a2 : Option Addr) (uc vc n1 c1 n2 c2 : Nat) (bt : Bool), v = .agg #[.int .i64 z, .slice ua 1 uc, .slice va 0 vc, .slice a1 n1 c1, .slice a2 n2 c2, .bool bt] := job0 (k := 1) (bs1 97) (bs1 99) h ex1.1 ex1.2.2 rfl (by decide) (by decide)
theorem job2 {w : World} {B : Nat} {v : Value} {e : Int} (h : NextOut (exV [exF 1 9 97 99, exF 2 9 98 100, exF 3 9 100 101] []) 9 0 0 2 100 10 w B v e) : e = 0 ∧ ∃ (z : Int) (ua va a1 a2 : Option Addr) (uc vc n1 c1 n2 c2 : Nat) (bt : Bool), v = .agg #[.int .i64 z, .slice ua 3 uc, .slice va 0 vc, .slice a1 n1 c1, .slice a2 n2 c2, .bool bt] := job0 (k := 3) (bs1 97) (bs1 101) h ex2.1 ex2.2 rfl (by decide) (by decide)
theorem job3 {w : World} {B : Nat} {v : Value} {e : Int} (h : NextOut (exV [] [exF 1 250 97 98]) 9 0 0 2 100 10 w B v e) :
    e = 0 ∧ ∃ (ua va a1 a2 : Option Addr) (n3 uc n4 vc n1 c1 n2 c2 : Nat), v = .agg #[.int .i64 1, .slice ua n3 uc, .slice va n4 vc, .slice a1 n1 c1, .slice a2 n2 c2, .bool true] := by
  have h2 : setBad 2 100 10 = false := by decide
  obtain ⟨h1, h3⟩ := ex3
  rcases h with ⟨hw, _⟩ | ⟨_, hd, _⟩ | ⟨_, _, rfl, z, lo, hi, U, LW, least, most, bot, hz, hdz, hj, ua, va, uc, vc, R1, R2, a1, a2, c1, c2, rfl, hr1, hr2, _⟩
  · rw [h1, h2] at hw; cases hw
  · rw [h3] at hd; cases hd
  · rw [h3] at hdz
    obtain rfl : z = 1 := by simp at hdz; omega
    have hb : bot = true := by
      rw [hj.hb]
      unfold deepF
      rw [h1]
      rfl
    subst hb
    exact ⟨rfl, ua, va, a1, a2, _, uc, _, vc, _, c1, _, c2, rfl⟩
theorem job4 {w : World} {B : Nat} {v : Value} {e : Int} (h : NextOut (exV [] [exF 1 99 97 98]) 9 0 0 2 100 10 w B v e) : e = 6 ∧ v = zeroJob := by
  have h2 : setBad 2 100 10 = false := by decide
  obtain ⟨h1, h3⟩ := ex4
  rcases h with ⟨hw, _⟩ | ⟨_, _, he, hv⟩ | ⟨_, hd, _⟩
  · rw [h1, h2] at hw; cases hw
  · exact ⟨he, hv⟩
  · rw [h3] at hd; cases hd
theorem file1_any (no : Nat) (sz : Int) (a b : UInt8) (w : World) : Calls Try.prog 7 #[.int .u64 (no : Nat), .int .i64 sz, .string ⟨#[a]⟩, .string ⟨#[b]⟩] w fun e w' => ∃ (la : Option Addr) (lc : Nat) (ma : Option Addr) (mc : Nat), e = .returned (.agg #[.int .u64 (no : Nat), .int .i64 sz, .slice la 1 lc, .slice ma 1 mc, .int .i64 1, .int .u64 1]) ∧ FB w' ⟨la, lc, ma, mc, ⟨no, sz, [BitVec.ofNat 8 a.toNat], [BitVec.ofNat 8 b.toNat], 1, 1⟩⟩ ∧ Turns (fun _ => False) w w' := by
  refine (file_any no sz ⟨#[a]⟩ ⟨#[b]⟩ w).mono ?_
  rintro e w' ⟨⟨la, lc, ma, mc, f⟩, rfl, hf, hfb, t⟩
  simp only at hf
  subst hf
  exact ⟨la, lc, ma, mc, rfl, hfb, t⟩
theorem fils_lit {w : World} {g : Nat} {R : List Tf} (h : w.heap[g]? = some (.cells (flCells R).toArray 29 (0, 0))) (hb : ∀ x ∈ R, FB w x) : Fils w (some ⟨g, 0, none⟩) R :=
  fils_of_row (c := R.length) ⟨_, h, by simp [flCells_length], fun k hk => by simp⟩ hb
theorem fils_nil (w : World) : Fils w none [] := fun k x hx => by simp at hx
theorem lives_any (w : World) : Calls Try.prog 8 #[] w fun e w' => e = .returned (.bool true) ∧ Turns (fun _ => False) w w' := by
  have FI := hide file1_any
  have VE := hide version_any
  have SE := hide setup_any
  have T := hide (Turns.refl (fun _ => False) w)
  go_enter Try.func8, Try.ntmps8
  go_wp2_with fail
  refine (FI.out 1 9 97 99 _).mono ?_
  rintro e w1 ⟨la00, lc00, ma00, mc00, rfl, hb, t⟩
  replace T := hide (T.out.trans t)
  have B00 := hide hb
  clear hb t
  go_wp2_with fail
  refine (FI.out 2 9 120 122 _).mono ?_
  rintro e w2 ⟨la01, lc01, ma01, mc01, rfl, hb, t⟩
  replace T := hide (T.out.trans t)
  replace B00 := hide (B00.out.quiet t)
  have B01 := hide hb
  clear hb t
  go_wp2_with fail
  have tA : Turns (fun _ => False) w2 (w2.alloc (.cells #[.int .u64 1, .int .i64 9, .slice la00 1 lc00, .slice ma00 1 mc00, .int .i64 1, .int .u64 1, .int .u64 2, .int .i64 9, .slice la01 1 lc01, .slice ma01 1 mc01, .int .i64 1, .int .u64 1] 29)) := (Turns.refl _ _).alloc _
  have HF := hide (fils_lit (R := [⟨la00, lc00, ma00, mc00, exF 1 9 97 99⟩, ⟨la01, lc01, ma01, mc01, exF 2 9 120 122⟩]) (show (w2.alloc (.cells #[.int .u64 1, .int .i64 9, .slice la00 1 lc00, .slice ma00 1 mc00, .int .i64 1, .int .u64 1, .int .u64 2, .int .i64 9, .slice la01 1 lc01, .slice ma01 1 mc01, .int .i64 1, .int .u64 1] 29)).heap[w2.heap.size]? = some (.cells (flCells [⟨la00, lc00, ma00, mc00, exF 1 9 97 99⟩, ⟨la01, lc01, ma01, mc01, exF 2 9 120 122⟩]).toArray 29 (0, 0)) from heap_alloc_new w2 (.cells #[.int .u64 1, .int .i64 9, .slice la00 1 lc00, .slice ma00 1 mc00, .int .i64 1, .int .u64 1, .int .u64 2, .int .i64 9, .slice la01 1 lc01, .slice ma01 1 mc01, .int .i64 1, .int .u64 1] 29)) (fun x hx => by
    simp only [List.mem_cons, List.not_mem_nil, or_false] at hx
    rcases hx with rfl | rfl
    · exact B00.out.quiet tA
    · exact B01.out.quiet tA))
  refine (VE.out (some ⟨w2.heap.size, 0, none⟩) none 2 0 2 0 _).mono ?_
  rintro e w3 ⟨g0, rfl, hg, t⟩
  replace T := hide ((T.out.trans tA).trans t)
  replace HF := hide (HF.out.quiet t)
  have HV := hide (two_in (l0 := [⟨la00, lc00, ma00, mc00, exF 1 9 97 99⟩, ⟨la01, lc01, ma01, mc01, exF 2 9 120 122⟩]) (l1 := []) hg HF.out (fils_nil _) (by simp) (fun y hy => by
    simp only [List.mem_append, List.mem_cons, List.not_mem_nil, or_false] at hy
    rcases hy with rfl | rfl
    all_goals exact ⟨Nat.le_of_ble_eq_true rfl, Nat.le_of_ble_eq_true rfl, Nat.le_of_ble_eq_true rfl⟩))
  clear hg t tA HF B00 B01
  go_wp2_with fail
  refine (SE.out _).mono ?_
  rintro e w4 ⟨rfl, t⟩
  replace T := hide (T.out.trans t)
  replace HV := hide (HV.out.quiet t)
  clear t
  go_wp2_with fail
  refine (next_any _ _ _ _ _ _ _ 2 100 10 _ HV.out).mono ?_
  rintro e w5 ⟨v, er, rfl, ho, t⟩
  obtain ⟨rfl, z0, ua0, va0, pa0, qa0, uc0, vc0, m0, pc0, k0, qc0, bt0, rfl⟩ := job1 (show NextOut (exV [exF 1 9 97 99, exF 2 9 120 122] []) 9 0 0 2 100 10 _ _ _ _ from ho)
  replace T := hide (T.out.trans t)
  clear ho t HV
  go_wp2_with fail
  refine (FI.out 1 9 97 99 _).mono ?_
  rintro e w6 ⟨la10, lc10, ma10, mc10, rfl, hb, t⟩
  replace T := hide ((T.out.alloc (.cells #[.int .i64 z0, .slice ua0 1 uc0, .slice va0 0 vc0, .slice pa0 m0 pc0, .slice qa0 k0 qc0, .bool bt0] 43)).trans t)
  have J1 := hide (t.heap (heap_alloc_new w5 (.cells #[.int .i64 z0, .slice ua0 1 uc0, .slice va0 0 vc0, .slice pa0 m0 pc0, .slice qa0 k0 qc0, .bool bt0] 43)) (fun x => x))
  have B10 := hide hb
  clear hb t
  go_wp2_with fail
  refine (FI.out 2 9 98 100 _).mono ?_
  rintro e w7 ⟨la11, lc11, ma11, mc11, rfl, hb, t⟩
  replace T := hide (T.out.trans t)
  replace J1 := hide (t.heap J1.out (fun x => x))
  replace B10 := hide (B10.out.quiet t)
  have B11 := hide hb
  clear hb t
  go_wp2_with fail
  refine (FI.out 3 9 100 101 _).mono ?_
  rintro e w8 ⟨la12, lc12, ma12, mc12, rfl, hb, t⟩
  replace T := hide (T.out.trans t)
  replace J1 := hide (t.heap J1.out (fun x => x))
  replace B10 := hide (B10.out.quiet t)
  replace B11 := hide (B11.out.quiet t)
  have B12 := hide hb
  clear hb t
  go_wp2_with fail
  have tA : Turns (fun _ => False) w8 (w8.alloc (.cells #[.int .u64 1, .int .i64 9, .slice la10 1 lc10, .slice ma10 1 mc10, .int .i64 1, .int .u64 1, .int .u64 2, .int .i64 9, .slice la11 1 lc11, .slice ma11 1 mc11, .int .i64 1, .int .u64 1, .int .u64 3, .int .i64 9, .slice la12 1 lc12, .slice ma12 1 mc12, .int .i64 1, .int .u64 1] 29)) := (Turns.refl _ _).alloc _
  have HF := hide (fils_lit (R := [⟨la10, lc10, ma10, mc10, exF 1 9 97 99⟩, ⟨la11, lc11, ma11, mc11, exF 2 9 98 100⟩, ⟨la12, lc12, ma12, mc12, exF 3 9 100 101⟩]) (show (w8.alloc (.cells #[.int .u64 1, .int .i64 9, .slice la10 1 lc10, .slice ma10 1 mc10, .int .i64 1, .int .u64 1, .int .u64 2, .int .i64 9, .slice la11 1 lc11, .slice ma11 1 mc11, .int .i64 1, .int .u64 1, .int .u64 3, .int .i64 9, .slice la12 1 lc12, .slice ma12 1 mc12, .int .i64 1, .int .u64 1] 29)).heap[w8.heap.size]? = some (.cells (flCells [⟨la10, lc10, ma10, mc10, exF 1 9 97 99⟩, ⟨la11, lc11, ma11, mc11, exF 2 9 98 100⟩, ⟨la12, lc12, ma12, mc12, exF 3 9 100 101⟩]).toArray 29 (0, 0)) from heap_alloc_new w8 (.cells #[.int .u64 1, .int .i64 9, .slice la10 1 lc10, .slice ma10 1 mc10, .int .i64 1, .int .u64 1, .int .u64 2, .int .i64 9, .slice la11 1 lc11, .slice ma11 1 mc11, .int .i64 1, .int .u64 1, .int .u64 3, .int .i64 9, .slice la12 1 lc12, .slice ma12 1 mc12, .int .i64 1, .int .u64 1] 29)) (fun x hx => by
    simp only [List.mem_cons, List.not_mem_nil, or_false] at hx
    rcases hx with rfl | rfl | rfl
    · exact B10.out.quiet tA
    · exact B11.out.quiet tA
    · exact B12.out.quiet tA))
  refine (VE.out (some ⟨w8.heap.size, 0, none⟩) none 3 0 3 0 _).mono ?_
  rintro e w9 ⟨g1, rfl, hg, t⟩
  replace T := hide ((T.out.trans tA).trans t)
  replace J1 := hide (t.heap (tA.heap J1.out (fun x => x)) (fun x => x))
  replace HF := hide (HF.out.quiet t)
  have HV := hide (two_in (l0 := [⟨la10, lc10, ma10, mc10, exF 1 9 97 99⟩, ⟨la11, lc11, ma11, mc11, exF 2 9 98 100⟩, ⟨la12, lc12, ma12, mc12, exF 3 9 100 101⟩]) (l1 := []) hg HF.out (fils_nil _) (by simp) (fun y hy => by
    simp only [List.mem_append, List.mem_cons, List.not_mem_nil, or_false] at hy
    rcases hy with rfl | rfl | rfl
    all_goals exact ⟨Nat.le_of_ble_eq_true rfl, Nat.le_of_ble_eq_true rfl, Nat.le_of_ble_eq_true rfl⟩))
  clear hg t tA HF B10 B11 B12
  go_wp2_with fail
  refine (SE.out _).mono ?_
  rintro e w10 ⟨rfl, t⟩
  replace T := hide (T.out.trans t)
  replace J1 := hide (t.heap J1.out (fun x => x))
  replace HV := hide (HV.out.quiet t)
  clear t
  go_wp2_with fail
  refine (next_any _ _ _ _ _ _ _ 2 100 10 _ HV.out).mono ?_
  rintro e w11 ⟨v, er, rfl, ho, t⟩
  obtain ⟨rfl, z1, ua1, va1, pa1, qa1, uc1, vc1, m1, pc1, k1, qc1, bt1, rfl⟩ := job2 (show NextOut (exV [exF 1 9 97 99, exF 2 9 98 100, exF 3 9 100 101] []) 9 0 0 2 100 10 _ _ _ _ from ho)
  replace T := hide (T.out.trans t)
  replace J1 := hide (t.heap J1.out (fun x => x))
  clear ho t HV
  go_wp2_with fail
  refine (FI.out 1 250 97 98 _).mono ?_
  rintro e w12 ⟨la20, lc20, ma20, mc20, rfl, hb, t⟩
  replace T := hide ((T.out.alloc (.cells #[.int .i64 z1, .slice ua1 3 uc1, .slice va1 0 vc1, .slice pa1 m1 pc1, .slice qa1 k1 qc1, .bool bt1] 43)).trans t)
  replace J1 := hide (t.heap (((Turns.refl (fun _ => False) _).alloc (.cells #[.int .i64 z1, .slice ua1 3 uc1, .slice va1 0 vc1, .slice pa1 m1 pc1, .slice qa1 k1 qc1, .bool bt1] 43)).heap J1.out (fun x => x)) (fun x => x))
  have J2 := hide (t.heap (heap_alloc_new w11 (.cells #[.int .i64 z1, .slice ua1 3 uc1, .slice va1 0 vc1, .slice pa1 m1 pc1, .slice qa1 k1 qc1, .bool bt1] 43)) (fun x => x))
  have B20 := hide hb
  clear hb t
  go_wp2_with fail
  have tA : Turns (fun _ => False) w12 (w12.alloc (.cells #[.int .u64 1, .int .i64 250, .slice la20 1 lc20, .slice ma20 1 mc20, .int .i64 1, .int .u64 1] 29)) := (Turns.refl _ _).alloc _
  have HF := hide (fils_lit (R := [⟨la20, lc20, ma20, mc20, exF 1 250 97 98⟩]) (show (w12.alloc (.cells #[.int .u64 1, .int .i64 250, .slice la20 1 lc20, .slice ma20 1 mc20, .int .i64 1, .int .u64 1] 29)).heap[w12.heap.size]? = some (.cells (flCells [⟨la20, lc20, ma20, mc20, exF 1 250 97 98⟩]).toArray 29 (0, 0)) from heap_alloc_new w12 (.cells #[.int .u64 1, .int .i64 250, .slice la20 1 lc20, .slice ma20 1 mc20, .int .i64 1, .int .u64 1] 29)) (fun x hx => by
    simp only [List.mem_cons, List.not_mem_nil, or_false] at hx
    rcases hx with rfl
    · exact B20.out.quiet tA))
  refine (VE.out none (some ⟨w12.heap.size, 0, none⟩) 0 1 0 1 _).mono ?_
  rintro e w13 ⟨g2, rfl, hg, t⟩
  replace T := hide ((T.out.trans tA).trans t)
  replace J1 := hide (t.heap (tA.heap J1.out (fun x => x)) (fun x => x))
  replace J2 := hide (t.heap (tA.heap J2.out (fun x => x)) (fun x => x))
  replace HF := hide (HF.out.quiet t)
  have HV := hide (two_in (l0 := []) (l1 := [⟨la20, lc20, ma20, mc20, exF 1 250 97 98⟩]) hg (fils_nil _) HF.out (by simp) (fun y hy => by
    simp only [List.mem_append, List.mem_cons, List.not_mem_nil, or_false, false_or] at hy
    rcases hy with rfl
    all_goals exact ⟨Nat.le_of_ble_eq_true rfl, Nat.le_of_ble_eq_true rfl, Nat.le_of_ble_eq_true rfl⟩))
  clear hg t tA HF B20
  go_wp2_with fail
  refine (SE.out _).mono ?_
  rintro e w14 ⟨rfl, t⟩
  replace T := hide (T.out.trans t)
  replace J1 := hide (t.heap J1.out (fun x => x))
  replace J2 := hide (t.heap J2.out (fun x => x))
  replace HV := hide (HV.out.quiet t)
  clear t
  go_wp2_with fail
  refine (next_any _ _ _ _ _ _ _ 2 100 10 _ HV.out).mono ?_
  rintro e w15 ⟨v, er, rfl, ho, t⟩
  obtain ⟨rfl, ua2, va2, pa2, qa2, x2, uc2, y2, vc2, m2, pc2, k2, qc2, rfl⟩ := job3 (show NextOut (exV [] [exF 1 250 97 98]) 9 0 0 2 100 10 _ _ _ _ from ho)
  replace T := hide (T.out.trans t)
  replace J1 := hide (t.heap J1.out (fun x => x))
  replace J2 := hide (t.heap J2.out (fun x => x))
  clear ho t HV
  go_wp2_with fail
  refine (FI.out 1 99 97 98 _).mono ?_
  rintro e w16 ⟨la30, lc30, ma30, mc30, rfl, hb, t⟩
  replace T := hide ((T.out.alloc (.cells #[.int .i64 1, .slice ua2 x2 uc2, .slice va2 y2 vc2, .slice pa2 m2 pc2, .slice qa2 k2 qc2, .bool true] 43)).trans t)
  replace J1 := hide (t.heap (((Turns.refl (fun _ => False) _).alloc (.cells #[.int .i64 1, .slice ua2 x2 uc2, .slice va2 y2 vc2, .slice pa2 m2 pc2, .slice qa2 k2 qc2, .bool true] 43)).heap J1.out (fun x => x)) (fun x => x))
  replace J2 := hide (t.heap (((Turns.refl (fun _ => False) _).alloc (.cells #[.int .i64 1, .slice ua2 x2 uc2, .slice va2 y2 vc2, .slice pa2 m2 pc2, .slice qa2 k2 qc2, .bool true] 43)).heap J2.out (fun x => x)) (fun x => x))
  have J3 := hide (t.heap (heap_alloc_new w15 (.cells #[.int .i64 1, .slice ua2 x2 uc2, .slice va2 y2 vc2, .slice pa2 m2 pc2, .slice qa2 k2 qc2, .bool true] 43)) (fun x => x))
  have B30 := hide hb
  clear hb t
  go_wp2_with fail
  have tA : Turns (fun _ => False) w16 (w16.alloc (.cells #[.int .u64 1, .int .i64 99, .slice la30 1 lc30, .slice ma30 1 mc30, .int .i64 1, .int .u64 1] 29)) := (Turns.refl _ _).alloc _
  have HF := hide (fils_lit (R := [⟨la30, lc30, ma30, mc30, exF 1 99 97 98⟩]) (show (w16.alloc (.cells #[.int .u64 1, .int .i64 99, .slice la30 1 lc30, .slice ma30 1 mc30, .int .i64 1, .int .u64 1] 29)).heap[w16.heap.size]? = some (.cells (flCells [⟨la30, lc30, ma30, mc30, exF 1 99 97 98⟩]).toArray 29 (0, 0)) from heap_alloc_new w16 (.cells #[.int .u64 1, .int .i64 99, .slice la30 1 lc30, .slice ma30 1 mc30, .int .i64 1, .int .u64 1] 29)) (fun x hx => by
    simp only [List.mem_cons, List.not_mem_nil, or_false] at hx
    rcases hx with rfl
    · exact B30.out.quiet tA))
  refine (VE.out none (some ⟨w16.heap.size, 0, none⟩) 0 1 0 1 _).mono ?_
  rintro e w17 ⟨g3, rfl, hg, t⟩
  replace T := hide ((T.out.trans tA).trans t)
  replace J1 := hide (t.heap (tA.heap J1.out (fun x => x)) (fun x => x))
  replace J2 := hide (t.heap (tA.heap J2.out (fun x => x)) (fun x => x))
  replace J3 := hide (t.heap (tA.heap J3.out (fun x => x)) (fun x => x))
  replace HF := hide (HF.out.quiet t)
  have HV := hide (two_in (l0 := []) (l1 := [⟨la30, lc30, ma30, mc30, exF 1 99 97 98⟩]) hg (fils_nil _) HF.out (by simp) (fun y hy => by
    simp only [List.mem_append, List.mem_cons, List.not_mem_nil, or_false, false_or] at hy
    rcases hy with rfl
    all_goals exact ⟨Nat.le_of_ble_eq_true rfl, Nat.le_of_ble_eq_true rfl, Nat.le_of_ble_eq_true rfl⟩))
  clear hg t tA HF B30
  go_wp2_with fail
  refine (SE.out _).mono ?_
  rintro e w18 ⟨rfl, t⟩
  replace T := hide (T.out.trans t)
  replace J1 := hide (t.heap J1.out (fun x => x))
  replace J2 := hide (t.heap J2.out (fun x => x))
  replace J3 := hide (t.heap J3.out (fun x => x))
  replace HV := hide (HV.out.quiet t)
  clear t
  go_wp2_with fail
  refine (next_any _ _ _ _ _ _ _ 2 100 10 _ HV.out).mono ?_
  rintro e w19 ⟨v, er, rfl, ho, t⟩
  obtain ⟨rfl, rfl⟩ := job4 (show NextOut (exV [] [exF 1 99 97 98]) 9 0 0 2 100 10 _ _ _ _ from ho)
  unfold zeroJob
  replace T := hide (T.out.trans t)
  replace J1 := hide (t.heap J1.out (fun x => x))
  replace J2 := hide (t.heap J2.out (fun x => x))
  replace J3 := hide (t.heap J3.out (fun x => x))
  clear ho t HV
  have tA : Turns (fun _ => False) w19 (w19.alloc (.cells #[.int .i64 0, .slice none 0 0, .slice none 0 0, .slice none 0 0, .slice none 0 0, .bool false] 43)) := (Turns.refl _ _).alloc _
  have T' := hide (T.out.trans tA)
  have a1 := cell_of_row _ _ 1 _ 43 (0, 0) (tA.heap J1.out (fun x => x))
  have a2 := cell_of_row _ _ 2 _ 43 (0, 0) (tA.heap J1.out (fun x => x))
  have b1 := cell_of_row _ _ 1 _ 43 (0, 0) (tA.heap J2.out (fun x => x))
  have c0 := cell_of_row _ _ 0 _ 43 (0, 0) (tA.heap J3.out (fun x => x))
  have c5 := cell_of_row _ _ 5 _ 43 (0, 0) (tA.heap J3.out (fun x => x))
  clear J1 J2 J3 tA T
  go_wp2_with fail
  go_ret
  exact ⟨rfl, T'.out⟩
end Go.Proofs.Ytkmcdjbadngfgaa
