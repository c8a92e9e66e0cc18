/-
  Next.
-/
import Derived.Test.YtkmcdjbadngfgaaPk
namespace Go.Proofs.Ytkmcdjbadngfgaa
open Go.RowKit
set_option maxRecDepth 100000
set_option maxHeartbeats 4000000
def scoresL (LL : List (List Fl)) (t b f : Int) : List Int := [scoreP LL t b f 0, scoreP LL t b f 1, scoreP LL t b f 2, scoreP LL t b f 3, scoreP LL t b f 4]
section
variable {P : Program}
theorem results_cell_tmp {fn : Func} {j p : Tmp} {ty : TypeId} (h : fn.results = #[.cell p ty, .tmp j]) (tmps : Array Value) (w : World) (u : Value) (g : Nat) (t : TypeId) (cs : Array Value) (fr : Nat × Nat) (d : TypeDesc)
    (hu' : tmps.getD j undef = u) (hp : tmps.getD p undef = .pointer (some ⟨g, 0, none⟩)) (hg : w.heap[g]? = some (.cells cs t fr))
    (hu : P.underlying ty = some d) (hd : (match d with | .struct _ | .array _ _ => true | _ => false) = true) (hi : (P.info? ty).map (·.size) = some cs.size) :
    (results fn tmps).run P w = .ok (.tuple #[.agg cs, u]) w := by
  have hp' : tmps[p]?.getD undef = .pointer (some ⟨g, 0, none⟩) := by simpa using hp
  have hw' : tmps[j]?.getD undef = u := by simpa using hu'
  simp [results, h, hp', hw', asAddr, run_loadVar_row w g t ty cs fr d hg hu hd hi]
end
/-- What Next answers, told by files. -/
structure NextJ (LL : List (List Fl)) (next seq log : Nat) (z : Nat) (lo hi : List (BitVec 8)) (U LW : List Fl) (least most : List (BitVec 8)) (bot : Bool) : Prop where
  up : UpP (LL.getD z []) (z : Nat) lo hi
  hU : U = (filesF LL next seq log (z : Nat)).filter (overF lo hi)
  hL : LW = (filesF LL next seq log ((z : Nat) + 1 : Int)).filter (overF lo hi)
  hl : least = loF LW lo
  hm : most = hiF LW hi
  hb : bot = deepF LL next seq log ((z : Nat) + 1 : Int) least most
def zeroJob : Value := .agg #[.int .i64 0, .slice none 0 0, .slice none 0 0, .slice none 0 0, .slice none 0 0, .bool false]
def NextOut (LL : List (List Fl)) (next seq log : Nat) (t b f : Int) (w : World) (B : Nat) (v : Value) (e : Int) : Prop :=
  (((wrongVF LL next seq log || setBad t b f) = true ∧ e = 2 ∧ v = zeroJob)) ∨
  ((wrongVF LL next seq log || setBad t b f) = false ∧ (dueP (scoresL LL t b f)).2 = false ∧ e = 6 ∧ v = zeroJob) ∨
  ((wrongVF LL next seq log || setBad t b f) = false ∧ (dueP (scoresL LL t b f)).2 = true ∧ e = 0 ∧ ∃ (z : Nat) (lo hi : List (BitVec 8)) (U LW : List Fl) (least most : List (BitVec 8)) (bot : Bool), z ≤ 3 ∧ (dueP (scoresL LL t b f)).1 = (z : Int) ∧ NextJ LL next seq log z lo hi U LW least most bot ∧ JobIn w B v (z : Nat) U LW least most bot)
theorem best_ge : ∀ (l : List Int) (m : Int), m ≤ l.foldl max m ∧ (∀ x ∈ l, x ≤ l.foldl max m) ∧ (l.foldl max m = m ∨ l.foldl max m ∈ l)
  | [], m => ⟨Int.le_refl _, ⟨fun x h => (by simp at h), Or.inl rfl⟩⟩
  | a :: r, m => by
    obtain ⟨h1, h2, h3⟩ := best_ge r (max m a)
    refine ⟨?_, fun x hx => ?_, ?_⟩
    · show m ≤ r.foldl max (max m a); omega
    · show x ≤ r.foldl max (max m a)
      rcases List.mem_cons.1 hx with rfl | hx
      · omega
      · exact h2 x hx
    · show r.foldl max (max m a) = m ∨ r.foldl max (max m a) ∈ a :: r
      rcases h3 with h3 | h3
      · rw [h3]
        rcases Int.le_total m a with h | h
        · rw [Int.max_eq_right h]; exact .inr List.mem_cons_self
        · rw [Int.max_eq_left h]; exact .inl rfl
      · exact .inr (List.mem_cons_of_mem _ h3)
/-- A level that is due has a score of 100 at least, and is the first that has the greatest. -/
theorem due_spec {l : List Int} (h : (dueP l).2 = true) : ∃ z : Nat, (dueP l).1 = (z : Int) ∧ ∃ s, l[z]? = some s ∧ 100 ≤ s ∧ (∀ x ∈ l, x ≤ s) ∧ ∀ (j : Nat) (x : Int), j < z → l[j]? = some x → x < s := by
  unfold dueP at *
  obtain ⟨h1, h2, h3⟩ := best_ge l 0
  have hb : l.foldl max 0 = bestOf l := rfl
  rw [hb] at h1 h2 h3
  split at h
  · cases h
  · next hlt =>
    have hin : bestOf l ∈ l := by rcases h3 with h3 | h3; omega; exact h3
    rw [if_neg hlt]
    have hi : idxOfI l (bestOf l) = ((l.findIdx fun x => x == bestOf l : Nat) : Int) := by unfold idxOfI; rw [if_pos hin]
    have hlen : (l.findIdx fun x => x == bestOf l) < l.length := List.findIdx_lt_length_of_exists ⟨_, hin, by simp⟩
    have hat := List.findIdx_getElem (w := hlen)
    refine ⟨_, hi, bestOf l, ?_, by omega, h2, fun j x hj hx => ?_⟩
    · rw [List.getElem?_eq_getElem hlen]; simpa using hat
    · have hne := List.not_of_lt_findIdx hj
      have hx' := (List.getElem?_eq_some_iff.1 hx).2
      rw [hx'] at hne
      have := h2 x (List.mem_of_getElem? hx)
      have hne' : x ≠ bestOf l := by simpa using hne
      omega
theorem due_none {l : List Int} (h : (dueP l).2 = false) : ∀ x ∈ l, x < 100 := by
  unfold dueP at h
  obtain ⟨h1, h2, h3⟩ := best_ge l 0
  have hb : l.foldl max 0 = bestOf l := rfl
  rw [hb] at h1 h2 h3
  split at h
  · next hlt => intro x hx; have := h2 x hx; omega
  · cases h
/-- A level with a score has files. -/
theorem score_files {LL : List (List Fl)} {t b f : Int} (hs : setBad t b f = false) {z : Nat} (hz : z < 5) {s : Int} (h : (scoresL LL t b f)[z]? = some s) (h1 : 100 ≤ s) : z ≤ 3 ∧ LL.getD z [] ≠ [] := by
  have hsc : s = scoreP LL t b f (z : Nat) := by
    unfold scoresL at h
    obtain rfl | rfl | rfl | rfl | rfl : z = 0 ∨ z = 1 ∨ z = 2 ∨ z = 3 ∨ z = 4 := by omega
    all_goals (cases h; rfl)
  have hz4 : z ≠ 4 := fun e => by
    subst e
    rw [hsc] at h1
    have : scoreP LL t b f (4 : Nat) = 0 := rfl
    omega
  refine ⟨by omega, fun e => ?_⟩
  rw [hsc] at h1
  unfold scoreP at h1
  obtain ⟨a1, a2, a3, a4, a5, a6⟩ := setBad_false hs
  split at h1
  · next h0 =>
    have : z = 0 := by omega
    subst this
    rw [e] at h1
    have e0 : (((([] : List Fl).length : Nat) : Int) * 100 / t) = 0 := by simp
    omega
  · rw [if_neg (by omega), Int.toNat_natCast, e] at h1
    have e0 : sizesF [] * 100 / boundP t b f (z : Nat) = 0 := by simp [sizesF]
    omega
theorem next_any (a : Option Addr) (n c next seq log : Nat) (L : List Lv) (t b f : Int) (w : World) (h : VerIn w a n L next seq log) :
    Calls Try.prog 15 #[verAgg a n c next seq log, setAgg t b f] w fun e w' => ∃ (v : Value) (er : Int), e = .returned (.tuple #[v, .int .i64 er]) ∧ NextOut (flL L) next seq log t b f w' w.heap.size v er ∧ Turns (fun _ => False) w w' := by
  have TA := hide ((((Turns.refl (fun _ => False) w).alloc (.cells #[.slice a n c, .int .u64 (next : Nat), .int .u64 (seq : Nat), .int .u64 (log : Nat)] 25)).alloc (.cells #[.int .i64 t, .int .i64 b, .int .i64 f] 35)).alloc (.cells #[.int .i64 0, .slice none 0 0, .slice none 0 0, .slice none 0 0, .slice none 0 0, .bool false] 43))
  have HSZ := hide (show (((w.alloc (.cells #[.slice a n c, .int .u64 (next : Nat), .int .u64 (seq : Nat), .int .u64 (log : Nat)] 25)).alloc (.cells #[.int .i64 t, .int .i64 b, .int .i64 f] 35)).alloc (.cells #[.int .i64 0, .slice none 0 0, .slice none 0 0, .slice none 0 0, .slice none 0 0, .bool false] 43)).heap.size = w.heap.size + 3 by simp only [World.size_alloc])
  have R0 := hide (((((Turns.refl (fun _ => False) (w.alloc (.cells #[.slice a n c, .int .u64 (next : Nat), .int .u64 (seq : Nat), .int .u64 (log : Nat)] 25))).alloc (.cells #[.int .i64 t, .int .i64 b, .int .i64 f] 35)).alloc (.cells #[.int .i64 0, .slice none 0 0, .slice none 0 0, .slice none 0 0, .slice none 0 0, .bool false] 43))).heap (heap_alloc_new w (.cells #[.slice a n c, .int .u64 (next : Nat), .int .u64 (seq : Nat), .int .u64 (log : Nat)] 25)) (fun x => x))
  have R1 := hide ((((Turns.refl (fun _ => False) ((w.alloc (.cells #[.slice a n c, .int .u64 (next : Nat), .int .u64 (seq : Nat), .int .u64 (log : Nat)] 25)).alloc (.cells #[.int .i64 t, .int .i64 b, .int .i64 f] 35))).alloc (.cells #[.int .i64 0, .slice none 0 0, .slice none 0 0, .slice none 0 0, .slice none 0 0, .bool false] 43))).heap (heap_alloc_new (w.alloc (.cells #[.slice a n c, .int .u64 (next : Nat), .int .u64 (seq : Nat), .int .u64 (log : Nat)] 25)) (.cells #[.int .i64 t, .int .i64 b, .int .i64 f] 35)) (fun x => x))
  have R2 := hide (heap_alloc_new ((w.alloc (.cells #[.slice a n c, .int .u64 (next : Nat), .int .u64 (seq : Nat), .int .u64 (log : Nat)] 25)).alloc (.cells #[.int .i64 t, .int .i64 b, .int .i64 f] 35)) (.cells #[.int .i64 0, .slice none 0 0, .slice none 0 0, .slice none 0 0, .slice none 0 0, .bool false] 43))
  simp only [World.size_alloc] at R1 R2
  have HV := hide h
  have CK := hide (fun (u : World) (tu : Turns (fun _ => False) w u) => pcheck_any a n c next seq log L t b f u (h.quiet tu))
  have SC := hide (fun (u : World) (tu : Turns (fun _ => False) w u) (hv : wrongVF (flL L) next seq log = false) (hs : setBad t b f = false) => scores_any a n c next seq log L t b f u (h.quiet tu) hv hs)
  have HWV := hide (show wrongVF (flL L) next seq log = wrongVF (flL L) next seq log from rfl)
  obtain ⟨ER, hER⟩ : ∃ r : Int, r = if (wrongVF (flL L) next seq log || setBad t b f) = true then 2 else 0 := ⟨_, rfl⟩
  rw [← hER] at CK
  have HER := hide hER
  clear hER h HWV
  have DU := hide (due_any (scoreP (flL L) t b f 0) (scoreP (flL L) t b f 1) (scoreP (flL L) t b f 2) (scoreP (flL L) t b f 3) (scoreP (flL L) t b f 4))
  have HDU := hide (show dueP [scoreP (flL L) t b f 0, scoreP (flL L) t b f 1, scoreP (flL L) t b f 2, scoreP (flL L) t b f 3, scoreP (flL L) t b f 4] = dueP (scoresL (flL L) t b f) from rfl)
  have JO := hide (fun (h5 : n = 5) (xl : Lv) (x0 : Tf) (z : Nat) (u : World) (tu : Turns (fun _ => False) w u) (hv : wrongVF (flL L) next seq log = false) (hz : z ≤ 3) (hx : L[z]? = some xl) (h0 : xl.l[0]? = some x0) => job_any a c next seq log L xl x0 z u (h5 ▸ HV.out.quiet tu) hv hz hx h0)
  generalize scoreP (flL L) t b f 0 = s0 at *
  generalize scoreP (flL L) t b f 1 = s1 at *
  generalize scoreP (flL L) t b f 2 = s2 at *
  generalize scoreP (flL L) t b f 3 = s3 at *
  generalize scoreP (flL L) t b f 4 = s4 at *
  have HDP := hide (show dueP [s0, s1, s2, s3, s4] = dueP (scoresL (flL L) t b f) from HDU.out)
  generalize dueP [s0, s1, s2, s3, s4] = DP at *
  obtain ⟨dz, db⟩ := DP
  unfold verAgg setAgg at *
  clear HDU
  go_enter Try.func15, Try.ntmps15
  go_wp2_with fail
  obtain ⟨w0, hw0⟩ : ∃ u, u = ((w.alloc (.cells #[.slice a n c, .int .u64 (next : Nat), .int .u64 (seq : Nat), .int .u64 (log : Nat)] 25)).alloc (.cells #[.int .i64 t, .int .i64 b, .int .i64 f] 35)).alloc (.cells #[.int .i64 0, .slice none 0 0, .slice none 0 0, .slice none 0 0, .slice none 0 0, .bool false] 43) := ⟨_, rfl⟩
  rw [← hw0] at TA R0 R1 R2 HSZ ⊢
  clear hw0
  generalize hP : w.heap.size = P at *
  have HP := hide hP
  clear hP
  refine (CK.out _ TA.out).mono ?_
  rintro e w1 ⟨rfl, t1⟩
  have T1 := hide (TA.out.trans t1)
  have Q0 := hide (t1.heap R0.out (fun x => x))
  have Q1 := hide (t1.heap R1.out (fun x => x))
  have Q2 := hide (t1.heap R2.out (fun x => x))
  have HS1 := hide (show P + 3 ≤ w1.heap.size by have := t1.size; have := HSZ.out; omega)
  have p0 := cell_of_row w1 P 0 _ 25 (0, 0) Q0.out
  have p1 := cell_of_row w1 P 1 _ 25 (0, 0) Q0.out
  have p2 := cell_of_row w1 P 2 _ 25 (0, 0) Q0.out
  have p3 := cell_of_row w1 P 3 _ 25 (0, 0) Q0.out
  have q0 := cell_of_row w1 (P + 1) 0 _ 35 (0, 0) Q1.out
  have q1 := cell_of_row w1 (P + 1) 1 _ 35 (0, 0) Q1.out
  have q2 := cell_of_row w1 (P + 1) 2 _ 35 (0, 0) Q1.out
  clear t1 R0 R1 R2 CK TA
  cases hWB : (wrongVF (flL L) next seq log || setBad t b f) with
  | true =>
    rw [hWB, if_pos rfl] at HER
    obtain rfl : ER = 2 := HER.out
    have HWB := hide hWB
    clear hWB SC JO DU
    go_wp2_with (refine wpList_store_row rfl 43 _ _ rfl _ _ rfl rfl _ _ Q2.out ?_ ?_ ?_ ?_; (exact sz43); (simp only [List.size_toArray, List.length_cons, List.length_nil]); (simp [Value.oneCell']))
    refine bodyPost_ret (v := .tuple #[zeroJob, .int .i64 2]) ?_ rfl ?_
    · exact results_cell_tmp Try.results15 _ _ _ _ _ _ _ _ rfl rfl (setRow_heap _ _ _ _ _ _ Q2.out) Try.underlying43 rfl sz43
    · exact ⟨zeroJob, 2, rfl, .inl ⟨HWB.out, rfl, rfl⟩, T1.out.andThen (turns_setRow _ _ _) fun j hj e => by have := HP.out; omega⟩
  | false =>
    rw [hWB] at HER
    obtain rfl : ER = 0 := HER.out
    have HWB := hide hWB
    simp only [Bool.or_eq_false_iff] at hWB
    have HV0 := hide hWB.1
    have HS0 := hide hWB.2
    have hn5 : n = 5 := by
      have h1 := len_of_ok hWB.1
      rw [flL_length] at h1
      have h2 := HV.out.len
      omega
    subst hn5
    clear hWB HER
    have SC := hide (SC.out w1 T1.out HV0.out HS0.out)
    go_wp2_with fail
    refine SC.out.mono ?_
    rintro e w2 ⟨rfl, t2⟩
    have T2 := hide (T1.out.trans t2)
    have Q0 := hide (t2.heap Q0.out (fun x => x))
    have Q2 := hide (t2.heap Q2.out (fun x => x))
    have HS2 := hide (Nat.le_trans HS1.out t2.size)
    clear t2 SC p0 p1 p2 p3 q0 q1 q2 Q1
    go_wp2_with fail
    refine (DU.out _).mono ?_
    rintro e w3 ⟨rfl, t3⟩
    have T3 := hide (T2.out.trans t3)
    have Q0 := hide (t3.heap Q0.out (fun x => x))
    have Q2 := hide (t3.heap Q2.out (fun x => x))
    have HS3 := hide (Nat.le_trans HS2.out t3.size)
    clear t3 DU
    simp only at *
    cases db with
    | false =>
      go_wp2_with (refine wpList_store_row rfl 43 _ _ rfl _ _ rfl rfl _ _ Q2.out ?_ ?_ ?_ ?_; (exact sz43); (simp only [List.size_toArray, List.length_cons, List.length_nil]); (simp [Value.oneCell']))
      refine bodyPost_ret (v := .tuple #[zeroJob, .int .i64 6]) ?_ rfl ?_
      · exact results_cell_tmp Try.results15 _ _ _ _ _ _ _ _ rfl rfl (setRow_heap _ _ _ _ _ _ Q2.out) Try.underlying43 rfl sz43
      · exact ⟨zeroJob, 6, rfl, .inr (.inl ⟨HWB.out, by rw [← HDP.out], rfl, rfl⟩), T3.out.andThen (turns_setRow _ _ _) fun j hj e => by have := HP.out; omega⟩
    | true =>
      have hdue : (dueP (scoresL (flL L) t b f)).2 = true := by rw [← HDP.out]
      obtain ⟨z, hz, sc, hsc, hsc1, _, _⟩ := due_spec hdue
      have hz5 : z < 5 := by have := (List.getElem?_eq_some_iff.1 hsc).1; exact this
      obtain ⟨hz3, hne⟩ := score_files HS0.out hz5 hsc hsc1
      have hdz : dz = (z : Int) := by rw [← HDP.out] at hz; exact hz
      subst hdz
      obtain ⟨xl, hxl⟩ : ∃ xl, L[z]? = some xl := ⟨_, List.getElem?_eq_getElem (by have := HV.out.len; omega)⟩
      have hgd : (flL L).getD z [] = fls xl.l := by rw [List.getD, flL_at hxl]; rfl
      rw [hgd] at hne
      obtain ⟨x0, hx0⟩ : ∃ x0, xl.l[0]? = some x0 := by
        cases hl : xl.l with
        | nil => rw [hl] at hne; exact absurd rfl hne
        | cons y r => exact ⟨y, rfl⟩
      have JO := hide (JO.out (by first | rfl | trivial) xl x0 z w3 T3.out HV0.out hz3 hxl hx0)
      have HZ3 := hide hz3
      have HDZ := hide hz
      have HDU := hide hdue
      have HGD := hide hgd
      clear hdue hz hsc hsc1 hz5 hz3 hne hxl hgd hx0
      have p0 := cell_of_row w3 P 0 _ 25 (0, 0) Q0.out
      have p1 := cell_of_row w3 P 1 _ 25 (0, 0) Q0.out
      have p2 := cell_of_row w3 P 2 _ 25 (0, 0) Q0.out
      have p3 := cell_of_row w3 P 3 _ 25 (0, 0) Q0.out
      go_wp2_with fail
      refine JO.out.mono ?_
      rintro e w4 ⟨v, lo, hi, rfl, hup, hjo, t4⟩
      have HJO := hide hjo
      have HUP := hide hup
      obtain ⟨ua, va, uc, vc, R1, R2, a1, a2, c1, c2, rfl, _⟩ := hjo
      have T4 := hide (T3.out.trans t4)
      have Q2 := hide (t4.heap Q2.out (fun x => x))
      clear t4 hup JO p0 p1 p2 p3
      generalize hL1 : R1.length = N1 at *
      generalize hL2 : R2.length = N2 at *
      clear hL1 hL2
      have HQJ := hide (fun (u : World) (tu : Turns (fun j => j = P + 1 + 1) w4 u) => (HJO.out.keep tu fun k e => by have := HS3.out; omega).mono T3.out.size)
      clear HJO
      have HEQ := hide (show NextJ (flL L) next seq log z lo hi _ _ _ _ _ from ⟨by rw [HGD.out]; exact HUP.out, rfl, rfl, rfl, rfl, rfl⟩)
      generalize (filesF (flL L) next seq log (z : Nat)).filter (overF lo hi) = U1 at *
      generalize (filesF (flL L) next seq log ((z : Nat) + 1 : Int)).filter (overF lo hi) = U2 at *
      generalize deepF (flL L) next seq log ((z : Nat) + 1 : Int) (loF U2 lo) (hiF U2 hi) = BT at *
      generalize loF U2 lo = lo2 at *
      generalize hiF U2 hi = hi2 at *
      generalize hL5 : lo2.length = L5 at *
      generalize hL6 : hi2.length = L6 at *
      clear hL5 hL6
      go_wp2_with (refine wpList_store_row rfl 43 _ _ rfl _ _ rfl rfl _ _ Q2.out ?_ ?_ ?_ ?_; (exact sz43); (simp only [List.size_toArray, List.length_cons, List.length_nil]); (simp [Value.oneCell']))
      refine bodyPost_ret (v := .tuple #[.agg #[.int .i64 (z : Nat), .slice ua N1 uc, .slice va N2 vc, .slice a1 L5 c1, .slice a2 L6 c2, .bool BT], .int .i64 0]) ?_ rfl ?_
      · exact results_cell_tmp Try.results15 _ _ _ _ _ _ _ _ rfl rfl (setRow_heap _ _ _ _ _ _ Q2.out) Try.underlying43 rfl sz43
      · have ts := turns_setRow w4 (P + 1 + 1) #[.int .i64 (z : Nat), .slice ua N1 uc, .slice va N2 vc, .slice a1 L5 c1, .slice a2 L6 c2, .bool BT]
        exact ⟨_, 0, rfl, .inr (.inr ⟨HWB.out, HDU.out, rfl, z, lo, hi, U1, U2, lo2, hi2, BT, HZ3.out, HDZ.out, HEQ.out, HQJ.out _ ts⟩), T4.out.andThen ts fun j hj e => by have := HP.out; omega⟩
end Go.Proofs.Ytkmcdjbadngfgaa
