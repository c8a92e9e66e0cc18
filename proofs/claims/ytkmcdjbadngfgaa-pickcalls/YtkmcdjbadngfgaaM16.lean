import Derived.Test.YtkmcdjbadngfgaaM15
/-
  Next.
-/
namespace Go.Proofs.Ytkmcdjbadngfgaa
open Go.RowKit
set_option maxRecDepth 100000
set_option maxHeartbeats 4000000
def scoresL (LL : List (List Fl)) (t b f : Int) : List Int := [scoreP LL t b f 0, scoreP LL t b f 1, scoreP LL t b f 2, scoreP LL t b f 3, scoreP LL t b f 4]
section
variable {P : Program}
theorem results_cell_tmp {fn : Func} {j p : Tmp} {ty : TypeId} (h : fn.results = #[.cell p ty, .tmp j]) (tmps : Array Value) (w : World) (u : Value) (g : Nat) (t : TypeId) (cs : Array Value) (fr : Nat × Nat) (d : TypeDesc)
    (hu' : tmps.getD j undef = u) (hp : tmps.getD p undef = .pointer (some ⟨g, 0, none⟩)) (hg : w.heap[g]? = some (.cells cs t fr))
    (hu : P.underlying ty = some d) (hd : (match d with | .struct _ | .array _ _ => true | _ => false) = true) (hi : (P.info? ty).map (·.size) = some cs.size) :
    (results fn tmps).run P w = .ok (.tuple #[.agg cs, u]) w := by
  have hp' : tmps[p]?.getD undef = .pointer (some ⟨g, 0, none⟩) := by simpa using hp
  have hw' : tmps[j]?.getD undef = u := by simpa using hu'
  simp [results, h, hp', hw', asAddr, run_loadVar_row w g t ty cs fr d hg hu hd hi]
end
/-- What Next answers, told by files. -/
structure NextJ (LL : List (List Fl)) (next seq log : Nat) (z : Nat) (lo hi : List (BitVec 8)) (U LW : List Fl) (least most : List (BitVec 8)) (bot : Bool) : Prop where
  up : UpP (LL.getD z []) (z : Nat) lo hi
  hU : U = (filesF LL next seq log (z : Nat)).filter (overF lo hi)
  hL : LW = (filesF LL next seq log ((z : Nat) + 1 : Int)).filter (overF lo hi)
  hl : least = loF LW lo
  hm : most = hiF LW hi
  hb : bot = deepF LL next seq log ((z : Nat) + 1 : Int) least most
def zeroJob : Value := .agg #[.int .i64 0, .slice none 0 0, .slice none 0 0, .slice none 0 0, .slice none 0 0, .bool false]
def NextOut (LL : List (List Fl)) (next seq log : Nat) (t b f : Int) (w : World) (B : Nat) (v : Value) (e : Int) : Prop :=
  (((wrongVF LL next seq log || setBad t b f) = true ∧ e = 2 ∧ v = zeroJob)) ∨
  ((wrongVF LL next seq log || setBad t b f) = false ∧ (dueP (scoresL LL t b f)).2 = false ∧ e = 6 ∧ v = zeroJob) ∨
  ((wrongVF LL next seq log || setBad t b f) = false ∧ (dueP (scoresL LL t b f)).2 = true ∧ e = 0 ∧ ∃ (z : Nat) (lo hi : List (BitVec 8)) (U LW : List Fl) (least most : List (BitVec 8)) (bot : Bool), z ≤ 3 ∧ (dueP (scoresL LL t b f)).1 = (z : Int) ∧ NextJ LL next seq log z lo hi U LW least most bot ∧ JobIn w B v (z : Nat) U LW least most bot)
theorem best_ge : ∀ (l : List Int) (m : Int), m ≤ l.foldl max m ∧ (∀ x ∈ l, x ≤ l.foldl max m) ∧ (l.foldl max m = m ∨ l.foldl max m ∈ l)
  | [], m => ⟨Int.le_refl _, ⟨fun x h => (by simp at h), Or.inl rfl⟩⟩
  | a :: r, m => by
    obtain ⟨h1, h2, h3⟩ := best_ge r (max m a)
    refine ⟨?_, fun x hx => ?_, ?_⟩
    · show m ≤ r.foldl max (max m a); omega
    · show x ≤ r.foldl max (max m a)
      rcases List.mem_cons.1 hx with rfl | hx
      · omega
      · exact h2 x hx
    · show r.foldl max (max m a) = m ∨ r.foldl max (max m a) ∈ a :: r
      rcases h3 with h3 | h3
      · rw [h3]
        rcases Int.le_total m a with h | h
        · rw [Int.max_eq_right h]; exact .inr List.mem_cons_self
        · rw [Int.max_eq_left h]; exact .inl rfl
      · exact .inr (List.mem_cons_of_mem _ h3)
/-- A level that is due has a score of 100 at least, and is the first that has the greatest. -/
theorem due_spec {l : List Int} (h : (dueP l).2 = true) : ∃ z : Nat, (dueP l).1 = (z : Int) ∧ ∃ s, l[z]? = some s ∧ 100 ≤ s ∧ (∀ x ∈ l, x ≤ s) ∧ ∀ (j : Nat) (x : Int), j < z → l[j]? = some x → x < s := by
  unfold dueP at *
  obtain ⟨h1, h2, h3⟩ := best_ge l 0
  have hb : l.foldl max 0 = bestOf l := rfl
  rw [hb] at h1 h2 h3
  split at h
  · cases h
  · next hlt =>
    have hin : bestOf l ∈ l := by rcases h3 with h3 | h3; omega; exact h3
    rw [if_neg hlt]
    have hi : idxOfI l (bestOf l) = ((l.findIdx fun x => x == bestOf l : Nat) : Int) := by unfold idxOfI; rw [if_pos hin]
    have hlen : (l.findIdx fun x => x == bestOf l) < l.length := List.findIdx_lt_length_of_exists ⟨_, hin, by simp⟩
    have hat := List.findIdx_getElem (w := hlen)
    refine ⟨_, hi, bestOf l, ?_, by omega, h2, fun j x hj hx => ?_⟩
    · rw [List.getElem?_eq_getElem hlen]; simpa using hat
    · have hne := List.not_of_lt_findIdx hj
      have hx' := (List.getElem?_eq_some_iff.1 hx).2
      rw [hx'] at hne
      have := h2 x (List.mem_of_getElem? hx)
      have hne' : x ≠ bestOf l := by simpa using hne
      omega
theorem due_none {l : List Int} (h : (dueP l).2 = false) : ∀ x ∈ l, x < 100 := by
  unfold dueP at h
  obtain ⟨h1, h2, h3⟩ := best_ge l 0
  have hb : l.foldl max 0 = bestOf l := rfl
  rw [hb] at h1 h2 h3
  split at h
  · next hlt => intro x hx; have := h2 x hx; omega
  · cases h
/-- A level with a score has files. -/
theorem score_files {LL : List (List Fl)} {t b f : Int} (hs : setBad t b f = false) {z : Nat} (hz : z < 5) {s : Int} (h : (scoresL LL t b f)[z]? = some s) (h1 : 100 ≤ s) : z ≤ 3 ∧ LL.getD z [] ≠ [] := by
  have hsc : s = scoreP LL t b f (z : Nat) := by
    unfold scoresL at h
    obtain rfl | rfl | rfl | rfl | rfl : z = 0 ∨ z = 1 ∨ z = 2 ∨ z = 3 ∨ z = 4 := by omega
    all_goals (cases h; rfl)
  have hz4 : z ≠ 4 := fun e => by
    subst e
    rw [hsc] at h1
    have : scoreP LL t b f (4 : Nat) = 0 := rfl
    omega
  refine ⟨by omega, fun e => ?_⟩
  rw [hsc] at h1
  unfold scoreP at h1
  obtain ⟨a1, a2, a3, a4, a5, a6⟩ := setBad_false hs
  split at h1
  · next h0 =>
    have : z = 0 := by omega
    subst this
    rw [e] at h1
    have e0 : (((([] : List Fl).length : Nat) : Int) * 100 / t) = 0 := by simp
    omega
  · rw [if_neg (by omega), Int.toNat_natCast, e] at h1
    have e0 : sizesF [] * 100 / boundP t b f (z : Nat) = 0 := by simp [sizesF]
    omega
theorem next_any (a : Option Addr) (n c next seq log : Nat) (L : List Lv) (t b f : Int) (w : World) (h : VerIn w a n L next seq log) :
    Calls Try.prog 15 #[verAgg a n c next seq log, setAgg t b f] w fun e w' => ∃ (v : Value) (er : Int), e = .returned (.tuple #[v, .int .i64 er]) ∧ NextOut (flL L) next seq log t b f w' w.heap.size v er ∧ Turns (fun _ => False) w w' := by
  have TA := hide ((((Turns.refl (fun _ => False) w).alloc (.cells #[.slice a n c, .int .u64 (next : Nat), .int .u64 (seq : Nat), .int .u64 (log : Nat)] 25)).alloc (.cells #[.int .i64 t, .int .i64 b, .int .i64 f] 35)).alloc (.cells #[.int .i64 0, .slice none 0 0, .slice none 0 0, .slice none 0 0, .slice none 0 0, .bool false] 43))
  have HSZ := hide (show (((w.alloc (.cells #[.slice a n c, .int .u64 (next : Nat), .int .u64 (seq : Nat), .int .u64 (log : Nat)] 25)).alloc (.cells #[.int .i64 t, .int .i64 b, .int .i64 f] 35)).alloc (.cells #[.int .i64 0, .slice none 0 0, .slice none 0 0, .slice none 0 0, .slice none 0 0, .bool false] 43)).heap.size = w.heap.size + 3 by simp only [World.size_alloc])
  have R0 := hide (((((Turns.refl (fun _ => False) (w.alloc (.cells #[.slice a n c, .int .u64 (next : Nat), .int .u64 (seq : Nat), .int .u64 (log : Nat)] 25))).alloc (.cells #[.int .i64 t, .int .i64 b, .int .i64 f] 35)).alloc (.cells #[.int .i64 0, .slice none 0 0, .slice none 0 0, .slice none 0 0, .slice none 0 0, .bool false] 43))).heap (heap_alloc_new w (.cells #[.slice a n c, .int .u64 (next : Nat), .int .u64 (seq : Nat), .int .u64 (log : Nat)] 25)) (fun x => x))
  have R1 := hide ((((Turns.refl (fun _ => False) ((w.alloc (.cells #[.slice a n c, .int .u64 (next : Nat), .int .u64 (seq : Nat), .int .u64 (log : Nat)] 25)).alloc (.cells #[.int .i64 t, .int .i64 b, .int .i64 f] 35))).alloc (.cells #[.int .i64 0, .slice none 0 0, .slice none 0 0, .slice none 0 0, .slice none 0 0, .bool false] 43))).heap (heap_alloc_new (w.alloc (.cells #[.slice a n c, .int .u64 (next : Nat), .int .u64 (seq : Nat), .int .u64 (log : Nat)] 25)) (.cells #[.int .i64 t, .int .i64 b, .int .i64 f] 35)) (fun x => x))
  have R2 := hide (heap_alloc_new ((w.alloc (.cells #[.slice a n c, .int .u64 (next : Nat), .int .u64 (seq : Nat), .int .u64 (log : Nat)] 25)).alloc (.cells #[.int .i64 t, .int .i64 b, .int .i64 f] 35)) (.cells #[.int .i64 0, .slice none 0 0, .slice none 0 0, .slice none 0 0, .slice none 0 0, .bool false] 43))
  simp only [World.size_alloc] at R1 R2
  have HV := hide h
  have CK := hide (fun (u : World) (tu : Turns (fun _ => False) w u) => pcheck_any a n c next seq log L t b f u (h.quiet tu))
  have SC := hide (fun (u : World) (tu : Turns (fun _ => False) w u) (hv : wrongVF (flL L) next seq log = false) (hs : setBad t b f = false) => scores_any a n c next seq log L t b f u (h.quiet tu) hv hs)
  have HWV := hide (show wrongVF (flL L) next seq log = wrongVF (flL L) next seq log from rfl)
  obtain ⟨ER, hER⟩ : ∃ r : Int, r = if (wrongVF (flL L) next seq log || setBad t b f) = true then 2 else 0 := ⟨_, rfl⟩
  rw [← hER] at CK
  have HER := hide hER
  clear hER h HWV
  have DU := hide (due_any (scoreP (flL L) t b f 0) (scoreP (flL L) t b f 1) (scoreP (flL L) t b f 2) (scoreP (flL L) t b f 3) (scoreP (flL L) t b f 4))
  have HDU := hide (show dueP [scoreP (flL L) t b f 0, scoreP (flL L) t b f 1, scoreP (flL L) t b f 2, scoreP (flL L) t b f 3, scoreP (flL L) t b f 4] = dueP (scoresL (flL L) t b f) from rfl)
  have JO := hide (fun (h5 : n = 5) (xl : Lv) (x0 : Tf) (z : Nat) (u : World) (tu : Turns (fun _ => False) w u) (hv : wrongVF (flL L) next seq log = false) (hz : z ≤ 3) (hx : L[z]? = some xl) (h0 : xl.l[0]? = some x0) => job_any a c next seq log L xl x0 z u (h5 ▸ HV.out.quiet tu) hv hz hx h0)
  generalize scoreP (flL L) t b f 0 = s0 at *
  generalize scoreP (flL L) t b f 1 = s1 at *
  generalize scoreP (flL L) t b f 2 = s2 at *
  generalize scoreP (flL L) t b f 3 = s3 at *
  generalize scoreP (flL L) t b f 4 = s4 at *
  have HDP := hide (show dueP [s0, s1, s2, s3, s4] = dueP (scoresL (flL L) t b f) from HDU.out)
  generalize dueP [s0, s1, s2, s3, s4] = DP at *
  obtain ⟨dz, db⟩ := DP
  unfold verAgg setAgg at *
  clear HDU
  go_enter Try.func15, Try.ntmps15
  go_wp2_with fail
  obtain ⟨w0, hw0⟩ : ∃ u, u = ((w.alloc (.cells #[.slice a n c, .int .u64 (next : Nat), .int .u64 (seq : Nat), .int .u64 (log : Nat)] 25)).alloc (.cells #[.int .i64 t, .int .i64 b, .int .i64 f] 35)).alloc (.cells #[.int .i64 0, .slice none 0 0, .slice none 0 0, .slice none 0 0, .slice none 0 0, .bool false] 43) := ⟨_, rfl⟩
  rw [← hw0] at TA R0 R1 R2 HSZ ⊢
  clear hw0
  generalize hP : w.heap.size = P at *
  have HP := hide hP
  clear hP
  refine (CK.out _ TA.out).mono ?_
  rintro e w1 ⟨rfl, t1⟩
  have T1 := hide (TA.out.trans t1)
  have Q0 := hide (t1.heap R0.out (fun x => x))
  have Q1 := hide (t1.heap R1.out (fun x => x))
  have Q2 := hide (t1.heap R2.out (fun x => x))
  have HS1 := hide (show P + 3 ≤ w1.heap.size by have := t1.size; have := HSZ.out; omega)
  have p0 := cell_of_row w1 P 0 _ 25 (0, 0) Q0.out
  have p1 := cell_of_row w1 P 1 _ 25 (0, 0) Q0.out
  have p2 := cell_of_row w1 P 2 _ 25 (0, 0) Q0.out
  have p3 := cell_of_row w1 P 3 _ 25 (0, 0) Q0.out
  have q0 := cell_of_row w1 (P + 1) 0 _ 35 (0, 0) Q1.out
  have q1 := cell_of_row w1 (P + 1) 1 _ 35 (0, 0) Q1.out
  have q2 := cell_of_row w1 (P + 1) 2 _ 35 (0, 0) Q1.out
  clear t1 R0 R1 R2 CK TA
  cases hWB : (wrongVF (flL L) next seq log || setBad t b f) with
  | true =>
    rw [hWB, if_pos rfl] at HER
    obtain rfl : ER = 2 := HER.out
    have HWB := hide hWB
    clear hWB SC JO DU
    go_wp2_with (refine wpList_store_row rfl 43 _ _ rfl _ _ rfl rfl _ _ Q2.out ?_ ?_ ?_ ?_; (exact sz43); (simp only [List.size_toArray, List.length_cons, List.length_nil]); (simp [Value.oneCell']))
    refine bodyPost_ret (v := .tuple #[zeroJob, .int .i64 2]) ?_ rfl ?_
    · exact results_cell_tmp Try.results15 _ _ _ _ _ _ _ _ rfl rfl (setRow_heap _ _ _ _ _ _ Q2.out) Try.underlying43 rfl sz43
    · exact ⟨zeroJob, 2, rfl, .inl ⟨HWB.out, rfl, rfl⟩, T1.out.andThen (turns_setRow _ _ _) fun j hj e => by have := HP.out; omega⟩
  | false =>
    rw [hWB] at HER
    obtain rfl : ER = 0 := HER.out
    have HWB := hide hWB
    simp only [Bool.or_eq_false_iff] at hWB
    have HV0 := hide hWB.1
    have HS0 := hide hWB.2
    have hn5 : n = 5 := by
      have h1 := len_of_ok hWB.1
      rw [flL_length] at h1
      have h2 := HV.out.len
      omega
    subst hn5
    clear hWB HER
    have SC := hide (SC.out w1 T1.out HV0.out HS0.out)
    go_wp2_with fail
    refine SC.out.mono ?_
    rintro e w2 ⟨rfl, t2⟩
    have T2 := hide (T1.out.trans t2)
    have Q0 := hide (t2.heap Q0.out (fun x => x))
    have Q2 := hide (t2.heap Q2.out (fun x => x))
    have HS2 := hide (Nat.le_trans HS1.out t2.size)
    clear t2 SC p0 p1 p2 p3 q0 q1 q2 Q1
    go_wp2_with fail
    refine (DU.out _).mono ?_
    rintro e w3 ⟨rfl, t3⟩
    have T3 := hide (T2.out.trans t3)
    have Q0 := hide (t3.heap Q0.out (fun x => x))
    have Q2 := hide (t3.heap Q2.out (fun x => x))
    have HS3 := hide (Nat.le_trans HS2.out t3.size)
    clear t3 DU
    simp only at *
    cases db with
    | false =>
      go_wp2_with (refine wpList_store_row rfl 43 _ _ rfl _ _ rfl rfl _ _ Q2.out ?_ ?_ ?_ ?_; (exact sz43); (simp only [List.size_toArray, List.length_cons, List.length_nil]); (simp [Value.oneCell']))
      refine bodyPost_ret (v := .tuple #[zeroJob, .int .i64 6]) ?_ rfl ?_
      · exact results_cell_tmp Try.results15 _ _ _ _ _ _ _ _ rfl rfl (setRow_heap _ _ _ _ _ _ Q2.out) Try.underlying43 rfl sz43
      · exact ⟨zeroJob, 6, rfl, .inr (.inl ⟨HWB.out, by rw [← HDP.out], rfl, rfl⟩), T3.out.andThen (turns_setRow _ _ _) fun j hj e => by have := HP.out; omega⟩
    | true =>
      have hdue : (dueP (scoresL (flL L) t b f)).2 = true := by rw [← HDP.out]
      obtain ⟨z, hz, sc, hsc, hsc1, _, _⟩ := due_spec hdue
      have hz5 : z < 5 := by have := (List.getElem?_eq_some_iff.1 hsc).1; exact this
      obtain ⟨hz3, hne⟩ := score_files HS0.out hz5 hsc hsc1
      have hdz : dz = (z : Int) := by rw [← HDP.out] at hz; exact hz
      subst hdz
      obtain ⟨xl, hxl⟩ : ∃ xl, L[z]? = some xl := ⟨_, List.getElem?_eq_getElem (by have := HV.out.len; omega)⟩
      have hgd : (flL L).getD z [] = fls xl.l := by rw [List.getD, flL_at hxl]; rfl
      rw [hgd] at hne
      obtain ⟨x0, hx0⟩ : ∃ x0, xl.l[0]? = some x0 := by
        cases hl : xl.l with
        | nil => rw [hl] at hne; exact absurd rfl hne
        | cons y r => exact ⟨y, rfl⟩
      have JO := hide (JO.out (by first | rfl | trivial) xl x0 z w3 T3.out HV0.out hz3 hxl hx0)
      have HZ3 := hide hz3
      have HDZ := hide hz
      have HDU := hide hdue
      have HGD := hide hgd
      clear hdue hz hsc hsc1 hz5 hz3 hne hxl hgd hx0
      have p0 := cell_of_row w3 P 0 _ 25 (0, 0) Q0.out
      have p1 := cell_of_row w3 P 1 _ 25 (0, 0) Q0.out
      have p2 := cell_of_row w3 P 2 _ 25 (0, 0) Q0.out
      have p3 := cell_of_row w3 P 3 _ 25 (0, 0) Q0.out
      go_wp2_with fail
      refine JO.out.mono ?_
      rintro e w4 ⟨v, lo, hi, rfl, hup, hjo, t4⟩
      have HJO := hide hjo
      have HUP := hide hup
      obtain ⟨ua, va, uc, vc, R1, R2, a1, a2, c1, c2, rfl, _⟩ := hjo
      have T4 := hide (T3.out.trans t4)
      have Q2 := hide (t4.heap Q2.out (fun x => x))
      clear t4 hup JO p0 p1 p2 p3
      generalize hL1 : R1.length = N1 at *
      generalize hL2 : R2.length = N2 at *
      clear hL1 hL2
      have HQJ := hide (fun (u : World) (tu : Turns (fun j => j = P + 1 + 1) w4 u) => (HJO.out.keep tu fun k e => by have := HS3.out; omega).mono T3.out.size)
      clear HJO
      have HEQ := hide (show NextJ (flL L) next seq log z lo hi _ _ _ _ _ from ⟨by rw [HGD.out]; exact HUP.out, rfl, rfl, rfl, rfl, rfl⟩)
      generalize (filesF (flL L) next seq log (z : Nat)).filter (overF lo hi) = U1 at *
      generalize (filesF (flL L) next seq log ((z : Nat) + 1 : Int)).filter (overF lo hi) = U2 at *
      generalize deepF (flL L) next seq log ((z : Nat) + 1 : Int) (loF U2 lo) (hiF U2 hi) = BT at *
      generalize loF U2 lo = lo2 at *
      generalize hiF U2 hi = hi2 at *
      generalize hL5 : lo2.length = L5 at *
      generalize hL6 : hi2.length = L6 at *
      clear hL5 hL6
      go_wp2_with (refine wpList_store_row rfl 43 _ _ rfl _ _ rfl rfl _ _ Q2.out ?_ ?_ ?_ ?_; (exact sz43); (simp only [List.size_toArray, List.length_cons, List.length_nil]); (simp [Value.oneCell']))
      refine bodyPost_ret (v := .tuple #[.agg #[.int .i64 (z : Nat), .slice ua N1 uc, .slice va N2 vc, .slice a1 L5 c1, .slice a2 L6 c2, .bool BT], .int .i64 0]) ?_ rfl ?_
      · exact results_cell_tmp Try.results15 _ _ _ _ _ _ _ _ rfl rfl (setRow_heap _ _ _ _ _ _ Q2.out) Try.underlying43 rfl sz43
      · have ts := turns_setRow w4 (P + 1 + 1) #[.int .i64 (z : Nat), .slice ua N1 uc, .slice va N2 vc, .slice a1 L5 c1, .slice a2 L6 c2, .bool BT]
        exact ⟨_, 0, rfl, .inr (.inr ⟨HWB.out, HDU.out, rfl, z, lo, hi, U1, U2, lo2, hi2, BT, HZ3.out, HDZ.out, HEQ.out, HQJ.out _ ts⟩), T4.out.andThen ts fun j hj e => by have := HP.out; omega⟩
end Go.Proofs.Ytkmcdjbadngfgaa

/-
  The law's own functions: which of two texts is ahead; whether two files overlap; whether a file is among some.
-/
namespace Go.Proofs.Ytkmcdjbadngfgaa
open Go.RowKit
set_option maxRecDepth 100000
set_option maxHeartbeats 4000000
theorem kbefore_any (a a' : Option Addr) (n n' c c' : Nat) (x y : List (BitVec 8)) (w : World) (h : Bytes w (.slice a n c) x) (h' : Bytes w (.slice a' n' c') y) :
    Calls Try.prog 41 #[.slice a n c, .slice a' n' c'] w fun e w' => e = .returned (.bool (decide (cmpB x y < 0))) ∧ w' = w := by
  have c1 := conv_any h
  have c2 := conv_any h'
  have HB := hide (show Op.bytesLess (u8s x) (u8s y) = decide (cmpB x y < 0) by
    have h1 := less_cmp (u8s x) (u8s y)
    have h2 := cmpB_vals x y
    unfold cmpB at h2 ⊢
    rw [Bool.eq_iff_iff, h1, decide_eq_true_iff]
    omega)
  clear h h'
  go_enter Try.func41, Try.ntmps41
  go_wp2_with fail
  go_ret
  exact ⟨congrArg (fun b => Ending.returned (Value.bool b)) HB.out, rfl⟩
def ovL (x y : Fl) : Bool := decide (¬ cmpB x.most y.least < 0) && decide (¬ cmpB y.most x.least < 0)
theorem loverlaps_any (x y : Tf) (w : World) (h : FB w x) (h' : FB w y) : Calls Try.prog 24 #[x.agg, y.agg] w fun e w' => e = .returned (.bool (ovL x.f y.f)) ∧ Turns (fun _ => False) w w' := by
  obtain ⟨la, lc, ma, mc, ⟨no, sz, ls, ms, en, sq⟩⟩ := x
  obtain ⟨la2, lc2, ma2, mc2, ⟨no2, sz2, ls2, ms2, en2, sq2⟩⟩ := y
  have TA := hide (((Turns.refl (fun _ => False) w).alloc (.cells #[.int .u64 (no : Nat), .int .i64 sz, .slice la ls.length lc, .slice ma ms.length mc, .int .i64 en, .int .u64 (sq : Nat)] 29)).alloc (.cells #[.int .u64 (no2 : Nat), .int .i64 sz2, .slice la2 ls2.length lc2, .slice ma2 ms2.length mc2, .int .i64 en2, .int .u64 (sq2 : Nat)] 29))
  have C1 := hide (kbefore_any ma la2 ms.length ls2.length mc lc2 ms ls2 _ (h.quiet TA.out).2 (h'.quiet TA.out).1)
  have C2 := hide (kbefore_any ma2 la ms2.length ls.length mc2 lc ms2 ls _ (h'.quiet TA.out).2 (h.quiet TA.out).1)
  have HO := hide (show ovL ⟨no, sz, ls, ms, en, sq⟩ ⟨no2, sz2, ls2, ms2, en2, sq2⟩ = (decide (¬ cmpB ms ls2 < 0) && decide (¬ cmpB ms2 ls < 0)) from rfl)
  clear h h'
  unfold Tf.agg
  simp only at *
  generalize ovL ⟨no, sz, ls, ms, en, sq⟩ ⟨no2, sz2, ls2, ms2, en2, sq2⟩ = R at *
  generalize ls.length = L1 at *
  generalize ms.length = L2 at *
  generalize ls2.length = L3 at *
  generalize ms2.length = L4 at *
  generalize cmpB ms ls2 = X1 at *
  generalize cmpB ms2 ls = X2 at *
  by_cases x1 : X1 < 0
  · rw [decide_eq_true x1] at C1
    have HR := hide (show R = false by rw [HO.out, and_f (show ¬ ¬ X1 < 0 from fun h => h x1)])
    clear HO x1
    go_enter Try.func24, Try.ntmps24
    go_wp2_with fail
    refine C1.out.mono ?_
    rintro e w1 ⟨rfl, rfl⟩
    go_wp2_with fail
    go_ret
    exact ⟨by rw [HR.out]; rfl, TA.out⟩
  · rw [decide_eq_false x1] at C1
    by_cases x2 : X2 < 0
    · rw [decide_eq_true x2] at C2
      have HR := hide (show R = false by rw [HO.out, and_tf (show ¬ ¬ X2 < 0 from fun h => h x2)])
      clear HO x1 x2
      go_enter Try.func24, Try.ntmps24
      go_wp2_with fail
      refine C1.out.mono ?_
      rintro e w1 ⟨rfl, rfl⟩
      go_wp2_with fail
      refine C2.out.mono ?_
      rintro e w1 ⟨rfl, rfl⟩
      go_wp2_with fail
      go_ret
      exact ⟨by rw [HR.out]; rfl, TA.out⟩
    · rw [decide_eq_false x2] at C2
      have HR := hide (show R = true by rw [HO.out, and_tt x1 x2])
      clear HO x1 x2
      go_enter Try.func24, Try.ntmps24
      go_wp2_with fail
      refine C1.out.mono ?_
      rintro e w1 ⟨rfl, rfl⟩
      go_wp2_with fail
      refine C2.out.mono ?_
      rintro e w1 ⟨rfl, rfl⟩
      go_wp2_with fail
      go_ret
      exact ⟨by rw [HR.out]; rfl, TA.out⟩
def amongF (l : List Fl) (no : Nat) : Bool := l.any fun f => decide (f.no = no)
theorem among_any (a : Option Addr) (n c : Nat) (l : List Tf) (x : Tf) (w : World) (h : Fils w a l) (hn : n = l.length) (hmx : n ≤ 1000000) : Calls Try.prog 23 #[.slice a n c, x.agg] w fun e w' => e = .returned (.bool (amongF (fls l) x.f.no)) ∧ Turns (fun _ => False) w w' := by
  have HN := hide hn
  have hm : (n : Int) ≤ 1000000 := by omega
  obtain ⟨la, lc, ma, mc, ⟨no, sz, ls, ms, en, sq⟩⟩ := x
  have TA := hide ((Turns.refl (fun _ => False) w).alloc (.cells #[.int .u64 (no : Nat), .int .i64 sz, .slice la ls.length lc, .slice ma ms.length mc, .int .i64 en, .int .u64 (sq : Nat)] 29))
  have R0 := hide (heap_alloc_new w (.cells #[.int .u64 (no : Nat), .int .i64 sz, .slice la ls.length lc, .slice ma ms.length mc, .int .i64 en, .int .u64 (sq : Nat)] 29))
  have HF := hide (h.quiet TA.out)
  have HO := hide (show amongF (fls l) no = (fls l).any fun f => decide (f.no = no) from rfl)
  clear hn h
  unfold Tf.agg
  simp only at *
  generalize ls.length = L1 at *
  generalize ms.length = L2 at *
  generalize amongF (fls l) no = R at *
  go_enter Try.func23, Try.ntmps23
  go_wp2_with fail
  generalize w.alloc (.cells #[.int .u64 (no : Nat), .int .i64 sz, .slice la L1 lc, .slice ma L2 mc, .int .i64 en, .int .u64 (sq : Nat)] 29) = w1 at *
  generalize w.heap.size = P at *
  go_loopw [5] (fun i wr => ∃ k : Nat, i = .int .i64 (k : Nat) ∧ k ≤ n ∧ (∀ (j : Nat) (y : Tf), j < k → l[j]? = some y → y.f.no ≠ no) ∧ Turns (fun _ => False) w1 wr) (fun i _ => n - (intOf i).toNat)
  case atStart => exact ⟨0, rfl, Nat.zero_le _, fun j y hj => by omega, Turns.refl _ _⟩
  case round =>
    obtain ⟨k, rfl, hk, hno, ht⟩ := hrel
    have HNO := hide hno
    have HT := hide ht
    clear hno ht
    by_cases hkn : k < n
    · obtain ⟨y, hy⟩ : ∃ y, l[k]? = some y := ⟨_, List.getElem?_eq_getElem (by have := HN.out; omega)⟩
      obtain ⟨b, off, rfl, h6, _⟩ := fc_of (HF.out.quiet HT.out) hy
      have i1 : (k : Int) < n := by omega
      have i0 : (0 : Int) ≤ k := by omega
      have HY := hide hy
      have p0 := cell_of_row wr P 0 _ 29 (0, 0) (HT.out.heap R0.out (fun x => x))
      have y0 := h6.c0
      clear hy h6
      generalize hz : y.f.no = z at *
      have HZ := hide hz
      clear hz
      by_cases hzn : z = no
      · subst hzn
        have HR := hide (show R = true by
          rw [HO.out, List.any_eq_true]
          exact ⟨y.f, List.mem_map.2 ⟨y, List.mem_of_getElem? HY.out, rfl⟩, by rw [HZ.out]; simp⟩)
        go_wp2_with fail
        go_quiet (fail)
        go_wp2
        go_ret
        refine ⟨by rw [HR.out]; rfl, ?_⟩
        first
          | exact TA.out.trans HT.out.drew
          | exact TA.out.trans (HT.out.drewN _)
      · have hzi : ¬ (z : Int) = no := by omega
        have HZN := hide hzn
        clear hzn
        go_wp2_with fail
        go_quiet (fail)
        go_wp2
        go_roundw
        case rel =>
          refine ⟨k + 1, by go_num, by omega, fun j u hj hu => ?_, ?_⟩
          · rcases Nat.lt_or_ge j k with h | h
            · exact HNO.out j u h hu
            · obtain rfl : j = k := by omega
              rw [HY.out] at hu; cases hu; rw [HZ.out]; exact HZN.out
          · first
              | exact HT.out.drew
              | exact HT.out.drewN _
        case measure => simp [intOf]; omega
    · obtain rfl : k = n := by omega
      have HR := hide (show R = false by
        rw [HO.out, List.any_eq_false]
        intro f hf
        obtain ⟨y, hy, rfl⟩ := List.mem_map.1 hf
        obtain ⟨j, hj⟩ := List.getElem?_of_mem hy
        have := HNO.out j y (by have := HN.out; have := (List.getElem?_eq_some_iff.1 hj).1; omega) hj
        simpa using this)
      go_wp2_with fail
      go_ret
      exact ⟨by rw [HR.out]; rfl, TA.out.trans HT.out⟩
end Go.Proofs.Ytkmcdjbadngfgaa

/-
  What a job leaves: pure.
-/
namespace Go.Proofs.Ytkmcdjbadngfgaa
set_option maxRecDepth 100000
set_option maxHeartbeats 4000000
theorem files_at' {LL : List (List Fl)} {next seq log : Nat} {t : Nat} {l : List Fl} (h : wrongVF LL next seq log = false) (ht : t < 5) (hl : LL[t]? = some l) : filesF LL next seq log (t : Nat) = l := by
  unfold filesF goodLev
  rw [h, decide_eq_true (show (0 : Int) ≤ (t : Nat) by omega), decide_eq_true (show ((t : Nat) : Int) < 5 by omega)]
  simp [List.getD, hl]
theorem clt_iff (a b : List (BitVec 8)) : cmpB a b < 0 ↔ ¬ cle b a := by rw [cle_iff]; omega
theorem levels_ok {LL : List (List Fl)} {next seq log : Nat} (h : wrongVF LL next seq log = false) {k : Nat} {l : List Fl} (hk : LL[k]? = some l) : (∀ f ∈ l, wrongF f = false) ∧ ordF k l = true := by
  unfold wrongVF at h
  simp only [Bool.or_eq_false_iff] at h
  have := List.any_eq_false.1 h.1.2 (l, k) (List.mem_zipIdx_iff_getElem?.2 hk)
  simp only [wrongLF, Bool.or_eq_true, not_or, Bool.not_eq_true] at this
  refine ⟨fun f hf => ?_, ?_⟩
  · have h1 := List.any_eq_false.1 this.1.1 f hf
    simpa using h1
  · have h2 := this.2
    cases ho : ordF k l with
    | true => rfl
    | false => rw [ho] at h2; simp at h2
theorem file_le {f : Fl} (h : wrongF f = false) : cle f.least f.most ∧ 1 ≤ f.least.length ∧ 1 ≤ f.most.length := by
  unfold wrongF isK at h
  simp only [Bool.or_eq_false_iff, decide_eq_false_iff_not, Bool.not_eq_eq_eq_not, Bool.not_false, Bool.and_eq_true, decide_eq_true_iff] at h
  unfold cle
  omega
/-- On a level but the first files stand one behind the other. -/
theorem apart {lev : Nat} {l : List Fl} (hl : lev ≠ 0) (ho : ordF lev l = true) (hw : ∀ f ∈ l, wrongF f = false) : ∀ (d i : Nat) (f g : Fl), l[i]? = some f → l[i + d + 1]? = some g → ¬ cle g.least f.most
  | 0, i, f, g, hf, hg => by
    have h := (ordF_iff lev l).1 ho i f g hf hg
    unfold aheadF at h
    rw [if_neg hl, decide_eq_true_iff, clt_iff] at h
    exact h
  | d + 1, i, f, g, hf, hg => by
    obtain ⟨m, hm⟩ : ∃ m, l[i + d + 1]? = some m := ⟨_, List.getElem?_eq_getElem (by have := (List.getElem?_eq_some_iff.1 hg).1; omega)⟩
    have h1 := apart hl ho hw d i f m hf hm
    have h := (ordF_iff lev l).1 ho (i + d + 1) m g hm hg
    unfold aheadF at h
    rw [if_neg hl, decide_eq_true_iff, clt_iff] at h
    intro hc
    rcases cle_total m.least f.most with hx | hx
    · exact h1 hx
    · exact h (cle_trans hc (cle_trans hx (file_le (hw m (List.mem_of_getElem? hm))).1))
theorem only_one {lev : Nat} {l : List Fl} (hl : lev ≠ 0) (ho : ordF lev l = true) (hw : ∀ f ∈ l, wrongF f = false) {f g : Fl} (hf : f ∈ l) (hg : g ∈ l) (h : ovK f.least f.most g = true) : g = f := by
  obtain ⟨i, hi⟩ := List.getElem?_of_mem hf
  obtain ⟨j, hj⟩ := List.getElem?_of_mem hg
  obtain ⟨h1, h2⟩ := ovK_iff.1 h
  rcases Nat.lt_trichotomy i j with hij | hij | hij
  · obtain ⟨d, rfl⟩ : ∃ d, j = i + d + 1 := ⟨j - i - 1, by omega⟩
    exact absurd h2 (apart hl ho hw d i f g hi hj)
  · subst hij
    rw [hi] at hj
    cases hj
    rfl
  · obtain ⟨d, rfl⟩ : ∃ d, i = j + d + 1 := ⟨i - j - 1, by omega⟩
    exact absurd h1 (apart hl ho hw d j g f hj hi)
theorem ovF_ovK {lo hi : List (BitVec 8)} (h : 1 ≤ hi.length) (f : Fl) : overF lo hi f = ovK lo hi f := by
  unfold overF ovK
  rw [decide_eq_false (show ¬ hi.length = 0 by omega), Bool.false_or]
structure Facts (LL : List (List Fl)) (z : Nat) (lo hi : List (BitVec 8)) (U LW : List Fl) : Prop where
  hU : U = (LL.getD z []).filter (ovK lo hi)
  hL : LW = (LL.getD (z + 1) []).filter (ovK lo hi)
  closed : Closed (LL.getD z []) lo hi
  some : ∃ f ∈ LL.getD z [], ovK lo hi f = true
  hi1 : 1 ≤ hi.length
theorem NextJ.facts {LL : List (List Fl)} {next seq log z : Nat} {lo hi : List (BitVec 8)} {U LW : List Fl} {least most : List (BitVec 8)} {bot : Bool} (h : wrongVF LL next seq log = false) (hz : z ≤ 3) (hj : NextJ LL next seq log z lo hi U LW least most bot) : Facts LL z lo hi U LW := by
  have h5 := len_of_ok h
  obtain ⟨l0, hl0⟩ : ∃ l, LL[z]? = some l := ⟨_, List.getElem?_eq_getElem (by omega)⟩
  obtain ⟨l1, hl1⟩ : ∃ l, LL[z + 1]? = some l := ⟨_, List.getElem?_eq_getElem (by omega)⟩
  have g0 : LL.getD z [] = l0 := by rw [List.getD, hl0]; rfl
  have g1 : LL.getD (z + 1) [] = l1 := by rw [List.getD, hl1]; rfl
  obtain ⟨hw, ho⟩ := levels_ok h hl0
  have hup := hj.up
  rw [g0] at hup
  obtain ⟨hc, hs, hh⟩ : Closed l0 lo hi ∧ (∃ f ∈ l0, ovK lo hi f = true) ∧ 1 ≤ hi.length := by
    unfold UpP at hup
    split at hup
    · obtain ⟨f0, hf0, hg, hc⟩ := hup
      have hm := List.mem_of_getElem? hf0
      obtain ⟨f, hf, rfl⟩ := hg.him
      have hle := (file_le (hw f0 hm)).1
      exact ⟨hc, ⟨f0, hm, ovK_iff.2 ⟨cle_trans hg.hold.1 hle, cle_trans hle hg.hold.2⟩⟩, (file_le (hw f hf)).2.2⟩
    · next hz0 =>
      obtain ⟨f, hf, rfl, rfl, _⟩ := hup
      have hle := (file_le (hw f hf)).1
      refine ⟨fun g hg hov => ?_, ⟨f, hf, ovK_iff.2 ⟨hle, hle⟩⟩, (file_le (hw f hf)).2.2⟩
      rw [only_one (by omega) ho hw hf hg hov]
      exact hoK_iff.2 ⟨cle_refl _, cle_refl _⟩
  have fe : overF lo hi = ovK lo hi := funext (ovF_ovK hh)
  refine ⟨?_, ?_, by rw [g0]; exact hc, by rw [g0]; exact hs, hh⟩
  · rw [hj.hU, g0, files_at' h (by omega) hl0, fe]
  · rw [hj.hL, g1, show ((z : Nat) : Int) + 1 = ((z + 1 : Nat) : Int) by omega, files_at' h (by omega) hl1, fe]
theorem ovL_iff {x y : Fl} : ovL x y = true ↔ cle y.least x.most ∧ cle x.least y.most := by
  unfold ovL
  rw [Bool.and_eq_true, decide_eq_true_iff, decide_eq_true_iff, clt_iff, clt_iff, Classical.not_not, Classical.not_not]
/-- What overlaps one of Upper is overlapped by its keys. -/
theorem Facts.over {LL : List (List Fl)} {z : Nat} {lo hi : List (BitVec 8)} {U LW : List Fl} (h : Facts LL z lo hi U LW) {u g : Fl} (hu : u ∈ U) (ho : ovL g u = true) : ovK lo hi g = true := by
  rw [h.hU, List.mem_filter] at hu
  obtain ⟨a1, a2⟩ := hoK_iff.1 (h.closed u hu.1 hu.2)
  obtain ⟨b1, b2⟩ := ovL_iff.1 ho
  exact ovK_iff.2 ⟨cle_trans a1 b1, cle_trans b2 a2⟩
theorem among_mem {l : List Fl} {f : Fl} (h : f ∈ l) : amongF l f.no = true := by
  unfold amongF
  rw [List.any_eq_true]
  exact ⟨f, h, by simp⟩
theorem Facts.here {LL : List (List Fl)} {z : Nat} {lo hi : List (BitVec 8)} {U LW : List Fl} (h : Facts LL z lo hi U LW) {u : Fl} (hu : u ∈ U) : amongF (LL.getD z []) u.no = true := by
  rw [h.hU, List.mem_filter] at hu
  exact among_mem hu.1
theorem Facts.up {LL : List (List Fl)} {z : Nat} {lo hi : List (BitVec 8)} {U LW : List Fl} (h : Facts LL z lo hi U LW) {u g : Fl} (hu : u ∈ U) (hg : g ∈ LL.getD z []) (ho : ovL g u = true) : amongF U g.no = true :=
  among_mem (by rw [h.hU, List.mem_filter]; exact ⟨hg, h.over hu ho⟩)
theorem Facts.low {LL : List (List Fl)} {z : Nat} {lo hi : List (BitVec 8)} {U LW : List Fl} (h : Facts LL z lo hi U LW) {u g : Fl} (hu : u ∈ U) (hg : g ∈ LL.getD (z + 1) []) (ho : ovL g u = true) : amongF LW g.no = true :=
  among_mem (by rw [h.hL, List.mem_filter]; exact ⟨hg, h.over hu ho⟩)
theorem Facts.ne {LL : List (List Fl)} {z : Nat} {lo hi : List (BitVec 8)} {U LW : List Fl} (h : Facts LL z lo hi U LW) : U ≠ [] := fun e => by
  obtain ⟨f, hf, ho⟩ := h.some
  have : f ∈ U := by rw [h.hU, List.mem_filter]; exact ⟨hf, ho⟩
  rw [e] at this
  cases this
theorem loF_ge {l : List Fl} : ∀ {hi : List (BitVec 8)}, 1 ≤ hi.length → (∀ f ∈ l, 1 ≤ f.most.length) → 1 ≤ (hiF l hi).length := by
  induction l with
  | nil => intro hi h _; exact h
  | cons f r ih =>
    intro hi h hf
    refine ih (hi := maxB f hi) ?_ fun g hg => hf g (List.mem_cons_of_mem _ hg)
    unfold maxB
    split
    · exact hf f List.mem_cons_self
    · exact h
/-- The bottom as the law goes over it. -/
def botL (LL : List (List Fl)) (z : Nat) (m : Fl) : Bool := (LL.drop (z + 2)).all fun l => l.all fun f => !ovL f m
theorem NextJ.bot_eq {LL : List (List Fl)} {next seq log z : Nat} {lo hi : List (BitVec 8)} {U LW : List Fl} {least most : List (BitVec 8)} {bot : Bool} (h : wrongVF LL next seq log = false) (hz : z ≤ 3) (hj : NextJ LL next seq log z lo hi U LW least most bot) (m : Fl) (h1 : m.least = least) (h2 : m.most = most) : botL LL z m = bot := by
  have hf := hj.facts h hz
  have h5 := len_of_ok h
  obtain ⟨l1, hl1⟩ : ∃ l, LL[z + 1]? = some l := ⟨_, List.getElem?_eq_getElem (by omega)⟩
  have g1 : LL.getD (z + 1) [] = l1 := by rw [List.getD, hl1]; rfl
  have hm : 1 ≤ most.length := by
    rw [hj.hm]
    refine loF_ge hf.hi1 fun f hx => ?_
    rw [hf.hL, g1, List.mem_filter] at hx
    exact (file_le ((levels_ok h hl1).1 f hx.1)).2.2
  rw [hj.hb]
  unfold deepF botL
  rw [h, decide_eq_false (show ¬ ((z : Nat) : Int) + 1 < 0 by omega), Bool.false_or, Bool.false_or, Bool.eq_iff_iff]
  have hov : ∀ f, ovL f m = overF least most f := fun f => by
    rw [ovF_ovK hm, Bool.eq_iff_iff, ovL_iff, ovK_iff, h1, h2]
  simp only [List.all_eq_true, Bool.not_eq_eq_eq_not, Bool.not_true, List.any_eq_false, Bool.and_eq_true, decide_eq_true_iff, not_and, List.any_eq_true, not_exists]
  constructor
  · intro ha p hp hlt f hff hof
    obtain ⟨l, k⟩ := p
    have hk := List.mem_zipIdx_iff_getElem?.1 hp
    simp only at hk hlt hff
    have hin : l ∈ LL.drop (z + 2) := by
      refine List.mem_of_getElem? (i := k - (z + 2)) ?_
      rw [List.getElem?_drop, show z + 2 + (k - (z + 2)) = k by omega, hk]
    have := ha l hin f hff
    rw [hov] at this
    rw [this] at hof
    cases hof
  · intro ha l hl f hff
    obtain ⟨i, hi⟩ := List.getElem?_of_mem hl
    rw [List.getElem?_drop] at hi
    have := ha (l, z + 2 + i) (List.mem_zipIdx_iff_getElem?.2 hi) (by simp only; omega) f hff
    rw [hov]
    cases hx : overF least most f with
    | false => rfl
    | true => exact absurd hx this
end Go.Proofs.Ytkmcdjbadngfgaa

/-
  Small versions: sums in 64 bits.
-/
namespace Go.Proofs.Ytkmcdjbadngfgaa
open Go.RowKit
set_option maxRecDepth 100000
set_option maxHeartbeats 4000000
def w64 (z : Int) : Int := IntKind.i64.wrap z
theorem wr64 (z : Int) : wrap64 z = IntKind.i64.wrap z := by rw [IntKind.wrap_i64]; unfold wrap64; omega
theorem w64_add (a b : Int) : IntKind.i64.wrap (w64 a + b) = w64 (a + b) := by
  unfold w64
  simp only [IntKind.wrap_i64]
  omega
theorem w64_small (z : Int) (h0 : 0 ≤ z) (h1 : z < 9223372036854775808) : w64 z = z := wrapI z (by omega) h1
def keysN (A : List Fl) : Nat := (A.map fun f => f.least.length + f.most.length).sum
end Go.Proofs.Ytkmcdjbadngfgaa

/-
  small.
-/
namespace Go.Proofs.Ytkmcdjbadngfgaa
open Go.RowKit
set_option maxRecDepth 100000
set_option maxHeartbeats 4000000
def levN (L : List Lv) : Nat := (L.map fun x => keysN (fls x.l)).sum
theorem levN_snoc (L : List Lv) (x : Lv) : levN (L ++ [x]) = levN L + keysN (fls x.l) := by simp [levN]
theorem keysN_snoc (l : List Fl) (f : Fl) : keysN (l ++ [f]) = keysN l + (f.least.length + f.most.length) := by simp [keysN]
theorem small_any (a : Option Addr) (n c next seq log : Nat) (L : List Lv) (w : World) (h : Levs w a L) (hn : n = L.length) (hmx : n ≤ reachBytes) (hl : ∀ x ∈ L, x.l.length ≤ reachBytes) :
    Calls Try.prog 14 #[verAgg a n c next seq log] w fun e w' => e = .returned (.bool (decide (n ≤ 10) && (decide (w64 (cnt L : Nat) ≤ 100) && decide (w64 (levN L : Nat) ≤ 10000)))) ∧ Turns (fun _ => False) w w' := by
  have TA := hide ((Turns.refl (fun _ => False) w).alloc (.cells #[.slice a n c, .int .u64 (next : Nat), .int .u64 (seq : Nat), .int .u64 (log : Nat)] 25))
  have R0 := hide (heap_alloc_new w (.cells #[.slice a n c, .int .u64 (next : Nat), .int .u64 (seq : Nat), .int .u64 (log : Nat)] 25))
  have HL := hide hn
  have HA := hide h
  have HX := hide hl
  unfold reachBytes at hmx
  have hmi : (n : Int) ≤ 140737488355328 := by omega
  clear hn h hl
  unfold verAgg
  go_enter Try.func14, Try.ntmps14
  go_wp2_with fail
  generalize w.alloc (.cells #[.slice a n c, .int .u64 (next : Nat), .int .u64 (seq : Nat), .int .u64 (log : Nat)] 25) = w0 at *
  generalize w.heap.size = g at *
  go_loopw [3, 4, 5] (fun sv bv iv wr => ∃ k : Nat, sv = .int .i64 (w64 (cnt (L.take k) : Nat)) ∧ bv = .int .i64 (w64 (levN (L.take k) : Nat)) ∧ iv = .int .i64 (k : Nat) ∧ k ≤ n ∧ Turns (fun _ => False) w0 wr) (fun _ _ iv _ => n - (intOf iv).toNat)
  case atStart => exact ⟨0, rfl, rfl, rfl, by omega, Turns.refl _ _⟩
  case round =>
    obtain ⟨k, rfl, rfl, rfl, hk, ht⟩ := hrel
    have TT := hide ht
    have p0 := ht.cell (cell_of_row w0 g 0 _ 25 (0, 0) R0.out) (fun x => x)
    by_cases hk2 : k < n
    · have i1 : (k : Int) < n := by omega
      have i0 : (0 : Int) ≤ (k : Int) := by omega
      have hkl : k < L.length := by have := HL.out; omega
      obtain ⟨⟨b, off, rfl, hc⟩, hfl⟩ := (HA.out.quiet (TA.out.trans ht)) k L[k] (List.getElem?_eq_getElem hkl)
      have HFL := hide hfl
      have hxl := HX.out L[k] (List.getElem_mem hkl)
      have HTK := hide (List.take_succ_eq_append_getElem hkl)
      have HC1 := hide (cnt_take (List.getElem?_eq_getElem hkl))
      have HC2 := hide (show levN (L.take (k + 1)) = levN (L.take k) + keysN (fls L[k].l) by rw [HTK.out, levN_snoc])
      generalize hLK : L[k] = x at *
      obtain ⟨xa, xc, xl⟩ := x
      have HLK := hide hLK
      clear hLK
      simp only at *
      clear ht hfl HTK
      unfold reachBytes at hxl
      go_wp2_with fail
      generalize hM : levN (L.take k) = M at *
      clear hM
      clear p0 hc
      have P0 := hide (fun (u : World) (t : Turns (fun _ => False) wr u) => t.cell ((TT.out).cell (cell_of_row w0 g 0 _ 25 (0, 0) R0.out) (fun x => x)) (fun x => x))
      have PC := hide (fun (u : World) (t : Turns (fun _ => False) wr u) => HA.out.quiet ((TA.out.trans TT.out).trans t))
      have HXL := hide (show L[k]? = some ⟨xa, xc, xl⟩ from by rw [List.getElem?_eq_getElem hkl, HLK.out])
      go_loopw [4, 6] (fun bv iv wq => ∃ q : Nat, bv = .int .i64 (w64 ((M + keysN (fls (xl.take q)) : Nat) : Int)) ∧ iv = .int .i64 (q : Nat) ∧ q ≤ xl.length ∧ Turns (fun _ => False) wr wq) (fun _ iv _ => xl.length - (intOf iv).toNat)
      case atStart => exact ⟨0, rfl, rfl, by omega, Turns.refl _ _⟩
      case round =>
        obtain ⟨q, rfl, rfl, hq, hu⟩ := hrel
        have UU := hide hu
        have p0 := P0.out _ hu
        obtain ⟨⟨b2, off2, e2, hc⟩, hfl⟩ := PC.out _ hu k _ HXL.out
        cases e2
        by_cases hq2 : q < xl.length
        · have j1 : (q : Int) < xl.length := by omega
          have j0 : (0 : Int) ≤ (q : Int) := by omega
          obtain ⟨b3, off3, rfl, h6, _⟩ := fc_of hfl (List.getElem?_eq_getElem hq2)
          have HWS := hide (show keysN (fls (xl.take (q + 1))) = keysN (fls (xl.take q)) + (xl[q].f.least.length + xl[q].f.most.length) from by rw [List.take_succ_eq_append_getElem hq2]; unfold fls; rw [List.map_append, List.map_singleton, keysN_snoc])
          have c2 := h6.c2
          have c3 := h6.c3
          generalize xl[q].f.least.length = L1 at *
          generalize xl[q].f.most.length = L2 at *
          clear h6 hfl hu
          generalize keysN (fls (xl.take q)) = kq at *
          have HQ := hide (show ∀ x y : Int, IntKind.i64.wrap (IntKind.i64.wrap (w64 ((M + kq : Nat) : Int) + x) + y) = w64 (((M + kq : Nat) : Int) + (x + y)) from fun x y => by
            rw [w64_add]
            unfold w64
            simp only [IntKind.wrap_i64]
            omega)
          generalize hz : w64 ((M + kq : Nat) : Int) = z at *
          clear hz
          go_wp2_with fail
          go_quiet (fail)
          go_wp2
          go_roundw
          case rel =>
            refine ⟨q + 1, ?_, by go_num, by omega, ?_⟩
            · rw [HWS.out, ← Nat.add_assoc, Int.natCast_add (M + kq), Int.natCast_add L1, ← HQ.out, wr64, wr64]
            · first
                | exact UU.out.drew
                | exact UU.out.drewN _
          case measure => simp [intOf]; omega
        · have j1 : ¬ (q : Int) < xl.length := by omega
          obtain rfl : q = xl.length := by omega
          have HKE := hide (show M + keysN (fls (xl.take xl.length)) = levN (L.take (k + 1)) from by rw [List.take_length]; exact HC2.out.symm)
          rw [HKE.out]
          have HCE := hide (show IntKind.i64.wrap (w64 (cnt (L.take k) : Nat) + xl.length) = w64 (cnt (L.take (k + 1)) : Nat) from by rw [w64_add, HC1.out, Int.natCast_add])
          clear hfl hu
          go_wp2_with fail
          go_roundw
          case rel => exact ⟨k + 1, by rw [← HCE.out, wr64], rfl, by go_num, by omega, TT.out.trans UU.out⟩
          case measure => simp [intOf]; omega
    · have i1 : ¬ (k : Int) < n := by omega
      have hkn : k = n := by omega
      have HK := hide hkn
      have hT : L.take k = L := by rw [HK.out, HL.out, List.take_length]
      rw [hT]
      generalize hz : w64 (levN L : Nat) = z at *
      generalize hy : w64 (cnt L : Nat) = y at *
      have HZ2 := hide hz
      have HY2 := hide hy
      clear hk hk2 hkn ht hz hy hT
      by_cases h1 : (n : Int) ≤ 10
      · have g1 : n ≤ 10 := by omega
        by_cases h2 : y ≤ 100
        · by_cases h3 : z ≤ 10000
          · have HF := hide (show (decide (n ≤ 10) && (decide (y ≤ 100) && decide (z ≤ 10000))) = true by simp [g1, h2, h3])
            clear g1
            go_wp2_with fail
            go_ret
            exact ⟨by rw [HZ2.out, HY2.out, HF.out]; rfl, TA.out.trans TT.out⟩
          · have HF := hide (show (decide (n ≤ 10) && (decide (y ≤ 100) && decide (z ≤ 10000))) = false by simp [h3])
            clear g1
            go_wp2_with fail
            go_ret
            exact ⟨by rw [HZ2.out, HY2.out, HF.out]; rfl, TA.out.trans TT.out⟩
        · have HF := hide (show (decide (n ≤ 10) && (decide (y ≤ 100) && decide (z ≤ 10000))) = false by simp [h2])
          clear g1
          go_wp2_with fail
          go_ret
          exact ⟨by rw [HZ2.out, HY2.out, HF.out]; rfl, TA.out.trans TT.out⟩
      · have g1 : ¬ n ≤ 10 := by omega
        have HF := hide (show (decide (n ≤ 10) && (decide (y ≤ 100) && decide (z ≤ 10000))) = false by simp [g1])
        clear g1
        go_wp2_with fail
        go_ret
        exact ⟨by rw [HZ2.out, HY2.out, HF.out]; rfl, TA.out.trans TT.out⟩
end Go.Proofs.Ytkmcdjbadngfgaa
