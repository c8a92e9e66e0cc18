import Derived.Test.YtmmcikbedegigaaM25
/-
  The document's Apply.
-/
namespace Go.Proofs.Ytmmcikbedegigaa
open Go.RowKit
set_option maxRecDepth 100000
set_option maxHeartbeats 4000000
theorem dq_len {LL Q : List (List Fl)} {m : Nat → Option Int} (h : Dq LL m Q) (hb : ∀ l ∈ LL, l.length ≤ 10000) {t : Nat} {l : List Fl} (hl : Q[t]? = some l) : l.length ≤ 10000 := by
  rw [h.eq, List.getElem?_map, Option.map_eq_some_iff] at hl
  obtain ⟨l0, h0, rfl⟩ := hl
  exact Nat.le_trans (List.length_filter_le _ _) (hb l0 (List.mem_of_getElem? h0))
theorem aq_wt {Q Y : List (List Fl)} {A : List AddF} {i : Nat} (f : Fl → Nat) (h : Aq Q A i Y) : wt f Y ≤ wt f Q + ((A.take i).map fun d => f d.2).sum := wt_comes f h.qlen ⟨h.len, h.per⟩
theorem sum_take_le (f : AddF → Nat) (A : List AddF) (i : Nat) : ((A.take i).map f).sum ≤ (A.map f).sum := by
  have : (A.map f).sum = ((A.take i).map f).sum + ((A.drop i).map f).sum := by rw [← List.sum_append, ← List.map_append, List.take_append_drop]
  omega
theorem sum_one (A : List AddF) : (A.map fun _ => 1).sum = A.length := by
  induction A with
  | nil => rfl
  | cons a r ih => simp only [List.map_cons, List.sum_cons, List.length_cons]; omega
theorem aq_least {Q Y : List (List Fl)} {A : List AddF} {i : Nat} (h : Aq Q A i Y) (hQ : ∀ (k : Nat) (l : List Fl), Q[k]? = some l → ∀ f ∈ l, f.least.length ≤ 1000000) (hA : ∀ d ∈ A, d.2.least.length ≤ 1000000) (k : Nat) (l : List Fl) (hl : Y[k]? = some l) : ∀ f ∈ l, f.least.length ≤ 1000000 := fun f hf => by
  have hk := (List.getElem?_eq_some_iff.1 hl).1
  have h1 := h.len
  have h2 := h.qlen
  obtain ⟨l0, h0⟩ : ∃ l0, Q[k]? = some l0 := ⟨_, List.getElem?_eq_getElem (by omega)⟩
  rcases List.mem_append.1 ((h.per k l0 l h0 hl).1.mem_iff.1 hf) with h3 | h3
  · exact hQ k l0 h0 f h3
  · unfold onF at h3
    obtain ⟨d, hd, rfl⟩ := List.mem_map.1 h3
    exact hA d (List.mem_of_mem_take (List.mem_filter.1 hd).1)
theorem aq_nofit {Q Y : List (List Fl)} {A : List AddF} {i : Nat} (h : Aq Q A i Y) (hQ : ∀ n ∈ numsF Q, n < 18446744073709551616) (hA : ∀ d ∈ A, d.2.no < 18446744073709551616) : ∀ n ∈ numsF Y, n < 18446744073709551616 := fun n hn => by
  rcases h.nums hn with h1 | h1
  · exact hQ n h1
  · obtain ⟨d, hd, rfl⟩ := List.mem_map.1 h1
    exact hA d (List.mem_of_mem_take hd)
theorem rapply_any (a : Option Addr) (n c next seq log : Nat) (L : List Lv) (da : Option Addr) (dn dc : Nat) (aa : Option Addr) (an ac en es el : Nat) (D : List (Int × Nat)) (A : List (Int × Tf)) (w : World) (h : VerIn w a n L next seq log) (hE : EdIn w da dn aa an D A en es el)
    (hcn : cnt L + an ≤ 5000) (hby : byts L + ((fA A).map fun d => keyF d.2).sum ≤ 600000) :
    Calls Try.prog 15 #[verAgg a n c next seq log, edAgg da dn dc aa an ac en es el] w fun e w' => Turns (fun _ => False) w w' ∧ RApplied w' (flL L) next seq log D (fA A) en es el e := by
  have H := hide h
  have HE := hide hE
  have HCN := hide hcn
  have HBY := hide hby
  have TA := hide ((((Turns.refl (fun _ => False) w).alloc (.cells #[.slice a n c, .int .u64 (next : Nat), .int .u64 (seq : Nat), .int .u64 (log : Nat)] 25)).alloc (.cells #[.slice da dn dc, .slice aa an ac, .int .u64 (en : Nat), .int .u64 (es : Nat), .int .u64 (el : Nat)] 33)).alloc (.cells #[.slice none 0 0, .int .u64 0, .int .u64 0, .int .u64 0] 25))
  have G0 := hide (show (((w.alloc (.cells #[.slice a n c, .int .u64 (next : Nat), .int .u64 (seq : Nat), .int .u64 (log : Nat)] 25)).alloc (.cells #[.slice da dn dc, .slice aa an ac, .int .u64 (en : Nat), .int .u64 (es : Nat), .int .u64 (el : Nat)] 33)).alloc (.cells #[.slice none 0 0, .int .u64 0, .int .u64 0, .int .u64 0] 25)).heap[w.heap.size]? = some (.cells #[.slice a n c, .int .u64 (next : Nat), .int .u64 (seq : Nat), .int .u64 (log : Nat)] 25) from ((((Turns.refl (fun _ => False) (w.alloc (.cells #[.slice a n c, .int .u64 (next : Nat), .int .u64 (seq : Nat), .int .u64 (log : Nat)] 25))).alloc (.cells #[.slice da dn dc, .slice aa an ac, .int .u64 (en : Nat), .int .u64 (es : Nat), .int .u64 (el : Nat)] 33)).alloc (.cells #[.slice none 0 0, .int .u64 0, .int .u64 0, .int .u64 0] 25)).heap (heap_alloc_new w (.cells #[.slice a n c, .int .u64 (next : Nat), .int .u64 (seq : Nat), .int .u64 (log : Nat)] 25)) (fun x => x)))
  have G1 := hide (show (((w.alloc (.cells #[.slice a n c, .int .u64 (next : Nat), .int .u64 (seq : Nat), .int .u64 (log : Nat)] 25)).alloc (.cells #[.slice da dn dc, .slice aa an ac, .int .u64 (en : Nat), .int .u64 (es : Nat), .int .u64 (el : Nat)] 33)).alloc (.cells #[.slice none 0 0, .int .u64 0, .int .u64 0, .int .u64 0] 25)).heap[w.heap.size + 1]? = some (.cells #[.slice da dn dc, .slice aa an ac, .int .u64 (en : Nat), .int .u64 (es : Nat), .int .u64 (el : Nat)] 33) from (((Turns.refl (fun _ => False) ((w.alloc (.cells #[.slice a n c, .int .u64 (next : Nat), .int .u64 (seq : Nat), .int .u64 (log : Nat)] 25)).alloc (.cells #[.slice da dn dc, .slice aa an ac, .int .u64 (en : Nat), .int .u64 (es : Nat), .int .u64 (el : Nat)] 33))).alloc (.cells #[.slice none 0 0, .int .u64 0, .int .u64 0, .int .u64 0] 25)).heap (by have := heap_alloc_new (w.alloc (.cells #[.slice a n c, .int .u64 (next : Nat), .int .u64 (seq : Nat), .int .u64 (log : Nat)] 25)) (.cells #[.slice da dn dc, .slice aa an ac, .int .u64 (en : Nat), .int .u64 (es : Nat), .int .u64 (el : Nat)] 33); rwa [show (w.alloc (.cells #[.slice a n c, .int .u64 (next : Nat), .int .u64 (seq : Nat), .int .u64 (log : Nat)] 25)).heap.size = w.heap.size + 1 by simp] at this) (fun x => x)))
  have G2 := hide (show (((w.alloc (.cells #[.slice a n c, .int .u64 (next : Nat), .int .u64 (seq : Nat), .int .u64 (log : Nat)] 25)).alloc (.cells #[.slice da dn dc, .slice aa an ac, .int .u64 (en : Nat), .int .u64 (es : Nat), .int .u64 (el : Nat)] 33)).alloc (.cells #[.slice none 0 0, .int .u64 0, .int .u64 0, .int .u64 0] 25)).heap[w.heap.size + 1 + 1]? = some (.cells #[.slice none 0 0, .int .u64 0, .int .u64 0, .int .u64 0] 25) from by have := heap_alloc_new ((w.alloc (.cells #[.slice a n c, .int .u64 (next : Nat), .int .u64 (seq : Nat), .int .u64 (log : Nat)] 25)).alloc (.cells #[.slice da dn dc, .slice aa an ac, .int .u64 (en : Nat), .int .u64 (es : Nat), .int .u64 (el : Nat)] 33)) (.cells #[.slice none 0 0, .int .u64 0, .int .u64 0, .int .u64 0] 25); rwa [show ((w.alloc (.cells #[.slice a n c, .int .u64 (next : Nat), .int .u64 (seq : Nat), .int .u64 (log : Nat)] 25)).alloc (.cells #[.slice da dn dc, .slice aa an ac, .int .u64 (en : Nat), .int .u64 (es : Nat), .int .u64 (el : Nat)] 33)).heap.size = w.heap.size + 1 + 1 by simp] at this)
  have HS0 := hide (show w.heap.size + 1 + 1 < (((w.alloc (.cells #[.slice a n c, .int .u64 (next : Nat), .int .u64 (seq : Nat), .int .u64 (log : Nat)] 25)).alloc (.cells #[.slice da dn dc, .slice aa an ac, .int .u64 (en : Nat), .int .u64 (es : Nat), .int .u64 (el : Nat)] 33)).alloc (.cells #[.slice none 0 0, .int .u64 0, .int .u64 0, .int .u64 0] 25)).heap.size by simp)
  have CK := hide (rcheck_any a n c next seq log L _ (h.quiet TA.out))
  unfold verAgg edAgg at *
  clear h hE hcn hby
  by_cases hw : wrongV L next seq log = true
  · rw [show chkV L next seq log = 2 by unfold chkV; rw [if_pos hw]] at CK
    have HWV := hide (show wrongVF (flL L) next seq log = true by rw [← wrongV_F]; exact hw)
    clear hw
    go_enter Try.func15, Try.ntmps15
    go_wp2_with fail
    generalize ((w.alloc (.cells #[.slice a n c, .int .u64 (next : Nat), .int .u64 (seq : Nat), .int .u64 (log : Nat)] 25)).alloc (.cells #[.slice da dn dc, .slice aa an ac, .int .u64 (en : Nat), .int .u64 (es : Nat), .int .u64 (el : Nat)] 33)).alloc (.cells #[.slice none 0 0, .int .u64 0, .int .u64 0, .int .u64 0] 25) = w0 at *
    generalize hP : w.heap.size = P at *
    have HP := hide hP
    clear hP
    refine CK.out.mono ?_
    rintro e w1 ⟨rfl, t1⟩
    have T1 := hide (TA.out.trans t1)
    have G3 := hide (t1.heap G2.out (fun x => x))
    clear t1
    have rz0 := cell_of_row w1 (P + 1 + 1) 0 _ 25 (0, 0) G3.out
    have zz0 := frozen_of_row w1 (P + 1 + 1) 0 _ 25 G3.out
    have rz1 := cell_of_row w1 (P + 1 + 1) 1 _ 25 (0, 0) G3.out
    have zz1 := frozen_of_row w1 (P + 1 + 1) 1 _ 25 G3.out
    have rz2 := cell_of_row w1 (P + 1 + 1) 2 _ 25 (0, 0) G3.out
    have zz2 := frozen_of_row w1 (P + 1 + 1) 2 _ 25 G3.out
    have rz3 := cell_of_row w1 (P + 1 + 1) 3 _ 25 (0, 0) G3.out
    have zz3 := frozen_of_row w1 (P + 1 + 1) 3 _ 25 G3.out
    go_wp2_with fail
    have tk := (((((Tick.refl G3.out).set 0 (.slice none 0 0)).set 1 (.int .u64 0)).set 2 (.int .u64 0)).set 3 (.int .u64 0))
    refine bodyPost_ret (v := .tuple #[.agg #[.slice none 0 0, .int .u64 0, .int .u64 0, .int .u64 0], .int .i64 2]) ?_ rfl ?_
    · exact results_cell_tmp Try.results15 _ _ _ _ _ _ _ _ rfl rfl tk.1 Try.underlying25 rfl sz25
    · exact ⟨(T1.out).andThen (Turns.of_tick tk) (fun j hj e => by have := HP.out; omega), _, 2, none, rfl, ApplyR.wrong HWV.out, fun _ => rfl, fun _ h => by cases h⟩
  rw [Bool.not_eq_true] at hw
  rw [show chkV L next seq log = 0 by unfold chkV; rw [if_neg (by rw [hw]; simp)]] at CK
  have HWF := hide (show wrongVF (flL L) next seq log = false by rw [← wrongV_F]; exact hw)
  have h5 : L.length = 5 := by have := len_of_ok HWF.out; rwa [flL_length] at this
  obtain rfl : n = 5 := by have := H.out.len; omega
  have HKL := hide (fun (x : Lv) (hx : x ∈ L) (y : Tf) (hy : y ∈ x.l) => show y.f.least.length ≤ 1000000 ∧ y.f.most.length ≤ 1000000 by
    have := wrongF_false (wrongV_files hw x hx y hy)
    omega)
  have HL5 := hide h5
  have HCL := hide (show ∀ l ∈ flL L, l.length ≤ 10000 from fun l hl => by
    obtain ⟨x, hx, rfl⟩ := List.mem_map.1 hl
    obtain ⟨t, ht⟩ := List.getElem?_of_mem hx
    have q1 := cnt_take_le L (t + 1)
    have q2 := cnt_take ht
    have q3 := H.out.cnt
    simp only [fls, List.length_map]
    omega)
  clear hw h5
  go_enter Try.func15, Try.ntmps15
  go_wp2_with fail
  generalize ((w.alloc (.cells #[.slice a 5 c, .int .u64 (next : Nat), .int .u64 (seq : Nat), .int .u64 (log : Nat)] 25)).alloc (.cells #[.slice da dn dc, .slice aa an ac, .int .u64 (en : Nat), .int .u64 (es : Nat), .int .u64 (el : Nat)] 33)).alloc (.cells #[.slice none 0 0, .int .u64 0, .int .u64 0, .int .u64 0] 25) = w0 at *
  generalize hP : w.heap.size = P at *
  have HP := hide hP
  clear hP
  refine CK.out.mono ?_
  rintro e w1 ⟨rfl, t1⟩
  have T1 := hide t1
  have r1 := t1.heap G0.out (fun x => x)
  have e0 := cell_of_row w1 P 0 _ 25 (0, 0) r1
  have e1 := cell_of_row w1 P 1 _ 25 (0, 0) r1
  have e2 := cell_of_row w1 P 2 _ 25 (0, 0) r1
  have e3 := cell_of_row w1 P 3 _ 25 (0, 0) r1
  have CC := hide (rcopied_any a 5 c next seq log L w1 (H.out.quiet (TA.out.trans t1)) (by omega) HKL.out)
  unfold verAgg at CC
  clear t1 r1
  go_wp2_with fail
  refine CC.out.mono ?_
  rintro e w2 ⟨la, ln, lc, Lc, rfl, hln, hfl, hds, t2⟩
  have hlc5 : Lc.length = 5 := by have := congrArg List.length hfl; rw [flL_length, flL_length, HL5.out] at this; exact this
  obtain rfl : ln = 5 := by omega
  have T2 := hide (T1.out.trans t2)
  have AZ0 := hide (show Az w (w2.alloc (.cells #[.slice la 5 lc, .int .u64 (next : Nat), .int .u64 (seq : Nat), .int .u64 (log : Nat)] 25)) w2.heap.size #[.slice da dn dc, .slice aa an ac, .int .u64 (en : Nat), .int .u64 (es : Nat), .int .u64 (el : Nat)] la lc (.int .u64 (next : Nat)) (.int .u64 (seq : Nat)) (.int .u64 (log : Nat)) Lc from
    ⟨by rw [HP.out]; exact (T2.out.alloc _).heap G1.out (fun x => x), by rw [HP.out]; exact (T2.out.alloc _).heap G2.out (fun x => x), heap_alloc_new _ _, by have := T2.out.size; have := HS0.out; have := HP.out; omega, (hds.quiet ((Turns.refl _ _).alloc _)).mono (by have := T1.out.size; have := TA.out.size; omega), hlc5, TA.out.trans (T2.out.alloc _)⟩)
  have HFL0 := hide hfl
  clear hln hfl hds t2 hlc5 e0 e1 e2 e3
  go_wp2_with fail
  generalize w2.alloc (.cells #[.slice la 5 lc, .int .u64 (next : Nat), .int .u64 (seq : Nat), .int .u64 (log : Nat)] 25) = w3 at *
  generalize hO : w2.heap.size = O at *
  obtain ⟨g, rfl, hg, hlc, _⟩ := AZ0.out.base
  have HDL := hide HE.out.dlen
  have hdi : (dn : Int) ≤ 1000 := by have := HE.out.dmx; omega
  clear hO hg
  go_loopw [8] (fun i wr => ∃ (k : Nat) (Lc : List Lv) (m : Nat → Option Int), i = .int .i64 (k : Nat) ∧ k ≤ dn ∧ Az w wr O #[.slice da dn dc, .slice aa an ac, .int .u64 (en : Nat), .int .u64 (es : Nat), .int .u64 (el : Nat)] (some ⟨g, 0, none⟩) lc (.int .u64 (next : Nat)) (.int .u64 (seq : Nat)) (.int .u64 (log : Nat)) Lc ∧ Dq (flL L) m (flL Lc) ∧ dropsP (mp (pairsF (flL L))) D = dropsP m (D.drop k)) (fun i _ => dn - (intOf i).toNat)
  case atStart => exact ⟨0, Lc, _, rfl, Nat.zero_le _, AZ0.out, by rw [HFL0.out]; exact Dq.start (nodup_of_ok HWF.out), by rw [List.drop_zero]⟩
  case round =>
    clear AZ0 HFL0
    obtain ⟨k, Lc, m, rfl, hk, haz, hdq, hdp⟩ := hrel
    have AZ := hide haz
    have HDQ := hide hdq
    have HDP := hide hdp
    have ez : wr.heap[P + 1]? = some (.cells #[.slice da dn dc, .slice aa an ac, .int .u64 (en : Nat), .int .u64 (es : Nat), .int .u64 (el : Nat)] 33) := by have := haz.he; rwa [HP.out] at this
    have e0 := cell_of_row wr (P + 1) 0 _ 33 (0, 0) ez
    have e1 := cell_of_row wr (P + 1) 1 _ 33 (0, 0) ez
    have EZ := hide ez
    clear haz hdq hdp ez
    by_cases hkn : k < dn
    · obtain ⟨d, hd⟩ : ∃ d, D[k]? = some d := ⟨_, List.getElem?_eq_getElem (by have := HDL.out; omega)⟩
      obtain ⟨hd2, b, off, rfl, d1, d2⟩ := (HE.out.drops.quiet AZ.out.tw) k d hd
      obtain ⟨lv, no⟩ := d
      simp only at *
      have i1 : (k : Int) < (dn : Int) := by omega
      have i0 : (0 : Int) ≤ (k : Int) := by omega
      have HD := hide hd
      have TX := hide ((Turns.refl (fun _ => False) wr).alloc (.cells #[.int .i64 lv, .int .u64 (no : Nat)] 64))
      have AZX := hide (AZ.out.quiet TX.out)
      have HZX := hide (show (wr.alloc (.cells #[.int .i64 lv, .int .u64 (no : Nat)] 64)).heap[P + 1 + 1]? = some (.cells #[.slice none 0 0, .int .u64 0, .int .u64 0, .int .u64 0] 25) by have := AZX.out.hz; rwa [HP.out] at this)
      have HXN := hide (show ∀ (t : Nat) (l : List Fl), (flL Lc)[t]? = some l → l.length ≤ 10000 from fun t l hl => dq_len HDQ.out HCL.out hl)
      have RX := hide (heap_alloc_new wr (.cells #[.int .i64 lv, .int .u64 (no : Nat)] 64))
      clear hd
      by_cases hlv : lv < 0 ∨ 5 ≤ lv
      · have HAR := hide (show ApplyR (flL L) next seq log D (fA A) en es el none 6 from ApplyR.gone HWF.out (by
          rw [dropsP_drop HD.out HDP.out, if_neg (HDQ.out.miss (by rw [flL_length, HL5.out]) (.inl (by omega)))]))
        by_cases hl0 : lv < 0
        · clear hlv
          have rz0 := cell_of_row (wr.alloc (.cells #[.int .i64 lv, .int .u64 (no : Nat)] 64)) (P + 1 + 1) 0 _ 25 (0, 0) HZX.out
          have zz0 := frozen_of_row (wr.alloc (.cells #[.int .i64 lv, .int .u64 (no : Nat)] 64)) (P + 1 + 1) 0 _ 25 HZX.out
          have rz1 := cell_of_row (wr.alloc (.cells #[.int .i64 lv, .int .u64 (no : Nat)] 64)) (P + 1 + 1) 1 _ 25 (0, 0) HZX.out
          have zz1 := frozen_of_row (wr.alloc (.cells #[.int .i64 lv, .int .u64 (no : Nat)] 64)) (P + 1 + 1) 1 _ 25 HZX.out
          have rz2 := cell_of_row (wr.alloc (.cells #[.int .i64 lv, .int .u64 (no : Nat)] 64)) (P + 1 + 1) 2 _ 25 (0, 0) HZX.out
          have zz2 := frozen_of_row (wr.alloc (.cells #[.int .i64 lv, .int .u64 (no : Nat)] 64)) (P + 1 + 1) 2 _ 25 HZX.out
          have rz3 := cell_of_row (wr.alloc (.cells #[.int .i64 lv, .int .u64 (no : Nat)] 64)) (P + 1 + 1) 3 _ 25 (0, 0) HZX.out
          have zz3 := frozen_of_row (wr.alloc (.cells #[.int .i64 lv, .int .u64 (no : Nat)] 64)) (P + 1 + 1) 3 _ 25 HZX.out
          go_wp2_with fail
          have tk := (((((Tick.refl HZX.out).set 0 (.slice none 0 0)).set 1 (.int .u64 0)).set 2 (.int .u64 0)).set 3 (.int .u64 0))
          refine bodyPost_ret (v := .tuple #[.agg #[.slice none 0 0, .int .u64 0, .int .u64 0, .int .u64 0], .int .i64 6]) ?_ rfl ?_
          · exact results_cell_tmp Try.results15 _ _ _ _ _ _ _ _ rfl rfl tk.1 Try.underlying25 rfl sz25
          · exact ⟨(AZX.out.tw).andThen (Turns.of_tick tk) (fun j hj e => by have := HP.out; omega), _, 6, none, rfl, HAR.out, fun _ => rfl, fun _ h => by cases h⟩
        · have hl5 : 5 ≤ lv := by omega
          clear hlv
          have rz0 := cell_of_row (wr.alloc (.cells #[.int .i64 lv, .int .u64 (no : Nat)] 64)) (P + 1 + 1) 0 _ 25 (0, 0) HZX.out
          have zz0 := frozen_of_row (wr.alloc (.cells #[.int .i64 lv, .int .u64 (no : Nat)] 64)) (P + 1 + 1) 0 _ 25 HZX.out
          have rz1 := cell_of_row (wr.alloc (.cells #[.int .i64 lv, .int .u64 (no : Nat)] 64)) (P + 1 + 1) 1 _ 25 (0, 0) HZX.out
          have zz1 := frozen_of_row (wr.alloc (.cells #[.int .i64 lv, .int .u64 (no : Nat)] 64)) (P + 1 + 1) 1 _ 25 HZX.out
          have rz2 := cell_of_row (wr.alloc (.cells #[.int .i64 lv, .int .u64 (no : Nat)] 64)) (P + 1 + 1) 2 _ 25 (0, 0) HZX.out
          have zz2 := frozen_of_row (wr.alloc (.cells #[.int .i64 lv, .int .u64 (no : Nat)] 64)) (P + 1 + 1) 2 _ 25 HZX.out
          have rz3 := cell_of_row (wr.alloc (.cells #[.int .i64 lv, .int .u64 (no : Nat)] 64)) (P + 1 + 1) 3 _ 25 (0, 0) HZX.out
          have zz3 := frozen_of_row (wr.alloc (.cells #[.int .i64 lv, .int .u64 (no : Nat)] 64)) (P + 1 + 1) 3 _ 25 HZX.out
          go_wp2_with fail
          have tk := (((((Tick.refl HZX.out).set 0 (.slice none 0 0)).set 1 (.int .u64 0)).set 2 (.int .u64 0)).set 3 (.int .u64 0))
          refine bodyPost_ret (v := .tuple #[.agg #[.slice none 0 0, .int .u64 0, .int .u64 0, .int .u64 0], .int .i64 6]) ?_ rfl ?_
          · exact results_cell_tmp Try.results15 _ _ _ _ _ _ _ _ rfl rfl tk.1 Try.underlying25 rfl sz25
          · exact ⟨(AZX.out.tw).andThen (Turns.of_tick tk) (fun j hj e => by have := HP.out; omega), _, 6, none, rfl, HAR.out, fun _ => rfl, fun _ h => by cases h⟩
      · obtain ⟨lev, rfl⟩ : ∃ lev : Nat, lv = lev := ⟨lv.toNat, by omega⟩
        have l0 : (0 : Int) ≤ (lev : Int) := by omega
        have l5 : (lev : Int) < 5 := by omega
        obtain ⟨x, hx⟩ : ∃ x, Lc[lev]? = some x := ⟨_, List.getElem?_eq_getElem (by have := AZ.out.len; omega)⟩
        clear hlv
        have HX := hide hx
        have HXF := hide (show (flL Lc)[lev]? = some (fls x.l) from flL_at hx)
        have hcl := (AZX.out.ds.levs lev x hx).1
        have HFI := hide (AZX.out.ds.levs lev x hx).2
        have HXR := hide (AZX.out.ds.rows x (List.mem_of_getElem? hx))
        have HXT := hide (AZX.out.ds.files x (List.mem_of_getElem? hx))
        have HXL := hide (show x.l.length ≤ 10000 by
          have h1 := HXN.out lev (fls x.l) HXF.out
          simpa [fls] using h1)
        obtain ⟨g', o', eg, hcl⟩ := hcl
        cases eg
        rw [Nat.zero_add] at hcl
        have CP := hide (fun (u : World) (t : Turns (fun _ => False) (wr.alloc (.cells #[.int .i64 ((lev : Nat) : Int), .int .u64 (no : Nat)] 64)) u) => rplace_any x.a x.l.length x.c no x.l u (HFI.out.quiet t) rfl (by have := HXL.out; omega))
        obtain ⟨xa, xc, xl⟩ := x
        simp only at *
        generalize hXL : xl.length = XL at *
        have HXN2 := hide hXL
        have o0 := cell_of_row _ O 0 _ 25 (0, 0) AZX.out.ho
        have SK := hide (fun (u : World) (t : Turns (fun _ => False) (wr.alloc (.cells #[.int .i64 ((lev : Nat) : Int), .int .u64 (no : Nat)] 64)) u) => show (fun u => u.cell? ⟨O, 0, none⟩ = some (.slice (some ⟨g, 0, none⟩) 5 lc) ∧ u.cell? ⟨wr.heap.size, 0, none⟩ = some (.int .i64 ((lev : Nat) : Int)) ∧ u.cell? ⟨wr.heap.size, 1, none⟩ = some (.int .u64 (no : Nat)) ∧ u.cell? ⟨g, lev, none⟩ = some (.slice xa XL xc)) u from ⟨t.cell o0 (fun x => x), t.cell (cell_of_row _ wr.heap.size 0 _ 64 (0, 0) RX.out) (fun x => x), t.cell (cell_of_row _ wr.heap.size 1 _ 64 (0, 0) RX.out) (fun x => x), t.cell hcl (fun x => x)⟩)
        clear hx hcl hXL o0
        go_upto_region 11 with (fail)
        generalize wr.alloc (.cells #[.int .i64 ((lev : Nat) : Int), .int .u64 (no : Nat)] 64) = wA at *
        generalize wr.heap.size = X at *
        have tV : Turns (fun _ => False) wA wA.drew := (Turns.refl _ _).drew
        refine wp_region_held_drew (S := fun u => u.cell? ⟨O, 0, none⟩ = some (.slice (some ⟨g, 0, none⟩) 5 lc) ∧ u.cell? ⟨X, 0, none⟩ = some (.int .i64 ((lev : Nat) : Int)) ∧ u.cell? ⟨X, 1, none⟩ = some (.int .u64 (no : Nat)) ∧ u.cell? ⟨g, lev, none⟩ = some (.slice xa XL xc)) (by kernel_rfl) (SK.out _ tV) (fun _ => ?_)
        change wpAnyH _ _ _ _ _ 10 (Array.replicate 10 false) _ _
        refine wpAnyH_take (i := 0) (oi := { dst := some 44, op := Op.fieldAddr 25 (Operand.tmp 7) 0, type := 0, pos := "ref.go:136", after := #[], guard := none }) (v := .pointer (some ⟨O, 0, none⟩)) rfl (by kernel_rfl) (by kernel_rfl) (by kernel_rfl) (fun _ _ _ h => h) (Or.inl ⟨by rfl, ?_⟩) (SK.out _ tV) ?_
        · rintro w ⟨d0, d1, d2, d3⟩
          go_simp
        simp only [Act.put, List.setIfInBounds_toArray, List.set_cons_zero, List.set_cons_succ]
        refine wpAnyH_take (i := 1) (oi := { dst := some 45, op := Op.load 22 (Operand.tmp 44), type := 22, pos := "ref.go:136", after := #[{ on := 0, ground := Ground.data }], guard := none }) (v := .slice (some ⟨g, 0, none⟩) 5 lc) rfl (by kernel_rfl) (by kernel_rfl) (by kernel_rfl) (fun _ _ _ h => h) (Or.inl ⟨by rfl, ?_⟩) (SK.out _ tV) ?_
        · rintro w ⟨d0, d1, d2, d3⟩
          go_simp
        simp only [Act.put, List.setIfInBounds_toArray, List.set_cons_zero, List.set_cons_succ]
        refine wpAnyH_take (i := 2) (oi := { dst := some 46, op := Op.fieldAddr 64 (Operand.tmp 9) 0, type := 0, pos := "ref.go:136", after := #[], guard := none }) (v := .pointer (some ⟨X, 0, none⟩)) rfl (by kernel_rfl) (by kernel_rfl) (by kernel_rfl) (fun _ _ _ h => h) (Or.inl ⟨by rfl, ?_⟩) (SK.out _ tV) ?_
        · rintro w ⟨d0, d1, d2, d3⟩
          go_simp
        simp only [Act.put, List.setIfInBounds_toArray, List.set_cons_zero, List.set_cons_succ]
        refine wpAnyH_take (i := 3) (oi := { dst := some 47, op := Op.load 3 (Operand.tmp 46), type := 3, pos := "ref.go:136", after := #[{ on := 2, ground := Ground.data }], guard := none }) (v := .int .i64 ((lev : Nat) : Int)) rfl (by kernel_rfl) (by kernel_rfl) (by kernel_rfl) (fun _ _ _ h => h) (Or.inl ⟨by rfl, ?_⟩) (SK.out _ tV) ?_
        · rintro w ⟨d0, d1, d2, d3⟩
          go_simp
        simp only [Act.put, List.setIfInBounds_toArray, List.set_cons_zero, List.set_cons_succ]
        refine wpAnyH_take (i := 4) (oi := { dst := some 48, op := Op.indexAddr 22 (Operand.tmp 45) (Operand.tmp 47), type := 0, pos := "ref.go:136", after := #[{ on := 1, ground := Ground.data }, { on := 3, ground := Ground.data }], guard := none }) (v := .pointer (some ⟨g, lev, none⟩)) rfl (by kernel_rfl) (by kernel_rfl) (by kernel_rfl) (fun _ _ _ h => h) (Or.inl ⟨by rfl, ?_⟩) (SK.out _ tV) ?_
        · rintro w ⟨d0, d1, d2, d3⟩
          go_simp
        simp only [Act.put, List.setIfInBounds_toArray, List.set_cons_zero, List.set_cons_succ]
        refine wpAnyH_take (i := 5) (oi := { dst := some 49, op := Op.load 50 (Operand.tmp 48), type := 50, pos := "ref.go:136", after := #[{ on := 4, ground := Ground.data }], guard := none }) (v := .slice xa XL xc) rfl (by kernel_rfl) (by kernel_rfl) (by kernel_rfl) (fun _ _ _ h => h) (Or.inl ⟨by rfl, ?_⟩) (SK.out _ tV) ?_
        · rintro w ⟨d0, d1, d2, d3⟩
          go_simp
        simp only [Act.put, List.setIfInBounds_toArray, List.set_cons_zero, List.set_cons_succ]
        refine wpAnyH_take (i := 6) (oi := { dst := some 50, op := Op.fieldAddr 64 (Operand.tmp 9) 1, type := 0, pos := "ref.go:136", after := #[], guard := none }) (v := .pointer (some ⟨X, 1, none⟩)) rfl (by kernel_rfl) (by kernel_rfl) (by kernel_rfl) (fun _ _ _ h => h) (Or.inl ⟨by rfl, ?_⟩) (SK.out _ tV) ?_
        · rintro w ⟨d0, d1, d2, d3⟩
          go_simp
        simp only [Act.put, List.setIfInBounds_toArray, List.set_cons_zero, List.set_cons_succ]
        refine wpAnyH_take (i := 7) (oi := { dst := some 51, op := Op.load 23 (Operand.tmp 50), type := 23, pos := "ref.go:136", after := #[{ on := 6, ground := Ground.data }], guard := none }) (v := .int .u64 (no : Nat)) rfl (by kernel_rfl) (by kernel_rfl) (by kernel_rfl) (fun _ _ _ h => h) (Or.inl ⟨by rfl, ?_⟩) (SK.out _ tV) ?_
        · rintro w ⟨d0, d1, d2, d3⟩
          go_simp
        simp only [Act.put, List.setIfInBounds_toArray, List.set_cons_zero, List.set_cons_succ]
        refine wpAnyH_ready (rs := [8]) (by kernel_rfl) (by simp) ?_
        refine AllReadyH.cons rfl (fun K hK => ?_) AllReadyH.nil
        go_simp
        refine (CP.out _ tV).mono ?_
        rintro oo Vn ⟨⟨q, y, rfl, hy, hyn⟩ | ⟨rfl, hyn⟩, rfl⟩
        · have HQY := hide hy
          have HQN := hide hyn
          clear hy hyn
          go_simp
          refine hK.out _ _ (SK.out _ tV) (fun _ => ?_)
          clear hK K
          refine wpAnyH_take (i := 9) (oi := { dst := some 10, op := Op.assign (Operand.tmp 52), type := 3, pos := "ref.go:136", after := #[{ on := 8, ground := Ground.data }, { on := 8, ground := Ground.chain }, { on := 0, ground := Ground.phase }, { on := 1, ground := Ground.phase }, { on := 2, ground := Ground.phase }, { on := 3, ground := Ground.phase }, { on := 4, ground := Ground.phase }, { on := 5, ground := Ground.phase }, { on := 6, ground := Ground.phase }, { on := 7, ground := Ground.phase }, { on := 8, ground := Ground.phase }], guard := none }) (v := .int .i64 ((q : Nat) : Int)) rfl (by kernel_rfl) (by kernel_rfl) (by kernel_rfl) (fun _ _ _ h => h) (Or.inl ⟨by rfl, ?_⟩) (SK.out _ tV) ?_
          · rintro w ⟨d0, d1, d2, d3⟩
            go_simp
          simp only [Act.put, List.setIfInBounds_toArray, List.set_cons_zero, List.set_cons_succ]
          refine wpAnyH_done (by kernel_rfl) ?_ _
          have hql : q < XL := by have := HXN2.out; have := (List.getElem?_eq_some_iff.1 HQY.out).1; omega
          obtain ⟨gx, hgx, hgB, hgc, hgr⟩ : ∃ gx, xa = some ⟨gx, 0, none⟩ ∧ w.heap.size ≤ gx ∧ xl.length ≤ xc ∧ RowC wA gx 37 (xc * 6) (flCells xl) := by
            rcases HXR.out with ⟨_, h0, _⟩ | ⟨gx, h1, h2, h3, h4⟩
            · have := HXN2.out; rw [h0] at this; simp at this; omega
            · exact ⟨gx, h1, h2, h3, h4⟩
          subst hgx
          have HGC := hide hgc
          clear hgr hgc
          have q0 : (0 : Int) ≤ (q : Int) := by omega
          have q1 : (q : Int) ≤ 10000 := by have := HXL.out; omega
          have HQX := hide (show ((q : Nat) : Int) + 1 ≤ (XL : Int) by omega)
          have HWQ := hide (show IntKind.i64.wrap ((q : Int) + 1) = (q : Int) + 1 from wrapI _ (by omega) (by omega))
          have HCQ := hide (show ¬ xc < q by have := HGC.out; have := HXN2.out; omega)
          have HCQ1 := hide (show ¬ xc < q + 1 by have := HGC.out; have := HXN2.out; omega)
          go_upto_region 14 with (fail)
          have tW : Turns (fun j => wA.heap.size ≤ j) wA wA.drew.drew := ((Turns.refl _ _).drew).drew
          have HLT := hide (show O < wA.heap.size ∧ X < wA.heap.size ∧ g < wA.heap.size from ⟨(Array.getElem?_eq_some_iff.1 AZX.out.ho).1, (Array.getElem?_eq_some_iff.1 RX.out).1, by obtain ⟨g2, e2, _, _, cs, hc⟩ := AZX.out.base; cases e2; exact (Array.getElem?_eq_some_iff.1 hc).1⟩)
          have SK4 := hide (fun (u : World) (t : Turns (fun j => wA.heap.size ≤ j) wA u) => show (fun u => u.cell? ⟨O, 0, none⟩ = some (.slice (some ⟨g, 0, none⟩) 5 lc) ∧ u.cell? ⟨X, 0, none⟩ = some (.int .i64 ((lev : Nat) : Int)) ∧ u.cell? ⟨X, 1, none⟩ = some (.int .u64 (no : Nat)) ∧ u.cell? ⟨g, lev, none⟩ = some (.slice (some ⟨gx, 0, none⟩) XL xc)) u from ⟨t.cell (SK.out _ (Turns.refl _ _)).1 (show ¬ wA.heap.size ≤ O by have := HLT.out; omega), t.cell (SK.out _ (Turns.refl _ _)).2.1 (show ¬ wA.heap.size ≤ X by have := HLT.out; omega), t.cell (SK.out _ (Turns.refl _ _)).2.2.1 (show ¬ wA.heap.size ≤ X by have := HLT.out; omega), t.cell (SK.out _ (Turns.refl _ _)).2.2.2 (show ¬ wA.heap.size ≤ g by have := HLT.out; omega)⟩)
          refine wp_region_x_drew [24, 25] (S := fun u => u.cell? ⟨O, 0, none⟩ = some (.slice (some ⟨g, 0, none⟩) 5 lc) ∧ u.cell? ⟨X, 0, none⟩ = some (.int .i64 ((lev : Nat) : Int)) ∧ u.cell? ⟨X, 1, none⟩ = some (.int .u64 (no : Nat)) ∧ u.cell? ⟨g, lev, none⟩ = some (.slice (some ⟨gx, 0, none⟩) XL xc)) (by kernel_rfl) (SK4.out _ tW) (fun _ => ?_)
          change wpAnyX _ _ _ _ _ _ 26 (Array.replicate 26 false) _ _
          refine wpAnyX_take (i := 0) (oi := { dst := some 56, op := Op.fieldAddr 25 (Operand.tmp 7) 0, type := 0, pos := "ref.go:140", after := #[], guard := none }) (v := .pointer (some ⟨O, 0, none⟩)) rfl (by kernel_rfl) (by kernel_rfl) (by kernel_rfl) (by kernel_rfl) (by kernel_rfl) (fun _ _ _ h => h) (Or.inl ⟨by rfl, ?_⟩) (SK4.out _ tW) ?_
          · rintro w ⟨d0, d1, d2, d3⟩
            go_simp
          simp only [Act.put, List.setIfInBounds_toArray, List.set_cons_zero, List.set_cons_succ]
          refine wpAnyX_take (i := 1) (oi := { dst := some 57, op := Op.load 22 (Operand.tmp 56), type := 22, pos := "ref.go:140", after := #[{ on := 0, ground := Ground.data }], guard := none }) (v := .slice (some ⟨g, 0, none⟩) 5 lc) rfl (by kernel_rfl) (by kernel_rfl) (by kernel_rfl) (by kernel_rfl) (by kernel_rfl) (fun _ _ _ h => h) (Or.inl ⟨by rfl, ?_⟩) (SK4.out _ tW) ?_
          · rintro w ⟨d0, d1, d2, d3⟩
            go_simp
          simp only [Act.put, List.setIfInBounds_toArray, List.set_cons_zero, List.set_cons_succ]
          refine wpAnyX_take (i := 2) (oi := { dst := some 58, op := Op.fieldAddr 64 (Operand.tmp 9) 0, type := 0, pos := "ref.go:140", after := #[], guard := none }) (v := .pointer (some ⟨X, 0, none⟩)) rfl (by kernel_rfl) (by kernel_rfl) (by kernel_rfl) (by kernel_rfl) (by kernel_rfl) (fun _ _ _ h => h) (Or.inl ⟨by rfl, ?_⟩) (SK4.out _ tW) ?_
          · rintro w ⟨d0, d1, d2, d3⟩
            go_simp
          simp only [Act.put, List.setIfInBounds_toArray, List.set_cons_zero, List.set_cons_succ]
          refine wpAnyX_take (i := 3) (oi := { dst := some 59, op := Op.load 3 (Operand.tmp 58), type := 3, pos := "ref.go:140", after := #[{ on := 2, ground := Ground.data }], guard := none }) (v := .int .i64 ((lev : Nat) : Int)) rfl (by kernel_rfl) (by kernel_rfl) (by kernel_rfl) (by kernel_rfl) (by kernel_rfl) (fun _ _ _ h => h) (Or.inl ⟨by rfl, ?_⟩) (SK4.out _ tW) ?_
          · rintro w ⟨d0, d1, d2, d3⟩
            go_simp
          simp only [Act.put, List.setIfInBounds_toArray, List.set_cons_zero, List.set_cons_succ]
          refine wpAnyX_take (i := 5) (oi := { dst := some 61, op := Op.fieldAddr 25 (Operand.tmp 7) 0, type := 0, pos := "ref.go:140", after := #[], guard := none }) (v := .pointer (some ⟨O, 0, none⟩)) rfl (by kernel_rfl) (by kernel_rfl) (by kernel_rfl) (by kernel_rfl) (by kernel_rfl) (fun _ _ _ h => h) (Or.inl ⟨by rfl, ?_⟩) (SK4.out _ tW) ?_
          · rintro w ⟨d0, d1, d2, d3⟩
            go_simp
          simp only [Act.put, List.setIfInBounds_toArray, List.set_cons_zero, List.set_cons_succ]
          refine wpAnyX_take (i := 6) (oi := { dst := some 62, op := Op.load 22 (Operand.tmp 61), type := 22, pos := "ref.go:140", after := #[{ on := 5, ground := Ground.data }], guard := none }) (v := .slice (some ⟨g, 0, none⟩) 5 lc) rfl (by kernel_rfl) (by kernel_rfl) (by kernel_rfl) (by kernel_rfl) (by kernel_rfl) (fun _ _ _ h => h) (Or.inl ⟨by rfl, ?_⟩) (SK4.out _ tW) ?_
          · rintro w ⟨d0, d1, d2, d3⟩
            go_simp
          simp only [Act.put, List.setIfInBounds_toArray, List.set_cons_zero, List.set_cons_succ]
          refine wpAnyX_take (i := 7) (oi := { dst := some 63, op := Op.fieldAddr 64 (Operand.tmp 9) 0, type := 0, pos := "ref.go:140", after := #[], guard := none }) (v := .pointer (some ⟨X, 0, none⟩)) rfl (by kernel_rfl) (by kernel_rfl) (by kernel_rfl) (by kernel_rfl) (by kernel_rfl) (fun _ _ _ h => h) (Or.inl ⟨by rfl, ?_⟩) (SK4.out _ tW) ?_
          · rintro w ⟨d0, d1, d2, d3⟩
            go_simp
          simp only [Act.put, List.setIfInBounds_toArray, List.set_cons_zero, List.set_cons_succ]
          refine wpAnyX_take (i := 8) (oi := { dst := some 64, op := Op.load 3 (Operand.tmp 63), type := 3, pos := "ref.go:140", after := #[{ on := 7, ground := Ground.data }], guard := none }) (v := .int .i64 ((lev : Nat) : Int)) rfl (by kernel_rfl) (by kernel_rfl) (by kernel_rfl) (by kernel_rfl) (by kernel_rfl) (fun _ _ _ h => h) (Or.inl ⟨by rfl, ?_⟩) (SK4.out _ tW) ?_
          · rintro w ⟨d0, d1, d2, d3⟩
            go_simp
          simp only [Act.put, List.setIfInBounds_toArray, List.set_cons_zero, List.set_cons_succ]
          refine wpAnyX_take (i := 9) (oi := { dst := some 65, op := Op.indexAddr 22 (Operand.tmp 62) (Operand.tmp 64), type := 0, pos := "ref.go:140", after := #[{ on := 6, ground := Ground.data }, { on := 8, ground := Ground.data }], guard := none }) (v := .pointer (some ⟨g, lev, none⟩)) rfl (by kernel_rfl) (by kernel_rfl) (by kernel_rfl) (by kernel_rfl) (by kernel_rfl) (fun _ _ _ h => h) (Or.inl ⟨by rfl, ?_⟩) (SK4.out _ tW) ?_
          · rintro w ⟨d0, d1, d2, d3⟩
            go_simp
          simp only [Act.put, List.setIfInBounds_toArray, List.set_cons_zero, List.set_cons_succ]
          refine wpAnyX_take (i := 10) (oi := { dst := some 66, op := Op.load 50 (Operand.tmp 65), type := 50, pos := "ref.go:140", after := #[{ on := 9, ground := Ground.data }], guard := none }) (v := .slice (some ⟨gx, 0, none⟩) XL xc) rfl (by kernel_rfl) (by kernel_rfl) (by kernel_rfl) (by kernel_rfl) (by kernel_rfl) (fun _ _ _ h => h) (Or.inl ⟨by rfl, ?_⟩) (SK4.out _ tW) ?_
          · rintro w ⟨d0, d1, d2, d3⟩
            go_simp
          simp only [Act.put, List.setIfInBounds_toArray, List.set_cons_zero, List.set_cons_succ]
          refine wpAnyX_take (i := 11) (oi := { dst := some 67, op := Op.move (Operand.tmp 10), type := 3, pos := "ref.go:140", after := #[], guard := none }) (v := .int .i64 ((q : Nat) : Int)) rfl (by kernel_rfl) (by kernel_rfl) (by kernel_rfl) (by kernel_rfl) (by kernel_rfl) (fun _ _ _ h => h) (Or.inl ⟨by rfl, ?_⟩) (SK4.out _ tW) ?_
          · rintro w ⟨d0, d1, d2, d3⟩
            go_simp
          simp only [Act.put, List.setIfInBounds_toArray, List.set_cons_zero, List.set_cons_succ]
          refine wpAnyX_take (i := 12) (oi := { dst := some 68, op := Op.slice 50 (Operand.tmp 66) none (some (Operand.tmp 67)) none, type := 50, pos := "ref.go:140", after := #[{ on := 10, ground := Ground.data }, { on := 11, ground := Ground.data }], guard := none }) (v := .slice (some ⟨gx, 0, none⟩) q xc) rfl (by kernel_rfl) (by kernel_rfl) (by kernel_rfl) (by kernel_rfl) (by kernel_rfl) (fun _ _ _ h => h) (Or.inl ⟨by rfl, ?_⟩) (SK4.out _ tW) ?_
          · rintro w ⟨d0, d1, d2, d3⟩
            go_simp; exact fun h => absurd h HCQ.out
          simp only [Act.put, List.setIfInBounds_toArray, List.set_cons_zero, List.set_cons_succ]
          refine wpAnyX_take (i := 14) (oi := { dst := some 70, op := Op.fieldAddr 25 (Operand.tmp 7) 0, type := 0, pos := "ref.go:140", after := #[], guard := none }) (v := .pointer (some ⟨O, 0, none⟩)) rfl (by kernel_rfl) (by kernel_rfl) (by kernel_rfl) (by kernel_rfl) (by kernel_rfl) (fun _ _ _ h => h) (Or.inl ⟨by rfl, ?_⟩) (SK4.out _ tW) ?_
          · rintro w ⟨d0, d1, d2, d3⟩
            go_simp
          simp only [Act.put, List.setIfInBounds_toArray, List.set_cons_zero, List.set_cons_succ]
          refine wpAnyX_take (i := 15) (oi := { dst := some 71, op := Op.load 22 (Operand.tmp 70), type := 22, pos := "ref.go:140", after := #[{ on := 14, ground := Ground.data }], guard := none }) (v := .slice (some ⟨g, 0, none⟩) 5 lc) rfl (by kernel_rfl) (by kernel_rfl) (by kernel_rfl) (by kernel_rfl) (by kernel_rfl) (fun _ _ _ h => h) (Or.inl ⟨by rfl, ?_⟩) (SK4.out _ tW) ?_
          · rintro w ⟨d0, d1, d2, d3⟩
            go_simp
          simp only [Act.put, List.setIfInBounds_toArray, List.set_cons_zero, List.set_cons_succ]
          refine wpAnyX_take (i := 16) (oi := { dst := some 72, op := Op.fieldAddr 64 (Operand.tmp 9) 0, type := 0, pos := "ref.go:140", after := #[], guard := none }) (v := .pointer (some ⟨X, 0, none⟩)) rfl (by kernel_rfl) (by kernel_rfl) (by kernel_rfl) (by kernel_rfl) (by kernel_rfl) (fun _ _ _ h => h) (Or.inl ⟨by rfl, ?_⟩) (SK4.out _ tW) ?_
          · rintro w ⟨d0, d1, d2, d3⟩
            go_simp
          simp only [Act.put, List.setIfInBounds_toArray, List.set_cons_zero, List.set_cons_succ]
          refine wpAnyX_take (i := 17) (oi := { dst := some 73, op := Op.load 3 (Operand.tmp 72), type := 3, pos := "ref.go:140", after := #[{ on := 16, ground := Ground.data }], guard := none }) (v := .int .i64 ((lev : Nat) : Int)) rfl (by kernel_rfl) (by kernel_rfl) (by kernel_rfl) (by kernel_rfl) (by kernel_rfl) (fun _ _ _ h => h) (Or.inl ⟨by rfl, ?_⟩) (SK4.out _ tW) ?_
          · rintro w ⟨d0, d1, d2, d3⟩
            go_simp
          simp only [Act.put, List.setIfInBounds_toArray, List.set_cons_zero, List.set_cons_succ]
          refine wpAnyX_take (i := 18) (oi := { dst := some 74, op := Op.indexAddr 22 (Operand.tmp 71) (Operand.tmp 73), type := 0, pos := "ref.go:140", after := #[{ on := 15, ground := Ground.data }, { on := 17, ground := Ground.data }], guard := none }) (v := .pointer (some ⟨g, lev, none⟩)) rfl (by kernel_rfl) (by kernel_rfl) (by kernel_rfl) (by kernel_rfl) (by kernel_rfl) (fun _ _ _ h => h) (Or.inl ⟨by rfl, ?_⟩) (SK4.out _ tW) ?_
          · rintro w ⟨d0, d1, d2, d3⟩
            go_simp
          simp only [Act.put, List.setIfInBounds_toArray, List.set_cons_zero, List.set_cons_succ]
          refine wpAnyX_take (i := 19) (oi := { dst := some 75, op := Op.load 50 (Operand.tmp 74), type := 50, pos := "ref.go:140", after := #[{ on := 18, ground := Ground.data }], guard := none }) (v := .slice (some ⟨gx, 0, none⟩) XL xc) rfl (by kernel_rfl) (by kernel_rfl) (by kernel_rfl) (by kernel_rfl) (by kernel_rfl) (fun _ _ _ h => h) (Or.inl ⟨by rfl, ?_⟩) (SK4.out _ tW) ?_
          · rintro w ⟨d0, d1, d2, d3⟩
            go_simp
          simp only [Act.put, List.setIfInBounds_toArray, List.set_cons_zero, List.set_cons_succ]
          refine wpAnyX_take (i := 20) (oi := { dst := some 76, op := Op.move (Operand.tmp 10), type := 3, pos := "ref.go:140", after := #[], guard := none }) (v := .int .i64 ((q : Nat) : Int)) rfl (by kernel_rfl) (by kernel_rfl) (by kernel_rfl) (by kernel_rfl) (by kernel_rfl) (fun _ _ _ h => h) (Or.inl ⟨by rfl, ?_⟩) (SK4.out _ tW) ?_
          · rintro w ⟨d0, d1, d2, d3⟩
            go_simp
          simp only [Act.put, List.setIfInBounds_toArray, List.set_cons_zero, List.set_cons_succ]
          refine wpAnyX_take (i := 21) (oi := { dst := some 77, op := Op.binOp BinOp.add 3 (Operand.tmp 76) (Operand.const (Value.int IntKind.i64 1)) 3, type := 3, pos := "ref.go:140", after := #[{ on := 20, ground := Ground.data }], guard := none }) (v := .int .i64 ((q + 1 : Nat) : Int)) rfl (by kernel_rfl) (by kernel_rfl) (by kernel_rfl) (by kernel_rfl) (by kernel_rfl) (fun _ _ _ h => h) (Or.inl ⟨by rfl, ?_⟩) (SK4.out _ tW) ?_
          · rintro w ⟨d0, d1, d2, d3⟩
            go_simp; exact HWQ.out
          simp only [Act.put, List.setIfInBounds_toArray, List.set_cons_zero, List.set_cons_succ]
          refine wpAnyX_take (i := 22) (oi := { dst := some 78, op := Op.slice 50 (Operand.tmp 75) (some (Operand.tmp 77)) none none, type := 50, pos := "ref.go:140", after := #[{ on := 19, ground := Ground.data }, { on := 21, ground := Ground.data }], guard := none }) (v := .slice (if xc = q + 1 then some ⟨gx, 0, none⟩ else some ⟨gx, (q + 1) * 6, none⟩) (XL - (q + 1)) (xc - (q + 1))) rfl (by kernel_rfl) (by kernel_rfl) (by kernel_rfl) (by kernel_rfl) (by kernel_rfl) (fun _ _ _ h => h) (Or.inl ⟨by rfl, ?_⟩) (SK4.out _ tW) ?_
          · rintro w ⟨d0, d1, d2, d3⟩
            go_simp; exact fun h => absurd (h (by omega)) (by have := HQX.out; omega)
          simp only [Act.put, List.setIfInBounds_toArray, List.set_cons_zero, List.set_cons_succ]
          have SR1 := hide (fun (u : World) (t : Turns (fun j => wA.heap.size ≤ j) wA u) => show Src Try.prog Try.t37.size 50 (.slice (some ⟨gx, 0, none⟩) q xc) q (flCells (xl.take q)) u from by
            have q2 := src_of_fils (c := xc) (fils_take (HFI.out.quiet (turns_new t)) q)
            rwa [List.length_take, Nat.min_eq_left (by have := HXN2.out; omega)] at q2)
          have SR3 := hide (fun (u : World) (t : Turns (fun j => wA.heap.size ≤ j) wA u) => show Src Try.prog Try.t37.size 50 (.slice (if xc = q + 1 then some ⟨gx, 0, none⟩ else some ⟨gx, (q + 1) * 6, none⟩) (XL - (q + 1)) (xc - (q + 1))) (XL - (q + 1)) (flCells (xl.drop (q + 1))) u from by
            have hf : Fils u (if xc = q + 1 then some ⟨gx, 0, none⟩ else some ⟨gx, (q + 1) * 6, none⟩) (xl.drop (q + 1)) := by
              by_cases hh : xc = q + 1
              · intro j x hx
                rw [List.drop_eq_nil_of_le (by have := HGC.out; omega)] at hx
                simp at hx
              · rw [if_neg hh]
                have q3 := fils_drop (HFI.out.quiet (turns_new t)) (q + 1)
                rwa [Nat.zero_add] at q3
            have q2 := src_of_fils (c := xc - (q + 1)) hf
            rwa [List.length_drop, HXN2.out] at q2)
          generalize (if xc = q + 1 then some (⟨gx, 0, none⟩ : Addr) else some ⟨gx, (q + 1) * 6, none⟩) = db at *
          generalize wA.drew.drew = U0 at *
          refine wpAnyX_ready (rs := [4]) (by kernel_rfl) (by simp) ?_
          refine AllReadyX.cons rfl (fun K hK => ?_) AllReadyX.nil
          obtain ⟨uA, huA⟩ : ∃ uu, uu = U0.alloc (.cells #[] 37) := ⟨_, rfl⟩
          have tuA : Turns (fun _ => False) U0 uA := by rw [huA]; exact (Turns.refl _ _).alloc _
          have buA : wA.heap.size ≤ U0.heap.size := tW.size
          have rA : FRow uA wA.heap.size U0.heap.size 0 [] := by rw [huA]; exact frow_emp _ _ buA
          have tW := tW.trans (tuA.mono (S' := fun j => wA.heap.size ≤ j) fun _ _ (x : False) => x.elim)
          go_simp
          rw [← huA]
          refine hK.out _ _ (SK4.out _ tW) (fun _ => ?_)
          clear hK K huA
          obtain ⟨g1, n1, c1, w4, hr1, hn1, hf1, ht1, _⟩ := append_frow uA wA.heap.size U0.heap.size 0 [] rA tW.size (.slice (some ⟨gx, 0, none⟩) q xc) q (xl.take q) (SR1.out _ tW) (by rw [List.length_take]; have := HXN2.out; omega) (by simp; omega)
          have HN1 := hide hn1
          clear hn1
          have tW := tW.trans (ht1.mono (S' := fun j => wA.heap.size ≤ j) fun k _ e => by rw [e]; exact rA.hB)
          refine wpAnyX_ready (rs := [13]) (by kernel_rfl) (by simp) ?_
          refine AllReadyX.cons rfl (fun K hK => ?_) AllReadyX.nil
          refine step_append_run rfl _ _ 50 rfl (.slice (some ⟨U0.heap.size, 0, none⟩) 0 0) (.slice (some ⟨gx, 0, none⟩) q xc) rfl rfl _ _ (hr1 _) 69 rfl ?_
          refine hK.out _ _ (SK4.out _ tW) (fun _ => ?_)
          clear hK K
          simp only [Act.put, List.setIfInBounds_toArray, List.set_cons_zero, List.set_cons_succ]
          obtain ⟨g2, n2, c2, w5, hr2, hn2, hf2, ht2, _⟩ := append_frow w4 wA.heap.size g1 c1 ([] ++ xl.take q) hf1 tW.size (.slice db (XL - (q + 1)) (xc - (q + 1))) (XL - (q + 1)) (xl.drop (q + 1)) (SR3.out _ tW) (by rw [List.length_drop]; have := HXN2.out; omega) (by have := HXL.out; have := HXN2.out; simp; omega)
          have HN2 := hide hn2
          clear hn2
          rw [← HN1.out] at hr2
          have tW := tW.trans (ht2.mono (S' := fun j => wA.heap.size ≤ j) fun k _ e => by rw [e]; exact hf1.hB)
          refine wpAnyX_ready (rs := [23]) (by kernel_rfl) (by simp) ?_
          refine AllReadyX.cons rfl (fun K hK => ?_) AllReadyX.nil
          refine step_append_run rfl _ _ 50 rfl (.slice (some ⟨g1, 0, none⟩) n1 c1) (.slice db (XL - (q + 1)) (xc - (q + 1))) rfl rfl _ _ (hr2 _) 79 rfl ?_
          refine hK.out _ _ (SK4.out _ tW) (fun _ => ?_)
          clear hK K
          simp only [Act.put, List.setIfInBounds_toArray, List.set_cons_zero, List.set_cons_succ]
          refine wpAnyX_late (i := 24) (oi := { dst := some 80, op := Op.indexAddr 22 (Operand.tmp 57) (Operand.tmp 59), type := 0, pos := "ref.go:140", after := #[{ on := 1, ground := Ground.data }, { on := 3, ground := Ground.data }, { on := 0, ground := Ground.phase }, { on := 1, ground := Ground.phase }, { on := 2, ground := Ground.phase }, { on := 3, ground := Ground.phase }, { on := 4, ground := Ground.phase }, { on := 5, ground := Ground.phase }, { on := 6, ground := Ground.phase }, { on := 7, ground := Ground.phase }, { on := 8, ground := Ground.phase }, { on := 9, ground := Ground.phase }, { on := 10, ground := Ground.phase }, { on := 11, ground := Ground.phase }, { on := 12, ground := Ground.phase }, { on := 13, ground := Ground.phase }, { on := 14, ground := Ground.phase }, { on := 15, ground := Ground.phase }, { on := 16, ground := Ground.phase }, { on := 17, ground := Ground.phase }, { on := 18, ground := Ground.phase }, { on := 19, ground := Ground.phase }, { on := 20, ground := Ground.phase }, { on := 21, ground := Ground.phase }, { on := 22, ground := Ground.phase }, { on := 23, ground := Ground.phase }], guard := none }) (v := .pointer (some ⟨g, lev, none⟩)) rfl (by kernel_rfl) (by kernel_rfl) (by kernel_rfl) (by kernel_rfl) (fun _ _ _ h => h) (Or.inl ⟨by rfl, ?_⟩) ?_
          · rintro w -
            go_simp
          simp only [Act.put, List.setIfInBounds_toArray, List.set_cons_zero, List.set_cons_succ]
          have AZ5 := hide (AZX.out.quiet (turns_new tW))
          have HROW := hide (show RowOk w5 w.heap.size (some ⟨g2, 0, none⟩) c2 (xl.take q ++ xl.drop (q + 1)) from .inr ⟨g2, rfl, by have h1 := hf2.hB; have h2 := AZX.out.tw.size; omega, hf2.le, hf2.row⟩)
          have HFTS := hide (show ∀ y ∈ xl.take q ++ xl.drop (q + 1), FT w5 w.heap.size y from fun y hy => (HXT.out y ((List.mem_append.1 hy).elim List.mem_of_mem_take List.mem_of_mem_drop)).quiet (turns_new tW))
          have AZ6 := hide (AZ5.out.put (k := lev) (by omega) ⟨some ⟨g2, 0, none⟩, c2, xl.take q ++ xl.drop (q + 1)⟩ HROW.out HFTS.out)
          unfold lvCell at AZ6
          simp only at AZ6
          have hn2 : n2 = (xl.take q ++ xl.drop (q + 1)).length := HN2.out
          rw [← hn2] at AZ6
          clear hn2
          have b1 := (SK4.out _ tW).2.2.2
          have b2 : w5.frozen? ⟨g, lev, none⟩ = false := by obtain ⟨g9, e9, _, _, cs, hc⟩ := AZ5.out.base; cases e9; exact frozen_of_row w5 g lev cs 50 hc
          clear hr1 hr2 hf1 hf2 ht1 ht2 rA tuA buA tW
          refine wpAnyX_ready (rs := [25]) (by kernel_rfl) (by simp) ?_
          refine AllReadyX.free rfl (by kernel_rfl) (fun K hK => ?_) AllReadyX.nil
          go_simp
          refine hK.out _ _ ?_
          clear hK K b1 b2
          refine wpAnyX_done (by kernel_rfl) ?_ _
          generalize w5.setCell ⟨g, lev, none⟩ (.slice (some ⟨g2, 0, none⟩) n2 c2) = w6 at *
          go_wp2_with fail
          go_roundw
          case rel =>
            have hs := HDQ.out.step HXF.out (fls_at HQY.out)
            rw [HQN.out] at hs
            refine ⟨k + 1, _, upd m no none, by go_num, by omega, AZ6.out, ?_, by rw [dropsP_drop HD.out HDP.out, if_pos hs.1]⟩
            rw [flL_set]
            have e7 : fls (xl.take q ++ xl.drop (q + 1)) = (fls xl).take q ++ (fls xl).drop (q + 1) := by simp [fls, List.map_take, List.map_drop]
            simp only [e7]
            exact hs.2
          case measure => simp [intOf]; omega
        · have HNO := hide hyn
          clear hyn
          go_simp
          refine hK.out _ _ (SK.out _ tV) (fun _ => ?_)
          clear hK K
          refine wpAnyH_take (i := 9) (oi := { dst := some 10, op := Op.assign (Operand.tmp 52), type := 3, pos := "ref.go:136", after := #[{ on := 8, ground := Ground.data }, { on := 8, ground := Ground.chain }, { on := 0, ground := Ground.phase }, { on := 1, ground := Ground.phase }, { on := 2, ground := Ground.phase }, { on := 3, ground := Ground.phase }, { on := 4, ground := Ground.phase }, { on := 5, ground := Ground.phase }, { on := 6, ground := Ground.phase }, { on := 7, ground := Ground.phase }, { on := 8, ground := Ground.phase }], guard := none }) (v := .int .i64 (-1)) rfl (by kernel_rfl) (by kernel_rfl) (by kernel_rfl) (fun _ _ _ h => h) (Or.inl ⟨by rfl, ?_⟩) (SK.out _ tV) ?_
          · rintro w ⟨d0, d1, d2, d3⟩
            go_simp
          simp only [Act.put, List.setIfInBounds_toArray, List.set_cons_zero, List.set_cons_succ]
          refine wpAnyH_done (by kernel_rfl) ?_ _
          have HAR := hide (show ApplyR (flL L) next seq log D (fA A) en es el none 6 from ApplyR.gone HWF.out (by
            rw [dropsP_drop HD.out HDP.out, if_neg (HDQ.out.miss (by rw [flL_length, HL5.out]) (.inr (fun l hl f hf => by
              simp only [Int.toNat_natCast] at hl
              rw [HXF.out] at hl
              cases hl
              obtain ⟨y, hy, rfl⟩ := List.mem_map.1 hf
              exact HNO.out y hy)))]))
          have HZD := hide (((Turns.refl (fun _ => False) wA).drew).heap HZX.out (fun x => x))
          have rz0 := cell_of_row wA (P + 1 + 1) 0 _ 25 (0, 0) HZX.out
          have zz0 := frozen_of_row wA (P + 1 + 1) 0 _ 25 HZX.out
          have rz1 := cell_of_row wA (P + 1 + 1) 1 _ 25 (0, 0) HZX.out
          have zz1 := frozen_of_row wA (P + 1 + 1) 1 _ 25 HZX.out
          have rz2 := cell_of_row wA (P + 1 + 1) 2 _ 25 (0, 0) HZX.out
          have zz2 := frozen_of_row wA (P + 1 + 1) 2 _ 25 HZX.out
          have rz3 := cell_of_row wA (P + 1 + 1) 3 _ 25 (0, 0) HZX.out
          have zz3 := frozen_of_row wA (P + 1 + 1) 3 _ 25 HZX.out
          go_wp2_with fail
          have tk := (((((Tick.refl HZD.out).set 0 (.slice none 0 0)).set 1 (.int .u64 0)).set 2 (.int .u64 0)).set 3 (.int .u64 0))
          refine bodyPost_ret (v := .tuple #[.agg #[.slice none 0 0, .int .u64 0, .int .u64 0, .int .u64 0], .int .i64 6]) ?_ rfl ?_
          · exact results_cell_tmp Try.results15 _ _ _ _ _ _ _ _ rfl rfl tk.1 Try.underlying25 rfl sz25
          · exact ⟨((AZX.out.tw.trans (Turns.refl _ wA).drew)).andThen (Turns.of_tick tk) (fun j hj e => by have := HP.out; omega), _, 6, none, rfl, HAR.out, fun _ => rfl, fun _ h => by cases h⟩
    · have HKD := hide (show k = dn by omega)
      have i1 : ¬ (k : Int) < (dn : Int) := by omega
      clear hkn
      have HDR := hide (show dropsP (mp (pairsF (flL L))) D = some m by rw [HDP.out, List.drop_eq_nil_of_le (by have := HDL.out; have := HKD.out; omega)]; rfl)
      have HQE := hide HDQ.out.eq
      have HAL := hide HE.out.alen
      have hai : (an : Int) ≤ 1000 := by have := HE.out.amx; omega
      have HAQ0 := hide (Aq.start (fA A) (by rw [flL_length]; exact AZ.out.len) (fun k l hl => sorted_of_ok HWF.out m k l (by rw [← HQE.out]; exact hl)))
      have HWQ := hide (fun (f : Fl → Nat) => show wt f (flL Lc) ≤ wt f (flL L) by rw [HQE.out]; exact wt_filter f _ _)
      have HQM := hide (show ∀ (k : Nat) (l : List Fl), (flL Lc)[k]? = some l → ∀ f ∈ l, ∃ l0, (flL L)[k]? = some l0 ∧ f ∈ l0 from fun k l hl f hf => by
        rw [HQE.out, List.getElem?_map, Option.map_eq_some_iff] at hl
        obtain ⟨l0, h0, rfl⟩ := hl
        exact ⟨l0, h0, (List.mem_filter.1 hf).1⟩)
      have HLM := hide (show ∀ (k : Nat) (l : List Fl), (flL L)[k]? = some l → ∀ f ∈ l, ∃ x ∈ L, ∃ y ∈ x.l, y.f = f from fun k l hl f hf => by
        simp only [flL, List.getElem?_map, Option.map_eq_some_iff] at hl
        obtain ⟨x, hx, rfl⟩ := hl
        obtain ⟨y, hy, rfl⟩ := List.mem_map.1 hf
        exact ⟨x, List.mem_of_getElem? hx, y, hy, rfl⟩)
      have HQL := hide (show ∀ (k : Nat) (l : List Fl), (flL Lc)[k]? = some l → ∀ f ∈ l, f.least.length ≤ 1000000 from fun k l hl f hf => by
        obtain ⟨l0, h0, h1⟩ := HQM.out k l hl f hf
        obtain ⟨x, hx, y, hy, rfl⟩ := HLM.out k l0 h0 f h1
        exact (HKL.out x hx y hy).1)
      have HQF := hide (show ∀ n ∈ numsF (flL Lc), n < 18446744073709551616 from fun n hn => by
        obtain ⟨k, l, f, h1, h2, rfl⟩ := numsF_mem.1 hn
        obtain ⟨l0, h0, h3⟩ := HQM.out k l h1 f h2
        obtain ⟨x, hx, y, hy, rfl⟩ := HLM.out k l0 h0 f h3
        exact H.out.fit x hx y hy)
      have HAF := hide (show ∀ d ∈ fA A, d.2.no < 18446744073709551616 ∧ d.2.least.length ≤ 1000000 ∧ d.2.most.length ≤ 1000000 from fun d hd => by
        obtain ⟨d0, h0, rfl⟩ := List.mem_map.1 hd
        exact HE.out.fit d0 h0)
      have HFAL := hide (show (fA A).length = an by unfold fA; rw [List.length_map, ← HAL.out])
      have HCB := hide (fun (i : Nat) (Ld : List Lv) (hq : Aq (flL Lc) (fA A) i (flL Ld)) => show cnt Ld ≤ 5000 ∧ byts Ld ≤ 600000 by
        have c1 := aq_wt (fun _ => 1) hq
        have c2 := HWQ.out (fun _ => 1)
        have c3 := sum_take_le (fun _ => 1) (fA A) i
        have c4 := sum_one (fA A)
        have c5 := HFAL.out
        have c6 := HCN.out
        have d1 := aq_wt keyF hq
        have d2 := HWQ.out keyF
        have d3 := sum_take_le (fun d => keyF d.2) (fA A) i
        have d6 := HBY.out
        rw [cnt_wt, byts_wt]
        rw [cnt_wt] at c6
        rw [byts_wt] at d6
        omega)
      go_wp2_with fail
      go_loopw [11, 12] (fun od i wr => ∃ (i2 : Nat) (Ld : List Lv) (o : Bool), i = .int .i64 (i2 : Nat) ∧ od = .bool o ∧ i2 ≤ an ∧ o = !((fA A).take i2).all (fun d => goodLev d.1) ∧ Az w wr O #[.slice da dn dc, .slice aa an ac, .int .u64 (en : Nat), .int .u64 (es : Nat), .int .u64 (el : Nat)] (some ⟨g, 0, none⟩) lc (.int .u64 (next : Nat)) (.int .u64 (seq : Nat)) (.int .u64 (log : Nat)) Ld ∧ Aq (flL Lc) (fA A) i2 (flL Ld)) (fun _ i _ => an - (intOf i).toNat)
      case atStart => exact ⟨0, Lc, false, rfl, rfl, Nat.zero_le _, by simp, AZ.out, HAQ0.out⟩
      case round =>
        clear AZ HAQ0 EZ e0 e1 HDP HDQ
        obtain ⟨i2, Ld, o, rfl, rfl, hk2, ho, haz, haq⟩ := hrel
        have AZ := hide haz
        have HAQ := hide haq
        have HOD := hide ho
        have ez : wr.heap[P + 1]? = some (.cells #[.slice da dn dc, .slice aa an ac, .int .u64 (en : Nat), .int .u64 (es : Nat), .int .u64 (el : Nat)] 33) := by have := haz.he; rwa [HP.out] at this
        have e1 := cell_of_row wr (P + 1) 1 _ 33 (0, 0) ez
        have EZ := hide ez
        clear haz haq ho ez
        by_cases hin : i2 < an
        · obtain ⟨d, hd⟩ : ∃ d, A[i2]? = some d := ⟨_, List.getElem?_eq_getElem (by have := HAL.out; omega)⟩
          obtain ⟨⟨b, off, rfl, a0, h6⟩, hfb⟩ := (HE.out.adds.quiet AZ.out.tw) i2 d hd
          obtain ⟨lv, y⟩ := d
          simp only at *
          have j1 : (i2 : Int) < (an : Int) := by omega
          have j0 : (0 : Int) ≤ (i2 : Int) := by omega
          have HD := hide (show (fA A)[i2]? = some (lv, y.f) by unfold fA; rw [List.getElem?_map, hd]; rfl)
          have HFY := hide hfb
          have HFT := hide (show y.f.no < 18446744073709551616 ∧ y.f.least.length ≤ 1000000 ∧ y.f.most.length ≤ 1000000 from HE.out.fit (lv, y) (List.mem_of_getElem? hd))
          have HADD := hide (HE.out.adds.quiet AZ.out.tw)
          have CO := hide (fun (u : World) (t : Turns (fun _ => False) wr u) => rown_any y u (hfb.quiet t) HFT.out.2.1 HFT.out.2.2)
          obtain ⟨la4, lc4, ma4, mc4, ⟨no, sz, ls, ms, en4, sq⟩⟩ := y
          obtain ⟨y0, y1, y2, y3, y4, y5⟩ := h6
          unfold Tf.agg at CO
          simp only at *
          generalize hL1 : ls.length = L1 at *
          generalize hL2 : ms.length = L2 at *
          have TX := hide ((Turns.refl (fun _ => False) wr).alloc (.cells #[.int .i64 lv, .int .u64 (no : Nat), .int .i64 sz, .slice la4 L1 lc4, .slice ma4 L2 mc4, .int .i64 en4, .int .u64 (sq : Nat)] 62))
          have RX := hide (heap_alloc_new wr (.cells #[.int .i64 lv, .int .u64 (no : Nat), .int .i64 sz, .slice la4 L1 lc4, .slice ma4 L2 mc4, .int .i64 en4, .int .u64 (sq : Nat)] 62))
          have AZX := hide (AZ.out.quiet TX.out)
          have HZX := hide (show (wr.alloc (.cells #[.int .i64 lv, .int .u64 (no : Nat), .int .i64 sz, .slice la4 L1 lc4, .slice ma4 L2 mc4, .int .i64 en4, .int .u64 (sq : Nat)] 62)).heap[P + 1 + 1]? = some (.cells #[.slice none 0 0, .int .u64 0, .int .u64 0, .int .u64 0] 25) by have := AZX.out.hz; rwa [HP.out] at this)
          have EZX := hide (TX.out.heap EZ.out (fun x => x))
          have o0 := cell_of_row _ O 0 _ 25 (0, 0) AZX.out.ho
          have o1 := cell_of_row _ O 1 _ 25 (0, 0) AZX.out.ho
          have o2 := cell_of_row _ O 2 _ 25 (0, 0) AZX.out.ho
          have o3 := cell_of_row _ O 3 _ 25 (0, 0) AZX.out.ho
          have CA := hide (ranywhere_any (some ⟨g, 0, none⟩) 5 lc next seq log no Ld (wr.alloc (.cells #[.int .i64 lv, .int .u64 (no : Nat), .int .i64 sz, .slice la4 L1 lc4, .slice ma4 L2 mc4, .int .i64 en4, .int .u64 (sq : Nat)] 62)) AZX.out.ds.levs AZX.out.len.symm (by omega) (by have := (HCB.out i2 Ld HAQ.out).1; omega))
          unfold verAgg at CA
          have HL12 := hide (show ls.length = L1 ∧ ms.length = L2 from ⟨hL1, hL2⟩)
          have HXS := hide (show wr.heap.size < (wr.alloc (.cells #[.int .i64 lv, .int .u64 (no : Nat), .int .i64 sz, .slice la4 L1 lc4, .slice ma4 L2 mc4, .int .i64 en4, .int .u64 (sq : Nat)] 62)).heap.size by simp)
          clear hd hfb hL1 hL2
          go_wp2_with fail
          generalize wr.alloc (.cells #[.int .i64 lv, .int .u64 (no : Nat), .int .i64 sz, .slice la4 L1 lc4, .slice ma4 L2 mc4, .int .i64 en4, .int .u64 (sq : Nat)] 62) = wX at *
          generalize wr.heap.size = X at *
          refine CA.out.mono ?_
          rintro e w4 ⟨r, rfl, hr, t4⟩
          have T4 := hide t4
          have HRR := hide hr
          have AZ4 := hide (AZX.out.quiet t4)
          have HZ4 := hide (t4.heap HZX.out (fun x => x))
          clear hr t4 o0 o1 o2 o3 a0 y0 y1 y2 y3 y4 y5
          cases r with
          | true =>
            have HAR := hide (show ApplyR (flL L) next seq log D (fA A) en es el none 5 from ApplyR.there m HWF.out HDR.out (by rw [← HQE.out]; exact HAQ.out.there HD.out (.inl (HRR.out.1 rfl))))
            have rz0 := cell_of_row w4 (P + 1 + 1) 0 _ 25 (0, 0) HZ4.out
            have zz0 := frozen_of_row w4 (P + 1 + 1) 0 _ 25 HZ4.out
            have rz1 := cell_of_row w4 (P + 1 + 1) 1 _ 25 (0, 0) HZ4.out
            have zz1 := frozen_of_row w4 (P + 1 + 1) 1 _ 25 HZ4.out
            have rz2 := cell_of_row w4 (P + 1 + 1) 2 _ 25 (0, 0) HZ4.out
            have zz2 := frozen_of_row w4 (P + 1 + 1) 2 _ 25 HZ4.out
            have rz3 := cell_of_row w4 (P + 1 + 1) 3 _ 25 (0, 0) HZ4.out
            have zz3 := frozen_of_row w4 (P + 1 + 1) 3 _ 25 HZ4.out
            go_wp2_with fail
            have tk := (((((Tick.refl HZ4.out).set 0 (.slice none 0 0)).set 1 (.int .u64 0)).set 2 (.int .u64 0)).set 3 (.int .u64 0))
            refine bodyPost_ret (v := .tuple #[.agg #[.slice none 0 0, .int .u64 0, .int .u64 0, .int .u64 0], .int .i64 5]) ?_ rfl ?_
            · exact results_cell_tmp Try.results15 _ _ _ _ _ _ _ _ rfl rfl tk.1 Try.underlying25 rfl sz25
            · exact ⟨(AZ4.out.tw).andThen (Turns.of_tick tk) (fun j hj e => by have := HP.out; omega), _, 5, none, rfl, HAR.out, fun _ => rfl, fun _ h => by cases h⟩
          | false =>
            have HNN := hide (show no ∉ numsF (flL Ld) from fun q => by have := HRR.out.2 q; cases this)
            have HT0 := hide (TX.out.trans T4.out)
            have EZ4 := hide (T4.out.heap EZX.out (fun x => x))
            have RX4 := hide (T4.out.heap RX.out (fun x => x))
            go_wp2_with fail
            go_loopw [14] (fun i wm => ∃ j : Nat, i = .int .i64 (j : Nat) ∧ j ≤ i2 ∧ (∀ (t : Nat) (d : AddF), t < j → (fA A)[t]? = some d → d.2.no ≠ no) ∧ Turns (fun _ => False) w4 wm) (fun i _ => i2 - (intOf i).toNat)
            case atStart => exact ⟨0, rfl, Nat.zero_le _, fun t d ht => absurd ht (Nat.not_lt_zero _), Turns.refl _ _⟩
            case round =>
              obtain ⟨j, rfl, hj, hjn, hb⟩ := hrel
              obtain ⟨wm, rfl⟩ : ∃ u, u = wr := ⟨wr, rfl⟩
              have HJN := hide hjn
              have HBM := hide hb
              have e1 := cell_of_row wm (P + 1) 1 _ 33 (0, 0) (hb.heap EZ4.out (fun x => x))
              have x0 : wm.cell? ⟨X, 0, none⟩ = some (.int .i64 lv) := cell_of_row wm X 0 _ 62 (0, 0) (hb.heap RX4.out (fun x => x))
              have x1 : wm.cell? ⟨X, 1, none⟩ = some (.int .u64 (no : Nat)) := cell_of_row wm X 1 _ 62 (0, 0) (hb.heap RX4.out (fun x => x))
              clear hb hjn
              by_cases hjk : j < i2
              · obtain ⟨d2, hd2⟩ : ∃ d, A[j]? = some d := ⟨_, List.getElem?_eq_getElem (by have := HAL.out; omega)⟩
                obtain ⟨⟨b2, off2, e2, _, h62⟩, _⟩ := (HADD.out.quiet (HT0.out.trans HBM.out)) j d2 hd2
                cases e2
                have jj1 : (j : Int) < (i2 : Int) := by omega
                have jj0 : (0 : Int) ≤ (j : Int) := by omega
                have jj2 : (j : Int) < (an : Int) := by omega
                have HD2 := hide (show (fA A)[j]? = some (d2.1, d2.2.f) by unfold fA; rw [List.getElem?_map, hd2]; rfl)
                have c0 := h62.c0
                generalize hno2 : d2.2.f.no = no2 at *
                have HN2 := hide hno2
                clear hd2 h62 hno2 x0
                by_cases hE : no2 = no
                · subst hE
                  have HAR := hide (show ApplyR (flL L) next seq log D (fA A) en es el none 5 from ApplyR.there m HWF.out HDR.out (by
                    rw [← HQE.out]
                    exact HAQ.out.there HD.out (.inr (List.mem_map.2 ⟨(d2.1, d2.2.f), List.mem_iff_getElem?.2 ⟨j, by rw [List.getElem?_take, if_pos (by omega)]; exact HD2.out⟩, HN2.out⟩))))
                  have HZ5 := hide (HBM.out.heap HZ4.out (fun x => x))
                  have rz0 := cell_of_row wm (P + 1 + 1) 0 _ 25 (0, 0) HZ5.out
                  have zz0 := frozen_of_row wm (P + 1 + 1) 0 _ 25 HZ5.out
                  have rz1 := cell_of_row wm (P + 1 + 1) 1 _ 25 (0, 0) HZ5.out
                  have zz1 := frozen_of_row wm (P + 1 + 1) 1 _ 25 HZ5.out
                  have rz2 := cell_of_row wm (P + 1 + 1) 2 _ 25 (0, 0) HZ5.out
                  have zz2 := frozen_of_row wm (P + 1 + 1) 2 _ 25 HZ5.out
                  have rz3 := cell_of_row wm (P + 1 + 1) 3 _ 25 (0, 0) HZ5.out
                  have zz3 := frozen_of_row wm (P + 1 + 1) 3 _ 25 HZ5.out
                  go_wp2_with fail
                  go_quiet (fail)
                  go_wp2_with fail
                  have HZD : (wm.drewN nq).heap[P + 1 + 1]? = some (.cells #[.slice none 0 0, .int .u64 0, .int .u64 0, .int .u64 0] 25) := HZ5.out
                  have tk := (((((Tick.refl HZD).set 0 (.slice none 0 0)).set 1 (.int .u64 0)).set 2 (.int .u64 0)).set 3 (.int .u64 0))
                  refine bodyPost_ret (v := .tuple #[.agg #[.slice none 0 0, .int .u64 0, .int .u64 0, .int .u64 0], .int .i64 5]) ?_ rfl ?_
                  · exact results_cell_tmp Try.results15 _ _ _ _ _ _ _ _ rfl rfl tk.1 Try.underlying25 rfl sz25
                  · exact ⟨((AZ4.out.tw.trans HBM.out).trans (drewN_turns wm nq)).andThen (Turns.of_tick tk) (fun j hj e => by have := HP.out; omega), _, 5, none, rfl, HAR.out, fun _ => rfl, fun _ h => by cases h⟩
                · have hEi : ¬ (no2 : Int) = (no : Int) := by omega
                  go_wp2_with fail
                  go_quiet (fail)
                  go_wp2_with fail
                  go_roundw
                  case rel =>
                    refine ⟨j + 1, by go_num, by omega, fun t d' ht hd' => ?_, HBM.out.trans ?_⟩
                    · rcases Nat.lt_or_ge t j with h | h
                      · exact HJN.out t d' h hd'
                      · obtain rfl : t = j := by omega
                        rw [HD2.out] at hd'
                        cases hd'
                        show d2.2.f.no ≠ no
                        rw [HN2.out]
                        exact hE
                    · first | exact (Turns.refl _ _).drew | exact drewN_turns _ _ | exact Turns.refl _ _
                  case measure => simp [intOf]; omega
              · have HJK := hide (show j = i2 by omega)
                have jj1 : ¬ (j : Int) < (i2 : Int) := by omega
                have HNT := hide (show no ∉ ((fA A).take i2).map fun d => d.2.no from fun q => by
                  obtain ⟨d, hd, e⟩ := List.mem_map.1 q
                  obtain ⟨t, ht⟩ := List.getElem?_of_mem hd
                  rw [List.getElem?_take] at ht
                  split at ht
                  · exact HJN.out t d (by have := HJK.out; omega) ht e
                  · cases ht)
                have HTA := hide (show ((fA A).take (i2 + 1)).all (fun d => goodLev d.1) = (((fA A).take i2).all (fun d => goodLev d.1) && goodLev lv) by rw [List.take_add_one, HD.out, List.all_append]; simp)
                have AZM := hide (AZ4.out.quiet HBM.out)
                clear hjk
                by_cases hlv : lv < 0 ∨ 5 ≤ lv
                · have HGL := hide (show goodLev lv = false by unfold goodLev; simp; omega)
                  by_cases hl0 : lv < 0
                  · clear hlv
                    go_wp2_with fail
                    go_roundw
                    case rel => exact ⟨i2 + 1, Ld, true, by go_num, rfl, by omega, by rw [HTA.out, HGL.out]; simp, AZM.out, HAQ.out.odd HD.out HNN.out HNT.out (by omega)⟩
                    case measure => simp [intOf]; omega
                  · have hl5 : 5 ≤ lv := by omega
                    clear hlv
                    go_wp2_with fail
                    go_roundw
                    case rel => exact ⟨i2 + 1, Ld, true, by go_num, rfl, by omega, by rw [HTA.out, HGL.out]; simp, AZM.out, HAQ.out.odd HD.out HNN.out HNT.out (by omega)⟩
                    case measure => simp [intOf]; omega
                · obtain ⟨lev, rfl⟩ : ∃ lev : Nat, lv = lev := ⟨lv.toNat, by omega⟩
                  have l0 : (0 : Int) ≤ (lev : Int) := by omega
                  have l5 : (lev : Int) < 5 := by omega
                  have HGL := hide (show goodLev (lev : Int) = true by unfold goodLev; simp; omega)
                  obtain ⟨x, hx⟩ : ∃ x, Ld[lev]? = some x := ⟨_, List.getElem?_eq_getElem (by have := AZ.out.len; omega)⟩
                  clear hlv x0 x1 e1
                  have HX := hide hx
                  have HXF := hide (show (flL Ld)[lev]? = some (fls x.l) from flL_at hx)
                  have hcl := (AZM.out.ds.levs lev x hx).1
                  have HFI := hide (AZM.out.ds.levs lev x hx).2
                  have HXR := hide (AZM.out.ds.rows x (List.mem_of_getElem? hx))
                  have HXT := hide (AZM.out.ds.files x (List.mem_of_getElem? hx))
                  have HXL := hide (show x.l.length ≤ 5000 by have q1 := cnt_take_le Ld (lev + 1); have q2 := cnt_take hx; have := (HCB.out i2 Ld HAQ.out).1; omega)
                  have HXLE := hide (show ∀ z ∈ x.l, z.f.least.length ≤ 1000000 from fun z hz => aq_least HAQ.out HQL.out (fun d hd => (HAF.out d hd).2.1) lev _ HXF.out z.f (List.mem_map.2 ⟨z, hz, rfl⟩))
                  have HXC := hide (show x.l.length ≤ x.c ∧ (x.a = none ∨ ∃ b off, x.a = some ⟨b, off, none⟩) by
                    rcases HXR.out with ⟨h1, h2, h3⟩ | ⟨gx, h1, h2, h3, h4⟩
                    · exact ⟨by rw [h2]; simp, .inl h1⟩
                    · exact ⟨h3, .inr ⟨gx, 0, h1⟩⟩)
                  obtain ⟨g', o', eg, hcl⟩ := hcl
                  cases eg
                  rw [Nat.zero_add] at hcl
                  have CP := hide (fun (u : World) (t : Turns (fun _ => False) wm u) (y' : Tf) (hy : FB u y') (hl : y'.f.least.length ≤ 1000000) => rput_any x.a x.l.length x.c lev x.l y' u (HFI.out.quiet t) rfl HXC.out.1 (by have := HXL.out; omega) hy hl HXC.out.2 HXLE.out)
                  obtain ⟨xa, xc, xl⟩ := x
                  simp only at *
                  generalize hXL : xl.length = XL at *
                  have HXN2 := hide hXL
                  have o0 := cell_of_row _ O 0 _ 25 (0, 0) AZM.out.ho
                  have rx := HBM.out.heap RX4.out (fun x => x)
                  have SK := hide (fun (u : World) (t : Turns (fun _ => False) wm u) => show (fun u => u.cell? ⟨O, 0, none⟩ = some (.slice (some ⟨g, 0, none⟩) 5 lc) ∧ u.cell? ⟨X, 0, none⟩ = some (.int .i64 ((lev : Nat) : Int)) ∧ u.cell? ⟨X, 1, none⟩ = some (.int .u64 (no : Nat)) ∧ u.cell? ⟨X, 2, none⟩ = some (.int .i64 sz) ∧ u.cell? ⟨X, 3, none⟩ = some (.slice la4 L1 lc4) ∧ u.cell? ⟨X, 4, none⟩ = some (.slice ma4 L2 mc4) ∧ u.cell? ⟨X, 5, none⟩ = some (.int .i64 en4) ∧ u.cell? ⟨X, 6, none⟩ = some (.int .u64 (sq : Nat)) ∧ u.cell? ⟨g, lev, none⟩ = some (.slice xa XL xc)) u from ⟨t.cell o0 (fun x => x), t.cell (cell_of_row wm X 0 _ 62 (0, 0) rx) (fun x => x), t.cell (cell_of_row wm X 1 _ 62 (0, 0) rx) (fun x => x), t.cell (cell_of_row wm X 2 _ 62 (0, 0) rx) (fun x => x), t.cell (cell_of_row wm X 3 _ 62 (0, 0) rx) (fun x => x), t.cell (cell_of_row wm X 4 _ 62 (0, 0) rx) (fun x => x), t.cell (cell_of_row wm X 5 _ 62 (0, 0) rx) (fun x => x), t.cell (cell_of_row wm X 6 _ 62 (0, 0) rx) (fun x => x), t.cell hcl (fun x => x)⟩)
                  have xx0 : wm.cell? ⟨X, 0, none⟩ = some (.int .i64 ((lev : Nat) : Int)) := cell_of_row wm X 0 _ 62 (0, 0) rx
                  clear hx hcl hXL o0 rx
                  go_upto_region 29 with (fail)
                  have tV : Turns (fun _ => False) wm wm.drew := (Turns.refl _ _).drew
                  refine wp_region_x_drew [16, 17] (S := fun u => u.cell? ⟨O, 0, none⟩ = some (.slice (some ⟨g, 0, none⟩) 5 lc) ∧ u.cell? ⟨X, 0, none⟩ = some (.int .i64 ((lev : Nat) : Int)) ∧ u.cell? ⟨X, 1, none⟩ = some (.int .u64 (no : Nat)) ∧ u.cell? ⟨X, 2, none⟩ = some (.int .i64 sz) ∧ u.cell? ⟨X, 3, none⟩ = some (.slice la4 L1 lc4) ∧ u.cell? ⟨X, 4, none⟩ = some (.slice ma4 L2 mc4) ∧ u.cell? ⟨X, 5, none⟩ = some (.int .i64 en4) ∧ u.cell? ⟨X, 6, none⟩ = some (.int .u64 (sq : Nat)) ∧ u.cell? ⟨g, lev, none⟩ = some (.slice xa XL xc)) (by kernel_rfl) (SK.out _ tV) (fun _ => ?_)
                  change wpAnyX _ _ _ _ _ _ 18 (Array.replicate 18 false) _ _
                  refine wpAnyX_take (i := 0) (oi := { dst := some 124, op := Op.fieldAddr 25 (Operand.tmp 7) 0, type := 0, pos := "ref.go:157", after := #[], guard := none }) (v := .pointer (some ⟨O, 0, none⟩)) rfl (by kernel_rfl) (by kernel_rfl) (by kernel_rfl) (by kernel_rfl) (by kernel_rfl) (fun _ _ _ h => h) (Or.inl ⟨by rfl, ?_⟩) (SK.out _ tV) ?_
                  · rintro w ⟨d0, d1, d2, d3, d4, d5, d6, d7, d8⟩
                    go_simp
                  simp only [Act.put, List.setIfInBounds_toArray, List.set_cons_zero, List.set_cons_succ]
                  refine wpAnyX_take (i := 1) (oi := { dst := some 125, op := Op.load 22 (Operand.tmp 124), type := 22, pos := "ref.go:157", after := #[{ on := 0, ground := Ground.data }], guard := none }) (v := .slice (some ⟨g, 0, none⟩) 5 lc) rfl (by kernel_rfl) (by kernel_rfl) (by kernel_rfl) (by kernel_rfl) (by kernel_rfl) (fun _ _ _ h => h) (Or.inl ⟨by rfl, ?_⟩) (SK.out _ tV) ?_
                  · rintro w ⟨d0, d1, d2, d3, d4, d5, d6, d7, d8⟩
                    go_simp
                  simp only [Act.put, List.setIfInBounds_toArray, List.set_cons_zero, List.set_cons_succ]
                  refine wpAnyX_take (i := 2) (oi := { dst := some 126, op := Op.fieldAddr 62 (Operand.tmp 13) 0, type := 0, pos := "ref.go:157", after := #[], guard := none }) (v := .pointer (some ⟨X, 0, none⟩)) rfl (by kernel_rfl) (by kernel_rfl) (by kernel_rfl) (by kernel_rfl) (by kernel_rfl) (fun _ _ _ h => h) (Or.inl ⟨by rfl, ?_⟩) (SK.out _ tV) ?_
                  · rintro w ⟨d0, d1, d2, d3, d4, d5, d6, d7, d8⟩
                    go_simp
                  simp only [Act.put, List.setIfInBounds_toArray, List.set_cons_zero, List.set_cons_succ]
                  refine wpAnyX_take (i := 3) (oi := { dst := some 127, op := Op.load 3 (Operand.tmp 126), type := 3, pos := "ref.go:157", after := #[{ on := 2, ground := Ground.data }], guard := none }) (v := .int .i64 ((lev : Nat) : Int)) rfl (by kernel_rfl) (by kernel_rfl) (by kernel_rfl) (by kernel_rfl) (by kernel_rfl) (fun _ _ _ h => h) (Or.inl ⟨by rfl, ?_⟩) (SK.out _ tV) ?_
                  · rintro w ⟨d0, d1, d2, d3, d4, d5, d6, d7, d8⟩
                    go_simp
                  simp only [Act.put, List.setIfInBounds_toArray, List.set_cons_zero, List.set_cons_succ]
                  refine wpAnyX_take (i := 4) (oi := { dst := some 128, op := Op.fieldAddr 25 (Operand.tmp 7) 0, type := 0, pos := "ref.go:157", after := #[], guard := none }) (v := .pointer (some ⟨O, 0, none⟩)) rfl (by kernel_rfl) (by kernel_rfl) (by kernel_rfl) (by kernel_rfl) (by kernel_rfl) (fun _ _ _ h => h) (Or.inl ⟨by rfl, ?_⟩) (SK.out _ tV) ?_
                  · rintro w ⟨d0, d1, d2, d3, d4, d5, d6, d7, d8⟩
                    go_simp
                  simp only [Act.put, List.setIfInBounds_toArray, List.set_cons_zero, List.set_cons_succ]
                  refine wpAnyX_take (i := 5) (oi := { dst := some 129, op := Op.load 22 (Operand.tmp 128), type := 22, pos := "ref.go:157", after := #[{ on := 4, ground := Ground.data }], guard := none }) (v := .slice (some ⟨g, 0, none⟩) 5 lc) rfl (by kernel_rfl) (by kernel_rfl) (by kernel_rfl) (by kernel_rfl) (by kernel_rfl) (fun _ _ _ h => h) (Or.inl ⟨by rfl, ?_⟩) (SK.out _ tV) ?_
                  · rintro w ⟨d0, d1, d2, d3, d4, d5, d6, d7, d8⟩
                    go_simp
                  simp only [Act.put, List.setIfInBounds_toArray, List.set_cons_zero, List.set_cons_succ]
                  refine wpAnyX_take (i := 6) (oi := { dst := some 130, op := Op.fieldAddr 62 (Operand.tmp 13) 0, type := 0, pos := "ref.go:157", after := #[], guard := none }) (v := .pointer (some ⟨X, 0, none⟩)) rfl (by kernel_rfl) (by kernel_rfl) (by kernel_rfl) (by kernel_rfl) (by kernel_rfl) (fun _ _ _ h => h) (Or.inl ⟨by rfl, ?_⟩) (SK.out _ tV) ?_
                  · rintro w ⟨d0, d1, d2, d3, d4, d5, d6, d7, d8⟩
                    go_simp
                  simp only [Act.put, List.setIfInBounds_toArray, List.set_cons_zero, List.set_cons_succ]
                  refine wpAnyX_take (i := 7) (oi := { dst := some 131, op := Op.load 3 (Operand.tmp 130), type := 3, pos := "ref.go:157", after := #[{ on := 6, ground := Ground.data }], guard := none }) (v := .int .i64 ((lev : Nat) : Int)) rfl (by kernel_rfl) (by kernel_rfl) (by kernel_rfl) (by kernel_rfl) (by kernel_rfl) (fun _ _ _ h => h) (Or.inl ⟨by rfl, ?_⟩) (SK.out _ tV) ?_
                  · rintro w ⟨d0, d1, d2, d3, d4, d5, d6, d7, d8⟩
                    go_simp
                  simp only [Act.put, List.setIfInBounds_toArray, List.set_cons_zero, List.set_cons_succ]
                  refine wpAnyX_take (i := 8) (oi := { dst := some 132, op := Op.indexAddr 22 (Operand.tmp 129) (Operand.tmp 131), type := 0, pos := "ref.go:157", after := #[{ on := 5, ground := Ground.data }, { on := 7, ground := Ground.data }], guard := none }) (v := .pointer (some ⟨g, lev, none⟩)) rfl (by kernel_rfl) (by kernel_rfl) (by kernel_rfl) (by kernel_rfl) (by kernel_rfl) (fun _ _ _ h => h) (Or.inl ⟨by rfl, ?_⟩) (SK.out _ tV) ?_
                  · rintro w ⟨d0, d1, d2, d3, d4, d5, d6, d7, d8⟩
                    go_simp
                  simp only [Act.put, List.setIfInBounds_toArray, List.set_cons_zero, List.set_cons_succ]
                  refine wpAnyX_take (i := 9) (oi := { dst := some 133, op := Op.load 50 (Operand.tmp 132), type := 50, pos := "ref.go:157", after := #[{ on := 8, ground := Ground.data }], guard := none }) (v := .slice xa XL xc) rfl (by kernel_rfl) (by kernel_rfl) (by kernel_rfl) (by kernel_rfl) (by kernel_rfl) (fun _ _ _ h => h) (Or.inl ⟨by rfl, ?_⟩) (SK.out _ tV) ?_
                  · rintro w ⟨d0, d1, d2, d3, d4, d5, d6, d7, d8⟩
                    go_simp
                  simp only [Act.put, List.setIfInBounds_toArray, List.set_cons_zero, List.set_cons_succ]
                  refine wpAnyX_take (i := 10) (oi := { dst := some 134, op := Op.fieldAddr 62 (Operand.tmp 13) 1, type := 0, pos := "ref.go:157", after := #[], guard := none }) (v := .pointer (some ⟨X, 1, none⟩)) rfl (by kernel_rfl) (by kernel_rfl) (by kernel_rfl) (by kernel_rfl) (by kernel_rfl) (fun _ _ _ h => h) (Or.inl ⟨by rfl, ?_⟩) (SK.out _ tV) ?_
                  · rintro w ⟨d0, d1, d2, d3, d4, d5, d6, d7, d8⟩
                    go_simp
                  simp only [Act.put, List.setIfInBounds_toArray, List.set_cons_zero, List.set_cons_succ]
                  refine wpAnyX_take (i := 11) (oi := { dst := some 135, op := Op.load 37 (Operand.tmp 134), type := 37, pos := "ref.go:157", after := #[{ on := 10, ground := Ground.data }], guard := none }) (v := .agg #[.int .u64 (no : Nat), .int .i64 sz, .slice la4 L1 lc4, .slice ma4 L2 mc4, .int .i64 en4, .int .u64 (sq : Nat)]) rfl (by kernel_rfl) (by kernel_rfl) (by kernel_rfl) (by kernel_rfl) (by kernel_rfl) (fun _ _ _ h => h) (Or.inl ⟨by rfl, ?_⟩) (SK.out _ tV) ?_
                  · rintro w ⟨d0, d1, d2, d3, d4, d5, d6, d7, d8⟩
                    go_simp
                  simp only [Act.put, List.setIfInBounds_toArray, List.set_cons_zero, List.set_cons_succ]
                  refine wpAnyX_take (i := 13) (oi := { dst := some 137, op := Op.fieldAddr 62 (Operand.tmp 13) 0, type := 0, pos := "ref.go:157", after := #[], guard := none }) (v := .pointer (some ⟨X, 0, none⟩)) rfl (by kernel_rfl) (by kernel_rfl) (by kernel_rfl) (by kernel_rfl) (by kernel_rfl) (fun _ _ _ h => h) (Or.inl ⟨by rfl, ?_⟩) (SK.out _ tV) ?_
                  · rintro w ⟨d0, d1, d2, d3, d4, d5, d6, d7, d8⟩
                    go_simp
                  simp only [Act.put, List.setIfInBounds_toArray, List.set_cons_zero, List.set_cons_succ]
                  refine wpAnyX_take (i := 14) (oi := { dst := some 138, op := Op.load 3 (Operand.tmp 137), type := 3, pos := "ref.go:157", after := #[{ on := 13, ground := Ground.data }], guard := none }) (v := .int .i64 ((lev : Nat) : Int)) rfl (by kernel_rfl) (by kernel_rfl) (by kernel_rfl) (by kernel_rfl) (by kernel_rfl) (fun _ _ _ h => h) (Or.inl ⟨by rfl, ?_⟩) (SK.out _ tV) ?_
                  · rintro w ⟨d0, d1, d2, d3, d4, d5, d6, d7, d8⟩
                    go_simp
                  simp only [Act.put, List.setIfInBounds_toArray, List.set_cons_zero, List.set_cons_succ]
                  refine wpAnyX_ready (rs := [12]) (by kernel_rfl) (by simp) ?_
                  refine AllReadyX.cons rfl (fun K hK => ?_) AllReadyX.nil
                  go_simp
                  refine (CO.out _ (HT0.out.trans (HBM.out.trans tV))).mono ?_
                  rintro oo w7 ⟨y', rfl, hyf, hft, tC⟩
                  have tV := tV.trans tC
                  have HYF := hide hyf
                  have HW7 := hide (show wm.heap.size ≤ w7.heap.size from tV.size)
                  have HFT7 := hide (hft.mono (show w.heap.size ≤ wm.drew.heap.size from AZM.out.tw.size))
                  clear hyf hft tC
                  go_simp
                  refine hK.out _ _ (SK.out _ tV) (fun _ => ?_)
                  clear hK K
                  have CP7 := hide (CP.out w7 tV y' HFT7.out.fb (by rw [HYF.out]; show ls.length ≤ 1000000; rw [HL12.out.1]; exact HFT.out.2.1))
                  refine wpAnyX_ready (rs := [15]) (by kernel_rfl) (by simp) ?_
                  refine AllReadyX.cons rfl (fun K hK => ?_) AllReadyX.nil
                  go_simp
                  refine CP7.out.mono ?_
                  rintro oo w8 ⟨p, ra, rc, rfl, hp, hro, hp1, hp2, tC⟩
                  have tC8 := hide tC
                  have tV := tV.trans tC
                  have HRO := hide (hro.mono (show w.heap.size ≤ w7.heap.size from Nat.le_trans AZM.out.tw.size HW7.out))
                  have HP1 := hide hp1
                  have HP2 := hide hp2
                  have HPL := hide hp
                  clear hro hp1 hp2 hp tC
                  go_simp
                  refine hK.out _ _ (SK.out _ tV) (fun _ => ?_)
                  clear hK K
                  refine wpAnyX_late (i := 16) (oi := { dst := some 140, op := Op.indexAddr 22 (Operand.tmp 125) (Operand.tmp 127), type := 0, pos := "ref.go:157", after := #[{ on := 1, ground := Ground.data }, { on := 3, ground := Ground.data }, { on := 0, ground := Ground.phase }, { on := 1, ground := Ground.phase }, { on := 2, ground := Ground.phase }, { on := 3, ground := Ground.phase }, { on := 4, ground := Ground.phase }, { on := 5, ground := Ground.phase }, { on := 6, ground := Ground.phase }, { on := 7, ground := Ground.phase }, { on := 8, ground := Ground.phase }, { on := 9, ground := Ground.phase }, { on := 10, ground := Ground.phase }, { on := 11, ground := Ground.phase }, { on := 12, ground := Ground.phase }, { on := 13, ground := Ground.phase }, { on := 14, ground := Ground.phase }, { on := 15, ground := Ground.phase }], guard := none }) (v := .pointer (some ⟨g, lev, none⟩)) rfl (by kernel_rfl) (by kernel_rfl) (by kernel_rfl) (by kernel_rfl) (fun _ _ _ h => h) (Or.inl ⟨by rfl, ?_⟩) ?_
                  · rintro w -
                    go_simp
                  simp only [Act.put, List.setIfInBounds_toArray, List.set_cons_zero, List.set_cons_succ]
                  have AZ5 := hide (AZM.out.quiet tV)
                  have HFTS := hide (show ∀ z ∈ xl.take p ++ y' :: xl.drop p, FT w8 w.heap.size z from fun z hz => by
                    rcases List.mem_append.1 hz with h | h
                    · exact (HXT.out z (List.mem_of_mem_take h)).quiet tV
                    · rcases List.mem_cons.1 h with rfl | h
                      · exact HFT7.out.quiet tC8.out
                      · exact (HXT.out z (List.mem_of_mem_drop h)).quiet tV)
                  have AZ6 := hide (AZ5.out.put (k := lev) (by omega) ⟨ra, rc, xl.take p ++ y' :: xl.drop p⟩ HRO.out HFTS.out)
                  unfold lvCell at AZ6
                  simp only at AZ6
                  rw [show (xl.take p ++ y' :: xl.drop p).length = XL + 1 by have := HXN2.out; simp; have := HPL.out; omega] at AZ6
                  have b1 := (SK.out _ tV).2.2.2.2.2.2.2.2
                  have b2 : w8.frozen? ⟨g, lev, none⟩ = false := by obtain ⟨g9, e9, _, _, cs, hc⟩ := AZ5.out.base; cases e9; exact frozen_of_row w8 g lev cs 50 hc
                  clear tV
                  refine wpAnyX_ready (rs := [17]) (by kernel_rfl) (by simp) ?_
                  refine AllReadyX.free rfl (by kernel_rfl) (fun K hK => ?_) AllReadyX.nil
                  go_simp
                  refine hK.out _ _ ?_
                  clear hK K b1 b2
                  refine wpAnyX_done (by kernel_rfl) ?_ _
                  generalize w8.setCell ⟨g, lev, none⟩ (.slice ra (XL + 1) rc) = w9 at *
                  go_wp2_with fail
                  go_roundw
                  case rel =>
                    refine ⟨i2 + 1, _, o, by go_num, rfl, by omega, by rw [HTA.out, HGL.out, HOD.out]; simp, AZ6.out, ?_⟩
                    rw [flL_set]
                    have e7 : fls (xl.take p ++ y' :: xl.drop p) = (fls xl).take p ++ y'.f :: (fls xl).drop p := by simp [fls, List.map_take, List.map_drop]
                    simp only [e7, HYF.out]
                    have hp1 := HP1.out
                    have hp2 := HP2.out
                    rw [HYF.out] at hp1 hp2
                    refine HAQ.out.put HD.out HNN.out HNT.out rfl HXF.out (fun z hz => ?_) (fun z hz => ?_)
                    · rw [fls, ← List.map_take] at hz
                      obtain ⟨z0, h0, rfl⟩ := List.mem_map.1 hz
                      exact hp1 z0 h0
                    · simp only [fls, List.getElem?_map, Option.map_eq_some_iff] at hz
                      obtain ⟨z0, h0, rfl⟩ := hz
                      exact hp2 z0 h0
                  case measure => simp [intOf]; omega
        · have HIK := hide (show i2 = an by omega)
          have j1 : ¬ (i2 : Int) < (an : Int) := by omega
          have HDONE := hide (show okAdds (mp (pairsF (flL Lc))) (nosF (fA A)) = true ∧ Comes (flL Lc) (fA A) (flL Ld) from Aq.done (by have := HAQ.out; rwa [HIK.out, ← HFAL.out] at this))
          have HO2 := hide (show o = !(fA A).all (fun d => goodLev d.1) by rw [HOD.out, HIK.out, ← HFAL.out, List.take_length])
          have HVI := hide (fun (u : World) (t : Levs u (some ⟨g, 0, none⟩) Ld) => show VerIn u (some ⟨g, 0, none⟩) 5 Ld en es el from ⟨t, AZ.out.len.symm, (HCB.out i2 Ld HAQ.out).1, (HCB.out i2 Ld HAQ.out).2, fun x hx y hy => by
            obtain ⟨t, ht⟩ := List.getElem?_of_mem hx
            exact aq_nofit HAQ.out HQF.out (fun d hd => (HAF.out d hd).1) y.f.no (numsF_mem.2 ⟨t, fls x.l, y.f, flL_at ht, List.mem_map.2 ⟨y, hy, rfl⟩, rfl⟩), HE.out.b1, HE.out.b2, HE.out.b3⟩)
          have HPO := hide (show P + 1 + 1 < O by have := AZ.out.hO; have := HP.out; omega)
          have SK30 := hide (fun (u : World) (t : Turns (fun j => j = O) wr u) => show (fun u => u.cell? ⟨P + 1, 2, none⟩ = some (.int .u64 (en : Nat)) ∧ u.cell? ⟨P + 1, 3, none⟩ = some (.int .u64 (es : Nat)) ∧ u.cell? ⟨P + 1, 4, none⟩ = some (.int .u64 (el : Nat))) u from ⟨t.cell (cell_of_row wr (P + 1) 2 _ 33 (0, 0) EZ.out) (show ¬ P + 1 = O by have := HPO.out; omega), t.cell (cell_of_row wr (P + 1) 3 _ 33 (0, 0) EZ.out) (show ¬ P + 1 = O by have := HPO.out; omega), t.cell (cell_of_row wr (P + 1) 4 _ 33 (0, 0) EZ.out) (show ¬ P + 1 = O by have := HPO.out; omega)⟩)
          clear hin
          go_upto_region 30 with (fail)
          have tV : Turns (fun j => j = O) wr wr.drew := (Turns.refl _ _).drew
          have HO0 : wr.drew.heap[O]? = some (.cells #[.slice (some ⟨g, 0, none⟩) 5 lc, .int .u64 (next : Nat), .int .u64 (seq : Nat), .int .u64 (log : Nat)] 25 (0, 0)) := AZ.out.ho
          refine wp_region_held_drew (S := fun u => u.cell? ⟨P + 1, 2, none⟩ = some (.int .u64 (en : Nat)) ∧ u.cell? ⟨P + 1, 3, none⟩ = some (.int .u64 (es : Nat)) ∧ u.cell? ⟨P + 1, 4, none⟩ = some (.int .u64 (el : Nat))) (by kernel_rfl) (SK30.out _ tV) (fun _ => ?_)
          change wpAnyH _ _ _ _ _ 12 (Array.replicate 12 false) _ _
          generalize wr.drew = U0 at *
          refine wpAnyH_take (i := 0) (oi := { dst := some 141, op := Op.fieldAddr 33 (Operand.tmp 3) 2, type := 0, pos := "ref.go:159", after := #[], guard := none }) (v := .pointer (some ⟨P + 1, 2, none⟩)) rfl (by kernel_rfl) (by kernel_rfl) (by kernel_rfl) (fun _ _ _ h => h) (Or.inl ⟨by rfl, ?_⟩) (SK30.out _ tV) ?_
          · rintro w ⟨d2, d3, d4⟩
            go_simp
          simp only [Act.put, List.setIfInBounds_toArray, List.set_cons_zero, List.set_cons_succ]
          refine wpAnyH_take (i := 1) (oi := { dst := some 142, op := Op.load 23 (Operand.tmp 141), type := 23, pos := "ref.go:159", after := #[{ on := 0, ground := Ground.data }], guard := none }) (v := .int .u64 (en : Nat)) rfl (by kernel_rfl) (by kernel_rfl) (by kernel_rfl) (fun _ _ _ h => h) (Or.inl ⟨by rfl, ?_⟩) (SK30.out _ tV) ?_
          · rintro w ⟨d2, d3, d4⟩
            go_simp
          simp only [Act.put, List.setIfInBounds_toArray, List.set_cons_zero, List.set_cons_succ]
          refine wpAnyH_take (i := 2) (oi := { dst := some 143, op := Op.fieldAddr 33 (Operand.tmp 3) 3, type := 0, pos := "ref.go:159", after := #[{ on := 7, ground := Ground.gcOnly Departure.lateStores }], guard := none }) (v := .pointer (some ⟨P + 1, 3, none⟩)) rfl (by kernel_rfl) (by kernel_rfl) (by kernel_rfl) (fun _ _ _ h => h) (Or.inl ⟨by rfl, ?_⟩) (SK30.out _ tV) ?_
          · rintro w ⟨d2, d3, d4⟩
            go_simp
          simp only [Act.put, List.setIfInBounds_toArray, List.set_cons_zero, List.set_cons_succ]
          refine wpAnyH_take (i := 3) (oi := { dst := some 144, op := Op.load 23 (Operand.tmp 143), type := 23, pos := "ref.go:159", after := #[{ on := 2, ground := Ground.data }, { on := 7, ground := Ground.gcOnly Departure.lateStores }], guard := none }) (v := .int .u64 (es : Nat)) rfl (by kernel_rfl) (by kernel_rfl) (by kernel_rfl) (fun _ _ _ h => h) (Or.inl ⟨by rfl, ?_⟩) (SK30.out _ tV) ?_
          · rintro w ⟨d2, d3, d4⟩
            go_simp
          simp only [Act.put, List.setIfInBounds_toArray, List.set_cons_zero, List.set_cons_succ]
          refine wpAnyH_take (i := 4) (oi := { dst := some 145, op := Op.fieldAddr 33 (Operand.tmp 3) 4, type := 0, pos := "ref.go:159", after := #[{ on := 9, ground := Ground.gcOnly Departure.lateStores }], guard := none }) (v := .pointer (some ⟨P + 1, 4, none⟩)) rfl (by kernel_rfl) (by kernel_rfl) (by kernel_rfl) (fun _ _ _ h => h) (Or.inl ⟨by rfl, ?_⟩) (SK30.out _ tV) ?_
          · rintro w ⟨d2, d3, d4⟩
            go_simp
          simp only [Act.put, List.setIfInBounds_toArray, List.set_cons_zero, List.set_cons_succ]
          refine wpAnyH_take (i := 5) (oi := { dst := some 146, op := Op.load 23 (Operand.tmp 145), type := 23, pos := "ref.go:159", after := #[{ on := 4, ground := Ground.data }, { on := 9, ground := Ground.gcOnly Departure.lateStores }], guard := none }) (v := .int .u64 (el : Nat)) rfl (by kernel_rfl) (by kernel_rfl) (by kernel_rfl) (fun _ _ _ h => h) (Or.inl ⟨by rfl, ?_⟩) (SK30.out _ tV) ?_
          · rintro w ⟨d2, d3, d4⟩
            go_simp
          simp only [Act.put, List.setIfInBounds_toArray, List.set_cons_zero, List.set_cons_succ]
          have K0 := Tick.refl HO0
          have TU0 := hide tV
          refine wpAnyH_take (i := 6) (oi := { dst := some 147, op := Op.fieldAddr 25 (Operand.tmp 7) 1, type := 0, pos := "ref.go:159", after := #[{ on := 0, ground := Ground.phase }, { on := 1, ground := Ground.phase }, { on := 2, ground := Ground.textOnly Departure.lateStores }, { on := 3, ground := Ground.textOnly Departure.lateStores }, { on := 4, ground := Ground.textOnly Departure.lateStores }, { on := 5, ground := Ground.textOnly Departure.lateStores }], guard := none }) (v := .pointer (some ⟨O, 1, none⟩)) rfl (by kernel_rfl) (by kernel_rfl) (by kernel_rfl) (fun _ _ _ h => h) (Or.inl ⟨by rfl, ?_⟩) (SK30.out _ tV) ?_
          · rintro w ⟨d2, d3, d4⟩
            go_simp
          simp only [Act.put, List.setIfInBounds_toArray, List.set_cons_zero, List.set_cons_succ]
          have b1 := K0.cell 1
          have b2 := K0.frozen 1
          simp at b1
          have K1 := K0.set 1 (.int .u64 (en : Nat))
          have tV : Turns (fun j => j = O) wr _ := TU0.out.trans (Turns.of_tick K1)
          refine wpAnyH_ready (rs := [7]) (by kernel_rfl) (by simp) ?_
          refine AllReadyH.cons rfl (fun K hK => ?_) AllReadyH.nil
          go_simp
          refine hK.out _ _ (SK30.out _ tV) (fun _ => ?_)
          clear hK K b1 b2 K0
          generalize U0.setCell ⟨O, 1, none⟩ (.int .u64 (en : Nat)) = w31 at *
          refine wpAnyH_take (i := 8) (oi := { dst := some 148, op := Op.fieldAddr 25 (Operand.tmp 7) 2, type := 0, pos := "ref.go:159", after := #[{ on := 0, ground := Ground.phase }, { on := 1, ground := Ground.phase }, { on := 2, ground := Ground.phase }, { on := 3, ground := Ground.phase }, { on := 4, ground := Ground.textOnly Departure.lateStores }, { on := 5, ground := Ground.textOnly Departure.lateStores }, { on := 6, ground := Ground.phase }, { on := 7, ground := Ground.phase }], guard := none }) (v := .pointer (some ⟨O, 2, none⟩)) rfl (by kernel_rfl) (by kernel_rfl) (by kernel_rfl) (fun _ _ _ h => h) (Or.inl ⟨by rfl, ?_⟩) (SK30.out _ tV) ?_
          · rintro w ⟨d2, d3, d4⟩
            go_simp
          simp only [Act.put, List.setIfInBounds_toArray, List.set_cons_zero, List.set_cons_succ]
          have b1 := K1.cell 2
          have b2 := K1.frozen 2
          simp at b1
          have K2 := K1.set 2 (.int .u64 (es : Nat))
          have tV : Turns (fun j => j = O) wr _ := TU0.out.trans (Turns.of_tick K2)
          refine wpAnyH_ready (rs := [9]) (by kernel_rfl) (by simp) ?_
          refine AllReadyH.cons rfl (fun K hK => ?_) AllReadyH.nil
          go_simp
          refine hK.out _ _ (SK30.out _ tV) (fun _ => ?_)
          clear hK K b1 b2 K1
          generalize w31.setCell ⟨O, 2, none⟩ (.int .u64 (es : Nat)) = w32 at *
          refine wpAnyH_take (i := 10) (oi := { dst := some 149, op := Op.fieldAddr 25 (Operand.tmp 7) 3, type := 0, pos := "ref.go:159", after := #[{ on := 0, ground := Ground.phase }, { on := 1, ground := Ground.phase }, { on := 2, ground := Ground.phase }, { on := 3, ground := Ground.phase }, { on := 4, ground := Ground.phase }, { on := 5, ground := Ground.phase }, { on := 6, ground := Ground.phase }, { on := 7, ground := Ground.phase }, { on := 8, ground := Ground.phase }, { on := 9, ground := Ground.phase }], guard := none }) (v := .pointer (some ⟨O, 3, none⟩)) rfl (by kernel_rfl) (by kernel_rfl) (by kernel_rfl) (fun _ _ _ h => h) (Or.inl ⟨by rfl, ?_⟩) (SK30.out _ tV) ?_
          · rintro w ⟨d2, d3, d4⟩
            go_simp
          simp only [Act.put, List.setIfInBounds_toArray, List.set_cons_zero, List.set_cons_succ]
          have b1 := K2.cell 3
          have b2 := K2.frozen 3
          simp at b1
          have K3 := K2.set 3 (.int .u64 (el : Nat))
          have tV : Turns (fun j => j = O) wr _ := TU0.out.trans (Turns.of_tick K3)
          refine wpAnyH_ready (rs := [11]) (by kernel_rfl) (by simp) ?_
          refine AllReadyH.cons rfl (fun K hK => ?_) AllReadyH.nil
          go_simp
          refine hK.out _ _ (SK30.out _ tV) (fun _ => ?_)
          clear hK K b1 b2 K2
          generalize w32.setCell ⟨O, 3, none⟩ (.int .u64 (el : Nat)) = w33 at *
          refine wpAnyH_done (by kernel_rfl) ?_ _
          have HTV := hide tV
          have HK3 := hide K3
          have ho3 := K3.1
          simp at ho3
          have q0 := cell_of_row w33 O 0 _ 25 (0, 0) ho3
          have q1 := cell_of_row w33 O 1 _ 25 (0, 0) ho3
          have q2 := cell_of_row w33 O 2 _ 25 (0, 0) ho3
          have q3 := cell_of_row w33 O 3 _ 25 (0, 0) ho3
          have HO3 := hide ho3
          have HDS3 := hide (AZ.out.ds.off tV (fun j e cs ty z hz => by rw [e, AZ.out.ho] at hz; cases hz; decide))
          have HTW3 := hide (AZ.out.tw.andThen tV (fun j hj e => by have := HPO.out; have := HP.out; omega))
          have HZ3 := hide (tV.heap (show wr.heap[P + 1 + 1]? = some (.cells #[.slice none 0 0, .int .u64 0, .int .u64 0, .int .u64 0] 25) by have := AZ.out.hz; rwa [HP.out] at this) (show ¬ P + 1 + 1 = O by have := HPO.out; omega))
          have CK3 := hide (rcheck_any (some ⟨g, 0, none⟩) 5 lc en es el Ld w33 (HVI.out w33 HDS3.out.levs))
          unfold verAgg at CK3
          clear tV K3 ho3
          go_wp2_with fail
          refine CK3.out.mono ?_
          rintro e w34 ⟨rfl, t5⟩
          have T5 := hide t5
          have ho4 := t5.heap HO3.out (fun x => x)
          have q0 := cell_of_row w34 O 0 _ 25 (0, 0) ho4
          have q1 := cell_of_row w34 O 1 _ 25 (0, 0) ho4
          have q2 := cell_of_row w34 O 2 _ 25 (0, 0) ho4
          have q3 := cell_of_row w34 O 3 _ 25 (0, 0) ho4
          have HZ4 := hide (t5.heap HZ3.out (fun x => x))
          have HTW4 := hide (HTW3.out.trans t5)
          have HDS4 := hide (HDS3.out.quiet t5)
          clear t5 ho4
          have HOK := hide (show okAdds (mp (pairsF ((flL L).map (List.filter (keepF m))))) (nosF (fA A)) = true by rw [← HQE.out]; exact HDONE.out.1)
          have HCM := hide (show Comes ((flL L).map (List.filter (keepF m))) (fA A) (flL Ld) by rw [← HQE.out]; exact HDONE.out.2)
          cases o with
          | true =>
            have HAR := hide (show ApplyR (flL L) next seq log D (fA A) en es el none 2 from ApplyR.lev m HWF.out HDR.out HOK.out (by have := HO2.out; revert this; cases (fA A).all (fun d => goodLev d.1) <;> simp))
            have rz0 := cell_of_row w34 (P + 1 + 1) 0 _ 25 (0, 0) HZ4.out
            have zz0 := frozen_of_row w34 (P + 1 + 1) 0 _ 25 HZ4.out
            have rz1 := cell_of_row w34 (P + 1 + 1) 1 _ 25 (0, 0) HZ4.out
            have zz1 := frozen_of_row w34 (P + 1 + 1) 1 _ 25 HZ4.out
            have rz2 := cell_of_row w34 (P + 1 + 1) 2 _ 25 (0, 0) HZ4.out
            have zz2 := frozen_of_row w34 (P + 1 + 1) 2 _ 25 HZ4.out
            have rz3 := cell_of_row w34 (P + 1 + 1) 3 _ 25 (0, 0) HZ4.out
            have zz3 := frozen_of_row w34 (P + 1 + 1) 3 _ 25 HZ4.out
            go_wp2_with fail
            have tk := (((((Tick.refl HZ4.out).set 0 (.slice none 0 0)).set 1 (.int .u64 0)).set 2 (.int .u64 0)).set 3 (.int .u64 0))
            refine bodyPost_ret (v := .tuple #[.agg #[.slice none 0 0, .int .u64 0, .int .u64 0, .int .u64 0], .int .i64 2]) ?_ rfl ?_
            · exact results_cell_tmp Try.results15 _ _ _ _ _ _ _ _ rfl rfl tk.1 Try.underlying25 rfl sz25
            · exact ⟨(HTW4.out).andThen (Turns.of_tick tk) (fun j hj e => by have := HP.out; omega), _, 2, none, rfl, HAR.out, fun _ => rfl, fun _ h => by cases h⟩
          | false =>
            have HGD := hide (show (fA A).all (fun d => goodLev d.1) = true by have := HO2.out; revert this; cases (fA A).all (fun d => goodLev d.1) <;> simp)
            by_cases hw3 : wrongV Ld en es el = true
            · rw [show chkV Ld en es el = 2 by unfold chkV; rw [if_pos hw3]]
              have HAR := hide (show ApplyR (flL L) next seq log D (fA A) en es el none 2 from ApplyR.bad m (flL Ld) HWF.out HDR.out HOK.out HGD.out HCM.out (by rw [← wrongV_F]; exact hw3))
              clear hw3
              have rz0 := cell_of_row w34 (P + 1 + 1) 0 _ 25 (0, 0) HZ4.out
              have zz0 := frozen_of_row w34 (P + 1 + 1) 0 _ 25 HZ4.out
              have rz1 := cell_of_row w34 (P + 1 + 1) 1 _ 25 (0, 0) HZ4.out
              have zz1 := frozen_of_row w34 (P + 1 + 1) 1 _ 25 HZ4.out
              have rz2 := cell_of_row w34 (P + 1 + 1) 2 _ 25 (0, 0) HZ4.out
              have zz2 := frozen_of_row w34 (P + 1 + 1) 2 _ 25 HZ4.out
              have rz3 := cell_of_row w34 (P + 1 + 1) 3 _ 25 (0, 0) HZ4.out
              have zz3 := frozen_of_row w34 (P + 1 + 1) 3 _ 25 HZ4.out
              go_wp2_with fail
              have tk := (((((Tick.refl HZ4.out).set 0 (.slice none 0 0)).set 1 (.int .u64 0)).set 2 (.int .u64 0)).set 3 (.int .u64 0))
              refine bodyPost_ret (v := .tuple #[.agg #[.slice none 0 0, .int .u64 0, .int .u64 0, .int .u64 0], .int .i64 2]) ?_ rfl ?_
              · exact results_cell_tmp Try.results15 _ _ _ _ _ _ _ _ rfl rfl tk.1 Try.underlying25 rfl sz25
              · exact ⟨(HTW4.out).andThen (Turns.of_tick tk) (fun j hj e => by have := HP.out; omega), _, 2, none, rfl, HAR.out, fun _ => rfl, fun _ h => by cases h⟩
            · rw [Bool.not_eq_true] at hw3
              rw [show chkV Ld en es el = 0 by unfold chkV; rw [if_neg (by rw [hw3]; simp)]]
              have HAR := hide (show ApplyR (flL L) next seq log D (fA A) en es el (some (flL Ld)) 0 from ApplyR.ok m (flL Ld) HWF.out HDR.out HOK.out HGD.out HCM.out (by rw [← wrongV_F]; exact hw3))
              clear hw3
              have rz0 := cell_of_row w34 (P + 1 + 1) 0 _ 25 (0, 0) HZ4.out
              have zz0 := frozen_of_row w34 (P + 1 + 1) 0 _ 25 HZ4.out
              have rz1 := cell_of_row w34 (P + 1 + 1) 1 _ 25 (0, 0) HZ4.out
              have zz1 := frozen_of_row w34 (P + 1 + 1) 1 _ 25 HZ4.out
              have rz2 := cell_of_row w34 (P + 1 + 1) 2 _ 25 (0, 0) HZ4.out
              have zz2 := frozen_of_row w34 (P + 1 + 1) 2 _ 25 HZ4.out
              have rz3 := cell_of_row w34 (P + 1 + 1) 3 _ 25 (0, 0) HZ4.out
              have zz3 := frozen_of_row w34 (P + 1 + 1) 3 _ 25 HZ4.out
              go_wp2_with fail
              have tk := (((((Tick.refl HZ4.out).set 0 (.slice (some ⟨g, 0, none⟩) 5 lc)).set 1 (.int .u64 (en : Nat))).set 2 (.int .u64 (es : Nat))).set 3 (.int .u64 (el : Nat)))
              have tt := Turns.of_tick tk
              refine bodyPost_ret (v := .tuple #[.agg #[.slice (some ⟨g, 0, none⟩) 5 lc, .int .u64 (en : Nat), .int .u64 (es : Nat), .int .u64 (el : Nat)], .int .i64 0]) ?_ rfl ?_
              · exact results_cell_tmp Try.results15 _ _ _ _ _ _ _ _ rfl rfl tk.1 Try.underlying25 rfl sz25
              · refine ⟨HTW4.out.andThen tt (fun j hj e => by have := HP.out; omega), _, 0, _, rfl, HAR.out, fun h => (by cases h), fun LL' h => ?_⟩
                cases h
                exact ⟨some ⟨g, 0, none⟩, lc, Ld, rfl, rfl, (HDS4.out.off tt (fun j e cs ty z hz => by rw [e, HZ4.out] at hz; cases hz; decide)).levs, AZ.out.len⟩
end Go.Proofs.Ytmmcikbedegigaa
