import Derived.Test.YtpgligfolecieaaM26
import Derived.Test.YtpgligfolecieaaM19
import Derived.Test.YtpgligfolecieaaM15
/-
  Run.
-/
namespace Go.Proofs.Ytpgligfolecieaa
open Go.RowKit
set_option maxRecDepth 100000
set_option maxHeartbeats 4000000
theorem inOrd_ents {R R' : List Tow} (h : R.map (·.e) = R'.map (·.e)) : inOrd (ents R) = inOrd (ents R') := by unfold ents; rw [h]
/-- What Run answers: of the rows merged. -/
def RunOk (w w' : World) (rs : List Rw) (ks : List Nat) (bot : Bool) (t : Int) (e : Ending) : Prop :=
  ((eachOrd rs && looksOk ks && tgt t) = false ∧ e = .returned (.tuple #[.slice none 0 0, .int .i64 2])) ∨
  ((eachOrd rs && looksOk ks && tgt t) = true ∧ ∃ (v : Value) (xs : List Tow), e = .returned (.tuple #[v, .int .i64 0]) ∧ Mg (hds rs) xs ∧ Files w' w.heap.size (cutE t (rowE (allC ks) bot (ents xs))) v)
theorem Run_any (a la : Option Addr) (n c ln lc : Nat) (rs : List Rw) (ks : List Nat) (bot : Bool) (t : Int) (w : World) (h : RowsIn w a rs) (hn : n = rs.length) (hf : Fine rs) (hk : U64s w la ks) (hkn : ln = ks.length) (hlc : ln ≤ lc) (hkm : ln ≤ 100000) (hz : ∀ xs, Mg (hds rs) xs → xs.length ≤ 1000000 ∧ ∀ es, (∀ x, x ∈ es → x ∈ ents xs) → es.length ≤ xs.length → sizeEs es ≤ 1000000000000) :
    Calls Try.prog 11 #[.slice a n c, .slice la ln lc, .bool bot, .int .i64 t] w fun e w' => RunOk w w' rs ks bot t e ∧ Turns (fun _ => False) w w' := by
  have AL := hide (all_any a n c rs w h hn hf)
  have LK := hide (fun (u : World) (t : Turns (fun _ => False) w u) => checkLooks_any la ln lc ks u (hk.quiet t) hkn (by omega))
  have EV := hide (fun (u : World) (t : Turns (fun _ => False) w u) => everybody_any la ln lc ks u (hk.quiet t) hkn hlc (by omega))
  have CT := hide (fun (u : World) => checkTarget_any t u)
  have HT := hide (show tgt t = true → 1 ≤ t from fun e => by unfold tgt at e; simp at e; exact e.1)
  have HR := hide (show looksOk ks = true → (allC ks).Pairwise (· < ·) from allC_rise)
  have HUP := hide (show ∀ xs, Mg (hds rs) xs → inOrd (ents xs) = true from fun xs h => ord_of_pairwise h.1)
  have HZ := hide hz
  change Hid (∀ u, Calls Try.prog 28 #[.int .i64 t] u fun e w' => e = .returned (.int .i64 (ordB (tgt t))) ∧ Turns (fun _ => False) u w') at CT
  unfold RunOk
  obtain ⟨o1, ho1⟩ : ∃ o, eachOrd rs = o := ⟨_, rfl⟩
  rw [ho1] at AL ⊢
  have HO1 := hide ho1
  generalize tgt t = o3 at *
  generalize looksOk ks = o2 at *
  clear h hn hf hk hkn hz ho1
  go_enter Try.func11, Try.ntmps11
  go_wp2_with fail
  refine AL.out.mono ?_
  rintro e w1 ⟨v, R, rfl, hE, hS, hb, hA, h5⟩
  have T1 := hide (Turns.of_below hb (fun _ => False))
  have HE := hide hE
  have HS := hide hS
  have HA := hide hA
  have H5 := hide h5
  obtain ⟨ra, rc, hv⟩ := hE.len
  subst hv
  clear hE hS hA h5 hb AL
  cases o1
  · rw [show ordE false = 2 from rfl]
    go_wp2_with fail
    go_ret2
    exact ⟨.inl ⟨rfl, rfl⟩, T1.out⟩
  rw [show ordE true = 0 from rfl]
  go_wp2_with fail
  refine (LK.out _ T1.out).mono ?_
  rintro e w2 ⟨rfl, t2⟩
  have T12 := hide t2
  have T2 := hide (T1.out.trans t2)
  clear t2 LK
  cases o2
  · rw [show ordB false = 2 from rfl]
    go_wp2_with fail
    go_ret2
    exact ⟨.inl ⟨rfl, rfl⟩, T2.out⟩
  rw [show ordB true = 0 from rfl]
  go_wp2_with fail
  refine (CT.out _).mono ?_
  rintro e w3 ⟨rfl, t3⟩
  have T13 := hide (T12.out.trans t3)
  have T3 := hide (T2.out.trans t3)
  clear t3 CT
  cases o3
  · rw [show ordB false = 2 from rfl]
    go_wp2_with fail
    go_ret2
    exact ⟨.inl ⟨rfl, rfl⟩, T3.out⟩
  rw [show ordB true = 0 from rfl]
  obtain ⟨xs, hm, hxs⟩ : ∃ xs, Mg (hds rs) xs ∧ R.map (·.e) = xs.map (·.e) := by
    rcases HA.out with ⟨_, xs, h1, h2⟩ | ⟨h1, _⟩
    · exact ⟨xs, h1, h2⟩
    · rw [HO1.out] at h1; cases h1
  have HM := hide hm
  have HXS := hide hxs
  have hlen : R.length = xs.length := by
    have := congrArg List.length hxs
    simpa using this
  have hRl : R.length ≤ 1000000 := by rw [hlen]; exact (HZ.out xs hm).1
  have HOR := hide (show inOrd (ents R) = true by rw [inOrd_ents hxs]; exact HUP.out xs hm)
  have HLEN := hide hlen
  clear hm hxs hlen
  go_wp2_with fail
  refine (EV.out _ T3.out).mono ?_
  rintro e w4 ⟨la', n', lc', rfl, hu, hn', hn2, hc', t4⟩
  have T4 := hide (T3.out.trans t4)
  have T14 := hide (T13.out.trans t4)
  obtain ⟨kb, ko, rfl⟩ := u64s_some hu (allC_ne ks)
  have HE4 := hide (HE.out.keep T14.out (fun _ _ x => x))
  have HS4 := hide (HS.out.keep T14.out (fun _ _ _ _ x => x))
  have H54 := hide (H5.out.keep T14.out (fun _ _ _ x => x))
  have L3 := hide (left_any ra R.length rc w.heap.size R kb ko n' lc' (allC ks) bot w4 HE4.out (fun x hx => ⟨(HS4.out x hx).1, (HS4.out x hx).2.1⟩) rfl hRl HOR.out hu hn' hc' (HR.out trivial) (by omega))
  clear t4 hu hn' hn2 hc' EV HE HS H5 T12 T13
  go_wp2_with fail
  refine L3.out.mono ?_
  rintro e w5 ⟨m, rfl, hm, hmn, hE5, t5⟩
  have hrw : ∀ k, inRow (.slice ra R.length rc) k → w.heap.size ≤ k := fun k hk => (HE4.out.row hk).1
  have T5 := hide (T4.out.past t5 hrw)
  have HS5 := hide (HS4.out.keep5 H54.out t5 fun k cs h hk => by
    obtain ⟨cs2, h2⟩ := HE4.out.typed hk
    rw [h] at h2
    cases h2)
  have hml : m ≤ 1000000 := by omega
  have HMm := hide hm
  have CU := hide (cut_any ra m rc w.heap.size t _ w5 hE5 (fun x hx => ⟨(HS5.out x (keepB_mem _ _ _ hx)).1, (HS5.out x (keepB_mem _ _ _ hx)).2.1⟩) hm hml (HT.out trivial) (by
    refine (HZ.out xs HM.out).2 _ (fun x hx => ?_) ?_
    · rw [ents_keepB] at hx
      have h1 := keepB_mem _ _ _ hx
      unfold ents at h1 ⊢
      rw [← HXS.out]
      exact h1
    · have e1 : (ents (keepB R (rowB (allC ks) bot (ents R)))).length = m := by rw [hm]; simp [ents]
      have := HLEN.out
      omega))
  clear hm hE5 t5 hrw L3
  go_wp2_with fail
  refine CU.out.mono ?_
  rintro e w6 ⟨v, rfl, hf, t6⟩
  have HF := hide (show Files w6 w.heap.size (cutE t (rowE (allC ks) bot (ents xs))) v ∧ Turns (fun _ => False) w w6 from ⟨by
    have := hf.le T5.out.size
    rw [row_eq] at this
    unfold ents at this ⊢
    rw [HXS.out] at this
    exact this, T5.out.trans t6⟩)
  clear hf t6
  go_wp2_with fail
  go_ret2
  exact ⟨.inr ⟨rfl, v, xs, rfl, HM.out, HF.out.1⟩, HF.out.2⟩
end Go.Proofs.Ytpgligfolecieaa

/-
  The document's: same, SizeOf.
-/
namespace Go.Proofs.Ytpgligfolecieaa
open Go.RowKit
set_option maxRecDepth 100000
set_option maxHeartbeats 4000000
theorem rsame41 (x y : Tow) (w : World) (hx : Bytes w x.kv x.e.key) (hy : Bytes w y.kv y.e.key) (lx : x.e.key.length ≤ 1000000) (ly : y.e.key.length ≤ 1000000) :
    Calls Try.prog 41 #[.agg x.ent, .agg y.ent] w fun e w' => e = .returned (.bool (decide (x.e.key = y.e.key))) ∧ Turns (fun _ => False) w w' := by
  obtain ⟨ka, kc, va, vc, ⟨key, sq, kd, val⟩⟩ := x
  obtain ⟨ka', kc', va', vc', ⟨key', sq', kd', val'⟩⟩ := y
  unfold Tow.ent Tow.kv Tow.vv at *
  simp only at *
  have TA := hide (((Turns.refl (fun _ => False) w).alloc (.cells #[.slice ka key.length kc, .int .u64 (sq : Nat), .int .i64 kd, .slice va val.length vc] 29)).alloc (.cells #[.slice ka' key'.length kc', .int .u64 (sq' : Nat), .int .i64 kd', .slice va' val'.length vc'] 29))
  have n1 := heap_alloc_new w (.cells #[.slice ka key.length kc, .int .u64 (sq : Nat), .int .i64 kd, .slice va val.length vc] 29)
  have n1' := ((Turns.refl (fun _ => False) (w.alloc (.cells #[.slice ka key.length kc, .int .u64 (sq : Nat), .int .i64 kd, .slice va val.length vc] 29))).alloc (.cells #[.slice ka' key'.length kc', .int .u64 (sq' : Nat), .int .i64 kd', .slice va' val'.length vc'] 29)).heap n1 (fun x => x)
  have n2 := heap_alloc_new (w.alloc (.cells #[.slice ka key.length kc, .int .u64 (sq : Nat), .int .i64 kd, .slice va val.length vc] 29)) (.cells #[.slice ka' key'.length kc', .int .u64 (sq' : Nat), .int .i64 kd', .slice va' val'.length vc'] 29)
  rw [World.size_alloc] at n2
  have N1 := hide n1'
  have N2 := hide n2
  have B1 := hide (fun (u : World) (t : Turns (fun _ => False) w u) => before_any ka ka' key.length key'.length kc kc' key key' u (hx.quiet t) (hy.quiet t) (by omega) (by omega))
  have B2 := hide (fun (u : World) (t : Turns (fun _ => False) w u) => before_any ka' ka key'.length key.length kc' kc key' key u (hy.quiet t) (hx.quiet t) (by omega) (by omega))
  have HEQ := hide (show decide (key = key') = (!decide (cmpB key key' < 0) && !decide (cmpB key' key < 0)) by
    have hs := cmpB_swap key key'
    by_cases e : key = key'
    · have h0 := (cmpB_zero key key').2 e
      simp only [e] at h0 ⊢
      simp [h0]
    · have h0 : cmpB key key' ≠ 0 := fun h => e ((cmpB_zero _ _).1 h)
      by_cases h1 : cmpB key key' < 0
      · simp [e, h1]
      · have h2 : cmpB key' key < 0 := by omega
        simp [e, h2])
  rw [HEQ.out]
  clear hx hy n1 n1' n2 HEQ lx ly
  generalize decide (cmpB key key' < 0) = b1 at *
  generalize decide (cmpB key' key < 0) = b2 at *
  generalize key.length = L1 at *
  generalize key'.length = L2 at *
  generalize val.length = L3 at *
  generalize val'.length = L4 at *
  have c1 := cell_of_row _ w.heap.size 0 _ 29 (0, 0) N1.out
  have c2 := cell_of_row _ (w.heap.size + 1) 0 _ 29 (0, 0) N2.out
  go_enter Try.func41, Try.ntmps41
  go_wp2_with fail
  refine (B1.out _ TA.out).mono ?_
  rintro e w1 ⟨rfl, t1⟩
  have T1 := hide (TA.out.trans t1)
  have c3 := cell_of_row w1 w.heap.size 0 _ 29 (0, 0) (t1.heap N1.out (fun x => x))
  have c4 := cell_of_row w1 (w.heap.size + 1) 0 _ 29 (0, 0) (t1.heap N2.out (fun x => x))
  clear t1 c1 c2
  cases b1
  · go_wp2_with fail
    refine (B2.out _ T1.out).mono ?_
    rintro e w2 ⟨rfl, t2⟩
    have T2 := hide (T1.out.trans t2)
    clear t2 c3 c4
    go_wp2_with fail
    go_ret
    exact ⟨rfl, T2.out⟩
  · go_wp2_with fail
    go_ret
    exact ⟨rfl, T1.out⟩
theorem rsize26 (a : Option Addr) (n c : Nat) (l : List Tow) (w : World) (h : Ents w a l) (hn : n = l.length) (hmx : n ≤ 1000000) (hz : sizeEs (ents l) ≤ 1000000000000) :
    Calls Try.prog 26 #[.slice a n c] w fun e w' => e = .returned (.int .i64 (sizeEs (ents l) : Nat)) ∧ Turns (fun _ => False) w w' := by
  have H := hide h
  have HN := hide hn
  have HZ := hide (fun i => Nat.le_trans (sizeEs_seg (ents l) 0 i) hz)
  have HT := hide (show segE (ents l) 0 n = ents l by unfold segE; rw [List.drop_zero, List.take_of_length_le (by rw [hn]; simp [ents])])
  clear h hn hz
  go_enter Try.func26, Try.ntmps26
  go_wp2_with fail
  go_loopw [3, 4] (fun sv iv wr => ∃ i : Nat, iv = .int .i64 (i : Nat) ∧ sv = .int .i64 (sizeEs (segE (ents l) 0 i) : Nat) ∧ i ≤ n ∧ Turns (fun _ => False) w wr) (fun _ iv _ => n - (intOf iv).toNat)
  case atStart => exact ⟨0, rfl, rfl, Nat.zero_le _, Turns.refl _ _⟩
  case round =>
    obtain ⟨i, rfl, rfl, hi, ht⟩ := hrel
    have T := hide ht
    clear ht
    by_cases hin : i < n
    · obtain ⟨x, hx⟩ : ∃ x, l[i]? = some x := ⟨_, List.getElem?_eq_getElem (by have := HN.out; omega)⟩
      obtain ⟨b, off, rfl, hc, _⟩ := ents_at2 (H.out.quiet T.out) hx
      have HS := hide (show sizeEs (segE (ents l) 0 (i + 1)) = sizeEs (segE (ents l) 0 i) + (x.e.key.length + x.e.val.length + 32) by rw [segE_succ (ents_get hx) (Nat.zero_le _), sizeEs_snoc]; rfl)
      have hz1 := HZ.out (i + 1)
      rw [HS.out] at hz1
      have i1 : (i : Int) < n := by omega
      have i0 : (0 : Int) ≤ i := by omega
      obtain ⟨y0, _, _, y3⟩ := hc
      unfold Tow.kv at y0
      unfold Tow.vv at y3
      have HS2 := hide (show sizeEs (segE (ents l) 0 (i + 1)) = sizeEs (segE (ents l) 0 i) + (x.e.key.length + x.e.val.length + 32) by rw [segE_succ (ents_get hx) (Nat.zero_le _), sizeEs_snoc]; rfl)
      clear hx HS
      generalize x.e.key.length = L1 at *
      generalize x.e.val.length = L2 at *
      generalize sizeEs (segE (ents l) 0 i) = sz at *
      go_wp2_with fail
      go_quiet (fail)
      go_wp2_with fail
      go_roundw
      case rel => exact ⟨i + 1, by go_num, by rw [HS2.out]; go_num, by omega, T.out.trans ((Turns.refl _ _).drewN _)⟩
      case measure => (simp [intOf]; try omega)
    · obtain rfl : i = n := by omega
      go_wp2_with fail
      go_ret
      exact ⟨by rw [HT.out]; rfl, T.out⟩
end Go.Proofs.Ytpgligfolecieaa

/-
  The chapter's examples: entries, lives.
-/
namespace Go.Proofs.Ytpgligfolecieaa
open Go.RowKit
set_option maxRecDepth 100000
set_option maxHeartbeats 4000000
theorem put_any (s : ByteArray) (q : Nat) (w : World) : Calls Try.prog 7 #[.string s, .int .u64 (q : Nat)] w fun e w' => ∃ ka kc, e = .returned (.agg #[.slice ka s.size kc, .int .u64 (q : Nat), .int .i64 1, .slice none 0 0]) ∧ Bytes w' (.slice ka s.size kc) (bsOf s) ∧ Below w.heap.size w w' := by
  have n0 := heap_alloc_new w (.cells #[.slice none 0 0, .int .u64 0, .int .i64 0, .slice none 0 0] 29)
  have b0 := (Below.refl w.heap.size w).alloc (Nat.le_refl _) (.cells #[.slice none 0 0, .int .u64 0, .int .i64 0, .slice none 0 0] 29)
  obtain ⟨c1, w1, hc1, hy1, _, b1⟩ := conv_new s (w.alloc (.cells #[.slice none 0 0, .int .u64 0, .int .i64 0, .slice none 0 0] 29))
  have HN := hide (heap_keep b1 n0)
  have HY1 := hide hy1
  have hs1 := b1.size
  rw [World.size_alloc] at hc1 HY1 hs1
  have B1 := hide (b0.trans (b1.mono b0.size))
  clear n0 b0 hy1 b1
  go_enter Try.func7, Try.ntmps7
  have c0 := cell_of_row w1 w.heap.size 0 _ 29 (0, 0) HN.out
  have c1' := cell_of_row w1 w.heap.size 1 _ 29 (0, 0) HN.out
  have c2 := cell_of_row w1 w.heap.size 2 _ 29 (0, 0) HN.out
  have c3 := cell_of_row w1 w.heap.size 3 _ 29 (0, 0) HN.out
  have z0 := frozen_of_row w1 w.heap.size 0 _ 29 HN.out
  have z1 := frozen_of_row w1 w.heap.size 1 _ 29 HN.out
  have z2 := frozen_of_row w1 w.heap.size 2 _ 29 HN.out
  have z3 := frozen_of_row w1 w.heap.size 3 _ 29 HN.out
  have TK := hide (((((Tick.refl HN.out).set 0 (.slice (some ⟨w.heap.size + 1, 0, none⟩) s.size c1)).set 1 (.int .u64 (q : Nat))).set 2 (.int .i64 1)).set 3 (.slice none 0 0))
  have tr := hide (Turns.of_tick TK.out)
  go_wp2_with fail
  refine bodyPost_ret (v := .agg #[.slice (some ⟨w.heap.size + 1, 0, none⟩) s.size c1, .int .u64 (q : Nat), .int .i64 1, .slice none 0 0]) ?_ rfl ?_
  · exact results_cell_row Try.results7 _ _ _ _ _ _ _ rfl TK.out.1 Try.underlying29 rfl (by kernel_rfl)
  · exact ⟨_, _, rfl, HY1.out.turns tr.out (fun a n c e => by cases e; show ¬ w.heap.size + 1 = w.heap.size; omega), B1.out.trans (tr.out.below B1.out.size (fun k e => by omega))⟩
theorem del_any (s : ByteArray) (q : Nat) (w : World) : Calls Try.prog 35 #[.string s, .int .u64 (q : Nat)] w fun e w' => ∃ ka kc, e = .returned (.agg #[.slice ka s.size kc, .int .u64 (q : Nat), .int .i64 2, .slice none 0 0]) ∧ Bytes w' (.slice ka s.size kc) (bsOf s) ∧ Below w.heap.size w w' := by
  have n0 := heap_alloc_new w (.cells #[.slice none 0 0, .int .u64 0, .int .i64 0, .slice none 0 0] 29)
  have b0 := (Below.refl w.heap.size w).alloc (Nat.le_refl _) (.cells #[.slice none 0 0, .int .u64 0, .int .i64 0, .slice none 0 0] 29)
  obtain ⟨c1, w1, hc1, hy1, _, b1⟩ := conv_new s (w.alloc (.cells #[.slice none 0 0, .int .u64 0, .int .i64 0, .slice none 0 0] 29))
  have HN := hide (heap_keep b1 n0)
  have HY1 := hide hy1
  have hs1 := b1.size
  rw [World.size_alloc] at hc1 HY1 hs1
  have B1 := hide (b0.trans (b1.mono b0.size))
  clear n0 b0 hy1 b1
  go_enter Try.func35, Try.ntmps35
  have c0 := cell_of_row w1 w.heap.size 0 _ 29 (0, 0) HN.out
  have c1' := cell_of_row w1 w.heap.size 1 _ 29 (0, 0) HN.out
  have c2 := cell_of_row w1 w.heap.size 2 _ 29 (0, 0) HN.out
  have c3 := cell_of_row w1 w.heap.size 3 _ 29 (0, 0) HN.out
  have z0 := frozen_of_row w1 w.heap.size 0 _ 29 HN.out
  have z1 := frozen_of_row w1 w.heap.size 1 _ 29 HN.out
  have z2 := frozen_of_row w1 w.heap.size 2 _ 29 HN.out
  have z3 := frozen_of_row w1 w.heap.size 3 _ 29 HN.out
  have TK := hide (((((Tick.refl HN.out).set 0 (.slice (some ⟨w.heap.size + 1, 0, none⟩) s.size c1)).set 1 (.int .u64 (q : Nat))).set 2 (.int .i64 2)).set 3 (.slice none 0 0))
  have tr := hide (Turns.of_tick TK.out)
  go_wp2_with fail
  refine bodyPost_ret (v := .agg #[.slice (some ⟨w.heap.size + 1, 0, none⟩) s.size c1, .int .u64 (q : Nat), .int .i64 2, .slice none 0 0]) ?_ rfl ?_
  · exact results_cell_row Try.results35 _ _ _ _ _ _ _ rfl TK.out.1 Try.underlying29 rfl (by kernel_rfl)
  · exact ⟨_, _, rfl, HY1.out.turns tr.out (fun a n c e => by cases e; show ¬ w.heap.size + 1 = w.heap.size; omega), B1.out.trans (tr.out.below B1.out.size (fun k e => by omega))⟩
def pA (q : Nat) : Ent := ⟨[97#8], q, 1, []⟩
def dA (q : Nat) : Ent := ⟨[97#8], q, 2, []⟩
theorem putA (q : Nat) (w : World) : Calls Try.prog 7 #[.string ⟨#[97]⟩, .int .u64 (q : Nat)] w fun e w' => ∃ t : Tow, e = .returned (.agg t.ent) ∧ t.e = pA q ∧ t.va = none ∧ t.vc = 0 ∧ Bytes w' t.kv t.e.key ∧ Turns (fun _ => False) w w' := by
  refine (put_any ⟨#[97]⟩ q w).mono ?_
  rintro e w' ⟨ka, kc, rfl, hb, hw⟩
  exact ⟨⟨ka, kc, none, 0, pA q⟩, rfl, rfl, rfl, rfl, hb, Turns.of_below hw _⟩
theorem delA (q : Nat) (w : World) : Calls Try.prog 35 #[.string ⟨#[97]⟩, .int .u64 (q : Nat)] w fun e w' => ∃ t : Tow, e = .returned (.agg t.ent) ∧ t.e = dA q ∧ t.va = none ∧ t.vc = 0 ∧ Bytes w' t.kv t.e.key ∧ Turns (fun _ => False) w w' := by
  refine (del_any ⟨#[97]⟩ q w).mono ?_
  rintro e w' ⟨ka, kc, rfl, hb, hw⟩
  exact ⟨⟨ka, kc, none, 0, dA q⟩, rfl, rfl, rfl, rfl, hb, Turns.of_below hw _⟩
/-- Entries in a new row. -/
theorem ents_new (w : World) (L : List Tow) (cs : Array Value) (h : cs = (entCells L).toArray) (hb : ∀ x, x ∈ L → Bytes (w.alloc (.cells cs 29)) x.kv x.e.key ∧ Bytes (w.alloc (.cells cs 29)) x.vv x.e.val) : Ents (w.alloc (.cells cs 29)) (some ⟨w.heap.size, 0, none⟩) L := by
  obtain ⟨a, c, e, hE, _⟩ := ents_row (w := w.alloc (.cells cs 29)) (B := 0) (v := .slice (some ⟨w.heap.size, 0, none⟩) L.length L.length) (R := L) (.inr ⟨w.heap.size, L.length, L.length, rfl, rfl, Nat.le_refl _, Nat.zero_le _, cs, heap_alloc_new w _, by rw [h]; simp [entCells_length], fun k hk => by rw [h]; simp⟩) hb
  cases e
  exact hE
theorem got_cells {w : World} {B : Nat} {a : Option Addr} {n c : Nat} {Q : List Tow} {es : List Ent} (h : ERow w B (.slice a n c) Q) (hn : n = Q.length) (he : ents Q = es) : n = es.length ∧ (es ≠ [] → ∃ g, a = some ⟨g, 0, none⟩ ∧ ∀ k x, es[k]? = some x → w.cell? ⟨g, k * 4 + 1, none⟩ = some (.int .u64 (x.seq : Nat))) := by
  subst he
  refine ⟨by rw [hn]; simp [ents], fun hne => ?_⟩
  have hQ : Q ≠ [] := fun e => hne (by rw [e]; rfl)
  obtain ⟨g, c', e, hc⟩ := h.at hQ
  cases e
  refine ⟨g, rfl, fun k x hx => ?_⟩
  simp only [ents, List.getElem?_map, Option.map_eq_some_iff] at hx
  obtain ⟨y, hy, rfl⟩ := hx
  exact (hc k y hy).2.1
/-- Row of what is known. -/
theorem row_ex (a la : Option Addr) (n ln : Nat) (l : List Tow) (ks : List Nat) (bot : Bool) (es fs : List Ent) (w : World) (h : Ents w a l) (hn : n = l.length) (hes : ents l = es) (hmx : n ≤ 1000000) (hl : ∀ x, x ∈ l → x.e.key.length ≤ 1000000 ∧ x.e.val.length ≤ 1000000) (hk : U64s w la ks) (hkn : ln = ks.length) (hkm : ln ≤ 100000) (ho : (inOrd es && looksOk ks) = true) (hr : rowE (allC ks) bot es = fs) :
    Calls Try.prog 15 #[.slice a n n, .slice la ln ln, .bool bot] w fun e w' => ∃ (a' : Option Addr) (n' c' : Nat), e = .returned (.tuple #[.slice a' n' c', .int .i64 0]) ∧ n' = fs.length ∧ (fs ≠ [] → ∃ g, a' = some ⟨g, 0, none⟩ ∧ ∀ k x, fs[k]? = some x → w'.cell? ⟨g, k * 4 + 1, none⟩ = some (.int .u64 (x.seq : Nat))) ∧ Turns (fun _ => False) w w' := by
  subst hes
  refine (Row_any a la n n ln ln l ks bot w h hn hmx hl hk hkn (Nat.le_refl _) hkm).mono ?_
  rintro e w' ⟨hR, t⟩
  rw [ho, hr] at hR
  rcases hR with ⟨e, _⟩ | ⟨_, a', n', c', Q, rfl, h1, h2, h3, _⟩
  · cases e
  · obtain ⟨g1, g2⟩ := got_cells h2 h1 h3
    exact ⟨a', n', c', rfl, g1, g2, t⟩
end Go.Proofs.Ytpgligfolecieaa
