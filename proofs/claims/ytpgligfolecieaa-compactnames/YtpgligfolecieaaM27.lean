import Derived.Test.YtpgligfolecieaaM26
import Derived.Test.YtpgligfolecieaaM15
/-
  Run.
-/
namespace Go.Proofs.Ytpgligfolecieaa
open Go.RowKit
set_option maxRecDepth 100000
set_option maxHeartbeats 4000000
theorem inOrd_ents {R R' : List Tow} (h : R.map (·.e) = R'.map (·.e)) : inOrd (ents R) = inOrd (ents R') := by unfold ents; rw [h]
/-- What Run answers: of the rows merged. -/
def RunOk (w w' : World) (rs : List Rw) (ks : List Nat) (bot : Bool) (t : Int) (e : Ending) : Prop :=
  ((eachOrd rs && looksOk ks && tgt t) = false ∧ e = .returned (.tuple #[.slice none 0 0, .int .i64 2])) ∨
  ((eachOrd rs && looksOk ks && tgt t) = true ∧ ∃ (v : Value) (xs : List Tow), e = .returned (.tuple #[v, .int .i64 0]) ∧ Mg (hds rs) xs ∧ Files w' w.heap.size (cutE t (rowE (allC ks) bot (ents xs))) v)
theorem Run_any (a la : Option Addr) (n c ln lc : Nat) (rs : List Rw) (ks : List Nat) (bot : Bool) (t : Int) (w : World) (h : RowsIn w a rs) (hn : n = rs.length) (hf : Fine rs) (hk : U64s w la ks) (hkn : ln = ks.length) (hlc : ln ≤ lc) (hkm : ln ≤ 100000) (hz : ∀ xs, Mg (hds rs) xs → xs.length ≤ 1000000 ∧ ∀ es, (∀ x, x ∈ es → x ∈ ents xs) → es.length ≤ xs.length → sizeEs es ≤ 1000000000000) :
    Calls Try.prog 11 #[.slice a n c, .slice la ln lc, .bool bot, .int .i64 t] w fun e w' => RunOk w w' rs ks bot t e ∧ Turns (fun _ => False) w w' := by
  have AL := hide (all_any a n c rs w h hn hf)
  have LK := hide (fun (u : World) (t : Turns (fun _ => False) w u) => checkLooks_any la ln lc ks u (hk.quiet t) hkn (by omega))
  have EV := hide (fun (u : World) (t : Turns (fun _ => False) w u) => everybody_any la ln lc ks u (hk.quiet t) hkn hlc (by omega))
  have CT := hide (fun (u : World) => checkTarget_any t u)
  have HT := hide (show tgt t = true → 1 ≤ t from fun e => by unfold tgt at e; simp at e; exact e.1)
  have HR := hide (show looksOk ks = true → (allC ks).Pairwise (· < ·) from allC_rise)
  have HUP := hide (show ∀ xs, Mg (hds rs) xs → inOrd (ents xs) = true from fun xs h => ord_of_pairwise h.1)
  have HZ := hide hz
  change Hid (∀ u, Calls Try.prog 28 #[.int .i64 t] u fun e w' => e = .returned (.int .i64 (ordB (tgt t))) ∧ Turns (fun _ => False) u w') at CT
  unfold RunOk
  obtain ⟨o1, ho1⟩ : ∃ o, eachOrd rs = o := ⟨_, rfl⟩
  rw [ho1] at AL ⊢
  have HO1 := hide ho1
  generalize tgt t = o3 at *
  generalize looksOk ks = o2 at *
  clear h hn hf hk hkn hz ho1
  go_enter Try.func11, Try.ntmps11
  go_wp2_with fail
  refine AL.out.mono ?_
  rintro e w1 ⟨v, R, rfl, hE, hS, hb, hA, h5⟩
  have T1 := hide (Turns.of_below hb (fun _ => False))
  have HE := hide hE
  have HS := hide hS
  have HA := hide hA
  have H5 := hide h5
  obtain ⟨ra, rc, hv⟩ := hE.len
  subst hv
  clear hE hS hA h5 hb AL
  cases o1
  · rw [show ordE false = 2 from rfl]
    go_wp2_with fail
    go_ret2
    exact ⟨.inl ⟨rfl, rfl⟩, T1.out⟩
  rw [show ordE true = 0 from rfl]
  go_wp2_with fail
  refine (LK.out _ T1.out).mono ?_
  rintro e w2 ⟨rfl, t2⟩
  have T12 := hide t2
  have T2 := hide (T1.out.trans t2)
  clear t2 LK
  cases o2
  · rw [show ordB false = 2 from rfl]
    go_wp2_with fail
    go_ret2
    exact ⟨.inl ⟨rfl, rfl⟩, T2.out⟩
  rw [show ordB true = 0 from rfl]
  go_wp2_with fail
  refine (CT.out _).mono ?_
  rintro e w3 ⟨rfl, t3⟩
  have T13 := hide (T12.out.trans t3)
  have T3 := hide (T2.out.trans t3)
  clear t3 CT
  cases o3
  · rw [show ordB false = 2 from rfl]
    go_wp2_with fail
    go_ret2
    exact ⟨.inl ⟨rfl, rfl⟩, T3.out⟩
  rw [show ordB true = 0 from rfl]
  obtain ⟨xs, hm, hxs⟩ : ∃ xs, Mg (hds rs) xs ∧ R.map (·.e) = xs.map (·.e) := by
    rcases HA.out with ⟨_, xs, h1, h2⟩ | ⟨h1, _⟩
    · exact ⟨xs, h1, h2⟩
    · rw [HO1.out] at h1; cases h1
  have HM := hide hm
  have HXS := hide hxs
  have hlen : R.length = xs.length := by
    have := congrArg List.length hxs
    simpa using this
  have hRl : R.length ≤ 1000000 := by rw [hlen]; exact (HZ.out xs hm).1
  have HOR := hide (show inOrd (ents R) = true by rw [inOrd_ents hxs]; exact HUP.out xs hm)
  have HLEN := hide hlen
  clear hm hxs hlen
  go_wp2_with fail
  refine (EV.out _ T3.out).mono ?_
  rintro e w4 ⟨la', n', lc', rfl, hu, hn', hn2, hc', t4⟩
  have T4 := hide (T3.out.trans t4)
  have T14 := hide (T13.out.trans t4)
  obtain ⟨kb, ko, rfl⟩ := u64s_some hu (allC_ne ks)
  have HE4 := hide (HE.out.keep T14.out (fun _ _ x => x))
  have HS4 := hide (HS.out.keep T14.out (fun _ _ _ _ x => x))
  have H54 := hide (H5.out.keep T14.out (fun _ _ _ x => x))
  have L3 := hide (left_any ra R.length rc w.heap.size R kb ko n' lc' (allC ks) bot w4 HE4.out (fun x hx => ⟨(HS4.out x hx).1, (HS4.out x hx).2.1⟩) rfl hRl HOR.out hu hn' hc' (HR.out trivial) (by omega))
  clear t4 hu hn' hn2 hc' EV HE HS H5 T12 T13
  go_wp2_with fail
  refine L3.out.mono ?_
  rintro e w5 ⟨m, rfl, hm, hmn, hE5, t5⟩
  have hrw : ∀ k, inRow (.slice ra R.length rc) k → w.heap.size ≤ k := fun k hk => (HE4.out.row hk).1
  have T5 := hide (T4.out.past t5 hrw)
  have HS5 := hide (HS4.out.keep5 H54.out t5 fun k cs h hk => by
    obtain ⟨cs2, h2⟩ := HE4.out.typed hk
    rw [h] at h2
    cases h2)
  have hml : m ≤ 1000000 := by omega
  have HMm := hide hm
  have CU := hide (cut_any ra m rc w.heap.size t _ w5 hE5 (fun x hx => ⟨(HS5.out x (keepB_mem _ _ _ hx)).1, (HS5.out x (keepB_mem _ _ _ hx)).2.1⟩) hm hml (HT.out trivial) (by
    refine (HZ.out xs HM.out).2 _ (fun x hx => ?_) ?_
    · rw [ents_keepB] at hx
      have h1 := keepB_mem _ _ _ hx
      unfold ents at h1 ⊢
      rw [← HXS.out]
      exact h1
    · have e1 : (ents (keepB R (rowB (allC ks) bot (ents R)))).length = m := by rw [hm]; simp [ents]
      have := HLEN.out
      omega))
  clear hm hE5 t5 hrw L3
  go_wp2_with fail
  refine CU.out.mono ?_
  rintro e w6 ⟨v, rfl, hf, t6⟩
  have HF := hide (show Files w6 w.heap.size (cutE t (rowE (allC ks) bot (ents xs))) v ∧ Turns (fun _ => False) w w6 from ⟨by
    have := hf.le T5.out.size
    rw [row_eq] at this
    unfold ents at this ⊢
    rw [HXS.out] at this
    exact this, T5.out.trans t6⟩)
  clear hf t6
  go_wp2_with fail
  go_ret2
  exact ⟨.inr ⟨rfl, v, xs, rfl, HM.out, HF.out.1⟩, HF.out.2⟩
end Go.Proofs.Ytpgligfolecieaa

/-
  The chapter's examples: entries, lives.
-/
namespace Go.Proofs.Ytpgligfolecieaa
open Go.RowKit
set_option maxRecDepth 100000
set_option maxHeartbeats 4000000
theorem put_any (s : ByteArray) (q : Nat) (w : World) : Calls Try.prog 7 #[.string s, .int .u64 (q : Nat)] w fun e w' => ∃ ka kc, e = .returned (.agg #[.slice ka s.size kc, .int .u64 (q : Nat), .int .i64 1, .slice none 0 0]) ∧ Bytes w' (.slice ka s.size kc) (bsOf s) ∧ Below w.heap.size w w' := by
  have n0 := heap_alloc_new w (.cells #[.slice none 0 0, .int .u64 0, .int .i64 0, .slice none 0 0] 29)
  have b0 := (Below.refl w.heap.size w).alloc (Nat.le_refl _) (.cells #[.slice none 0 0, .int .u64 0, .int .i64 0, .slice none 0 0] 29)
  obtain ⟨c1, w1, hc1, hy1, _, b1⟩ := conv_new s (w.alloc (.cells #[.slice none 0 0, .int .u64 0, .int .i64 0, .slice none 0 0] 29))
  have HN := hide (heap_keep b1 n0)
  have HY1 := hide hy1
  have hs1 := b1.size
  rw [World.size_alloc] at hc1 HY1 hs1
  have B1 := hide (b0.trans (b1.mono b0.size))
  clear n0 b0 hy1 b1
  go_enter Try.func7, Try.ntmps7
  have c0 := cell_of_row w1 w.heap.size 0 _ 29 (0, 0) HN.out
  have c1' := cell_of_row w1 w.heap.size 1 _ 29 (0, 0) HN.out
  have c2 := cell_of_row w1 w.heap.size 2 _ 29 (0, 0) HN.out
  have c3 := cell_of_row w1 w.heap.size 3 _ 29 (0, 0) HN.out
  have z0 := frozen_of_row w1 w.heap.size 0 _ 29 HN.out
  have z1 := frozen_of_row w1 w.heap.size 1 _ 29 HN.out
  have z2 := frozen_of_row w1 w.heap.size 2 _ 29 HN.out
  have z3 := frozen_of_row w1 w.heap.size 3 _ 29 HN.out
  have TK := hide (((((Tick.refl HN.out).set 0 (.slice (some ⟨w.heap.size + 1, 0, none⟩) s.size c1)).set 1 (.int .u64 (q : Nat))).set 2 (.int .i64 1)).set 3 (.slice none 0 0))
  have tr := hide (Turns.of_tick TK.out)
  go_wp2_with fail
  refine bodyPost_ret (v := .agg #[.slice (some ⟨w.heap.size + 1, 0, none⟩) s.size c1, .int .u64 (q : Nat), .int .i64 1, .slice none 0 0]) ?_ rfl ?_
  · exact results_cell_row Try.results7 _ _ _ _ _ _ _ rfl TK.out.1 Try.underlying29 rfl (by kernel_rfl)
  · exact ⟨_, _, rfl, HY1.out.turns tr.out (fun a n c e => by cases e; show ¬ w.heap.size + 1 = w.heap.size; omega), B1.out.trans (tr.out.below B1.out.size (fun k e => by omega))⟩
theorem del_any (s : ByteArray) (q : Nat) (w : World) : Calls Try.prog 35 #[.string s, .int .u64 (q : Nat)] w fun e w' => ∃ ka kc, e = .returned (.agg #[.slice ka s.size kc, .int .u64 (q : Nat), .int .i64 2, .slice none 0 0]) ∧ Bytes w' (.slice ka s.size kc) (bsOf s) ∧ Below w.heap.size w w' := by
  have n0 := heap_alloc_new w (.cells #[.slice none 0 0, .int .u64 0, .int .i64 0, .slice none 0 0] 29)
  have b0 := (Below.refl w.heap.size w).alloc (Nat.le_refl _) (.cells #[.slice none 0 0, .int .u64 0, .int .i64 0, .slice none 0 0] 29)
  obtain ⟨c1, w1, hc1, hy1, _, b1⟩ := conv_new s (w.alloc (.cells #[.slice none 0 0, .int .u64 0, .int .i64 0, .slice none 0 0] 29))
  have HN := hide (heap_keep b1 n0)
  have HY1 := hide hy1
  have hs1 := b1.size
  rw [World.size_alloc] at hc1 HY1 hs1
  have B1 := hide (b0.trans (b1.mono b0.size))
  clear n0 b0 hy1 b1
  go_enter Try.func35, Try.ntmps35
  have c0 := cell_of_row w1 w.heap.size 0 _ 29 (0, 0) HN.out
  have c1' := cell_of_row w1 w.heap.size 1 _ 29 (0, 0) HN.out
  have c2 := cell_of_row w1 w.heap.size 2 _ 29 (0, 0) HN.out
  have c3 := cell_of_row w1 w.heap.size 3 _ 29 (0, 0) HN.out
  have z0 := frozen_of_row w1 w.heap.size 0 _ 29 HN.out
  have z1 := frozen_of_row w1 w.heap.size 1 _ 29 HN.out
  have z2 := frozen_of_row w1 w.heap.size 2 _ 29 HN.out
  have z3 := frozen_of_row w1 w.heap.size 3 _ 29 HN.out
  have TK := hide (((((Tick.refl HN.out).set 0 (.slice (some ⟨w.heap.size + 1, 0, none⟩) s.size c1)).set 1 (.int .u64 (q : Nat))).set 2 (.int .i64 2)).set 3 (.slice none 0 0))
  have tr := hide (Turns.of_tick TK.out)
  go_wp2_with fail
  refine bodyPost_ret (v := .agg #[.slice (some ⟨w.heap.size + 1, 0, none⟩) s.size c1, .int .u64 (q : Nat), .int .i64 2, .slice none 0 0]) ?_ rfl ?_
  · exact results_cell_row Try.results35 _ _ _ _ _ _ _ rfl TK.out.1 Try.underlying29 rfl (by kernel_rfl)
  · exact ⟨_, _, rfl, HY1.out.turns tr.out (fun a n c e => by cases e; show ¬ w.heap.size + 1 = w.heap.size; omega), B1.out.trans (tr.out.below B1.out.size (fun k e => by omega))⟩
def pA (q : Nat) : Ent := ⟨[97#8], q, 1, []⟩
def dA (q : Nat) : Ent := ⟨[97#8], q, 2, []⟩
theorem putA (q : Nat) (w : World) : Calls Try.prog 7 #[.string ⟨#[97]⟩, .int .u64 (q : Nat)] w fun e w' => ∃ t : Tow, e = .returned (.agg t.ent) ∧ t.e = pA q ∧ t.va = none ∧ t.vc = 0 ∧ Bytes w' t.kv t.e.key ∧ Turns (fun _ => False) w w' := by
  refine (put_any ⟨#[97]⟩ q w).mono ?_
  rintro e w' ⟨ka, kc, rfl, hb, hw⟩
  exact ⟨⟨ka, kc, none, 0, pA q⟩, rfl, rfl, rfl, rfl, hb, Turns.of_below hw _⟩
theorem delA (q : Nat) (w : World) : Calls Try.prog 35 #[.string ⟨#[97]⟩, .int .u64 (q : Nat)] w fun e w' => ∃ t : Tow, e = .returned (.agg t.ent) ∧ t.e = dA q ∧ t.va = none ∧ t.vc = 0 ∧ Bytes w' t.kv t.e.key ∧ Turns (fun _ => False) w w' := by
  refine (del_any ⟨#[97]⟩ q w).mono ?_
  rintro e w' ⟨ka, kc, rfl, hb, hw⟩
  exact ⟨⟨ka, kc, none, 0, dA q⟩, rfl, rfl, rfl, rfl, hb, Turns.of_below hw _⟩
/-- Entries in a new row. -/
theorem ents_new (w : World) (L : List Tow) (cs : Array Value) (h : cs = (entCells L).toArray) (hb : ∀ x, x ∈ L → Bytes (w.alloc (.cells cs 29)) x.kv x.e.key ∧ Bytes (w.alloc (.cells cs 29)) x.vv x.e.val) : Ents (w.alloc (.cells cs 29)) (some ⟨w.heap.size, 0, none⟩) L := by
  obtain ⟨a, c, e, hE, _⟩ := ents_row (w := w.alloc (.cells cs 29)) (B := 0) (v := .slice (some ⟨w.heap.size, 0, none⟩) L.length L.length) (R := L) (.inr ⟨w.heap.size, L.length, L.length, rfl, rfl, Nat.le_refl _, Nat.zero_le _, cs, heap_alloc_new w _, by rw [h]; simp [entCells_length], fun k hk => by rw [h]; simp⟩) hb
  cases e
  exact hE
theorem got_cells {w : World} {B : Nat} {a : Option Addr} {n c : Nat} {Q : List Tow} {es : List Ent} (h : ERow w B (.slice a n c) Q) (hn : n = Q.length) (he : ents Q = es) : n = es.length ∧ (es ≠ [] → ∃ g, a = some ⟨g, 0, none⟩ ∧ ∀ k x, es[k]? = some x → w.cell? ⟨g, k * 4 + 1, none⟩ = some (.int .u64 (x.seq : Nat))) := by
  subst he
  refine ⟨by rw [hn]; simp [ents], fun hne => ?_⟩
  have hQ : Q ≠ [] := fun e => hne (by rw [e]; rfl)
  obtain ⟨g, c', e, hc⟩ := h.at hQ
  cases e
  refine ⟨g, rfl, fun k x hx => ?_⟩
  simp only [ents, List.getElem?_map, Option.map_eq_some_iff] at hx
  obtain ⟨y, hy, rfl⟩ := hx
  exact (hc k y hy).2.1
/-- Row of what is known. -/
theorem row_ex (a la : Option Addr) (n ln : Nat) (l : List Tow) (ks : List Nat) (bot : Bool) (es fs : List Ent) (w : World) (h : Ents w a l) (hn : n = l.length) (hes : ents l = es) (hmx : n ≤ 1000000) (hl : ∀ x, x ∈ l → x.e.key.length ≤ 1000000 ∧ x.e.val.length ≤ 1000000) (hk : U64s w la ks) (hkn : ln = ks.length) (hkm : ln ≤ 100000) (ho : (inOrd es && looksOk ks) = true) (hr : rowE (allC ks) bot es = fs) :
    Calls Try.prog 15 #[.slice a n n, .slice la ln ln, .bool bot] w fun e w' => ∃ (a' : Option Addr) (n' c' : Nat), e = .returned (.tuple #[.slice a' n' c', .int .i64 0]) ∧ n' = fs.length ∧ (fs ≠ [] → ∃ g, a' = some ⟨g, 0, none⟩ ∧ ∀ k x, fs[k]? = some x → w'.cell? ⟨g, k * 4 + 1, none⟩ = some (.int .u64 (x.seq : Nat))) ∧ Turns (fun _ => False) w w' := by
  subst hes
  refine (Row_any a la n n ln ln l ks bot w h hn hmx hl hk hkn (Nat.le_refl _) hkm).mono ?_
  rintro e w' ⟨hR, t⟩
  rw [ho, hr] at hR
  rcases hR with ⟨e, _⟩ | ⟨_, a', n', c', Q, rfl, h1, h2, h3, _⟩
  · cases e
  · obtain ⟨g1, g2⟩ := got_cells h2 h1 h3
    exact ⟨a', n', c', rfl, g1, g2, t⟩
end Go.Proofs.Ytpgligfolecieaa

/-
  lives, and CompactNames' walk.
-/
namespace Go.Proofs.Ytpgligfolecieaa
open Go.RowKit
set_option maxRecDepth 100000
set_option maxHeartbeats 8000000
theorem u64s_nil (w : World) : U64s w none [] := fun k s h => by simp at h
theorem u64s_one {w : World} {g : Nat} (h : w.heap[g]? = some (.cells #[.int .u64 1] 27 (0, 0))) : U64s w (some ⟨g, 0, none⟩) [1] := fun k s hk => by
  obtain ⟨rfl, rfl⟩ : k = 0 ∧ s = 1 := by
    rcases k with _ | k
    · exact ⟨rfl, by simpa using hk.symm⟩
    · simp at hk
  exact ⟨⟨g, 0, rfl, cell_of_row w g 0 _ 27 (0, 0) h⟩, by decide⟩
theorem bytes_nov {w : World} {t : Tow} (h1 : t.va = none) (h2 : t.vc = 0) (h3 : t.e.val = []) : Bytes w t.vv t.e.val := by
  unfold Tow.vv
  rw [h1, h2, h3]
  exact Bytes.empty w
def l3 : List Ent := [pA 3, pA 2, pA 1]
def l2 : List Ent := [dA 3, pA 1]
theorem ex1 : (inOrd l3 && looksOk []) = true := by decide
theorem ex2 : (inOrd l3 && looksOk [1]) = true := by decide
theorem ex3 : (inOrd l2 && looksOk []) = true := by decide
theorem ex4 : (inOrd l2 && looksOk [1]) = true := by decide
theorem er1 : rowE (allC []) false l3 = [pA 3] := by rfl
theorem er2 : rowE (allC [1]) false l3 = [pA 3, pA 1] := by rfl
theorem er3 : rowE (allC []) true l2 = [] := by rfl
theorem er4 : rowE (allC [1]) true l2 = [dA 3, pA 1] := by rfl
theorem putA1 (w : World) : Calls Try.prog 7 #[.string ⟨#[97]⟩, .int .u64 1] w fun e w' => ∃ ka kc, e = .returned (.agg #[.slice ka 1 kc, .int .u64 1, .int .i64 1, .slice none 0 0]) ∧ Bytes w' (.slice ka 1 kc) [97#8] ∧ Turns (fun _ => False) w w' := by
  refine (show Calls Try.prog 7 #[.string ⟨#[97]⟩, .int .u64 1] w _ from put_any ⟨#[97]⟩ 1 w).mono ?_
  rintro e w' ⟨ka, kc, rfl, hb, hw⟩
  exact ⟨ka, kc, rfl, hb, Turns.of_below hw _⟩
theorem putA2 (w : World) : Calls Try.prog 7 #[.string ⟨#[97]⟩, .int .u64 2] w fun e w' => ∃ ka kc, e = .returned (.agg #[.slice ka 1 kc, .int .u64 2, .int .i64 1, .slice none 0 0]) ∧ Bytes w' (.slice ka 1 kc) [97#8] ∧ Turns (fun _ => False) w w' := by
  refine (show Calls Try.prog 7 #[.string ⟨#[97]⟩, .int .u64 2] w _ from put_any ⟨#[97]⟩ 2 w).mono ?_
  rintro e w' ⟨ka, kc, rfl, hb, hw⟩
  exact ⟨ka, kc, rfl, hb, Turns.of_below hw _⟩
theorem putA3 (w : World) : Calls Try.prog 7 #[.string ⟨#[97]⟩, .int .u64 3] w fun e w' => ∃ ka kc, e = .returned (.agg #[.slice ka 1 kc, .int .u64 3, .int .i64 1, .slice none 0 0]) ∧ Bytes w' (.slice ka 1 kc) [97#8] ∧ Turns (fun _ => False) w w' := by
  refine (show Calls Try.prog 7 #[.string ⟨#[97]⟩, .int .u64 3] w _ from put_any ⟨#[97]⟩ 3 w).mono ?_
  rintro e w' ⟨ka, kc, rfl, hb, hw⟩
  exact ⟨ka, kc, rfl, hb, Turns.of_below hw _⟩
theorem delA3 (w : World) : Calls Try.prog 35 #[.string ⟨#[97]⟩, .int .u64 3] w fun e w' => ∃ ka kc, e = .returned (.agg #[.slice ka 1 kc, .int .u64 3, .int .i64 2, .slice none 0 0]) ∧ Bytes w' (.slice ka 1 kc) [97#8] ∧ Turns (fun _ => False) w w' := by
  refine (show Calls Try.prog 35 #[.string ⟨#[97]⟩, .int .u64 3] w _ from del_any ⟨#[97]⟩ 3 w).mono ?_
  rintro e w' ⟨ka, kc, rfl, hb, hw⟩
  exact ⟨ka, kc, rfl, hb, Turns.of_below hw _⟩
theorem putB1 (w : World) : Calls Try.prog 7 #[.string ⟨#[98]⟩, .int .u64 1] w fun e w' => ∃ ka kc, e = .returned (.agg #[.slice ka 1 kc, .int .u64 1, .int .i64 1, .slice none 0 0]) ∧ Bytes w' (.slice ka 1 kc) [98#8] ∧ Turns (fun _ => False) w w' := by
  refine (show Calls Try.prog 7 #[.string ⟨#[98]⟩, .int .u64 1] w _ from put_any ⟨#[98]⟩ 1 w).mono ?_
  rintro e w' ⟨ka, kc, rfl, hb, hw⟩
  exact ⟨ka, kc, rfl, hb, Turns.of_below hw _⟩
theorem putC1 (w : World) : Calls Try.prog 7 #[.string ⟨#[99]⟩, .int .u64 1] w fun e w' => ∃ ka kc, e = .returned (.agg #[.slice ka 1 kc, .int .u64 1, .int .i64 1, .slice none 0 0]) ∧ Bytes w' (.slice ka 1 kc) [99#8] ∧ Turns (fun _ => False) w w' := by
  refine (show Calls Try.prog 7 #[.string ⟨#[99]⟩, .int .u64 1] w _ from put_any ⟨#[99]⟩ 1 w).mono ?_
  rintro e w' ⟨ka, kc, rfl, hb, hw⟩
  exact ⟨ka, kc, rfl, hb, Turns.of_below hw _⟩
theorem lives_any (w : World) : Calls Try.prog 9 #[] w fun e w' => e = .returned (.bool true) ∧ Turns (fun _ => False) w w' := by
  have T0 := hide (Turns.refl (fun _ => False) w)
  go_enter Try.func9, Try.ntmps9
  go_wp2_with fail
  refine (putA3 w).mono ?_
  rintro e w10 ⟨k10, c10, rfl, hb, ht⟩
  have K10 := hide hb
  have U10 := hide ht
  have T10 := hide (T0.out.trans ht)
  clear hb ht
  go_wp2_with fail
  refine (putA2 w10).mono ?_
  rintro e w11 ⟨k11, c11, rfl, hb, ht⟩
  have K11 := hide hb
  have U11 := hide ht
  have T11 := hide (T10.out.trans ht)
  clear hb ht
  go_wp2_with fail
  refine (putA1 w11).mono ?_
  rintro e w12 ⟨k12, c12, rfl, hb, ht⟩
  have K12 := hide hb
  have U12 := hide ht
  have T12 := hide (T11.out.trans ht)
  clear hb ht
  go_wp2_with fail
  have tA : Turns (fun _ => False) w12 (w12.alloc (.cells #[.slice k10 1 c10, .int .u64 3, .int .i64 1, .slice none 0 0, .slice k11 1 c11, .int .u64 2, .int .i64 1, .slice none 0 0, .slice k12 1 c12, .int .u64 1, .int .i64 1, .slice none 0 0] 29)) := (Turns.refl _ _).alloc _
  have hE : Ents (w12.alloc (.cells #[.slice k10 1 c10, .int .u64 3, .int .i64 1, .slice none 0 0, .slice k11 1 c11, .int .u64 2, .int .i64 1, .slice none 0 0, .slice k12 1 c12, .int .u64 1, .int .i64 1, .slice none 0 0] 29)) (some ⟨w12.heap.size, 0, none⟩) [⟨k10, c10, none, 0, pA 3⟩, ⟨k11, c11, none, 0, pA 2⟩, ⟨k12, c12, none, 0, pA 1⟩] := ents_new w12 [⟨k10, c10, none, 0, pA 3⟩, ⟨k11, c11, none, 0, pA 2⟩, ⟨k12, c12, none, 0, pA 1⟩] _ rfl fun x hx => by
    simp only [List.mem_cons, List.not_mem_nil, or_false] at hx
    rcases hx with rfl | rfl | rfl
    · exact ⟨(((K10.out.quiet U11.out).quiet U12.out)).quiet tA, bytes_nov rfl rfl rfl⟩
    · exact ⟨((K11.out.quiet U12.out)).quiet tA, bytes_nov rfl rfl rfl⟩
    · exact ⟨(K12.out).quiet tA, bytes_nov rfl rfl rfl⟩
  have RX := hide (row_ex (some ⟨w12.heap.size, 0, none⟩) none 3 0 [⟨k10, c10, none, 0, pA 3⟩, ⟨k11, c11, none, 0, pA 2⟩, ⟨k12, c12, none, 0, pA 1⟩] [] false l3 [pA 3] _ hE rfl rfl (by omega) (fun x hx => by
    simp only [List.mem_cons, List.not_mem_nil, or_false] at hx
    rcases hx with rfl | rfl | rfl <;> exact ⟨show 1 ≤ 1000000 by decide, show 0 ≤ 1000000 by decide⟩) (u64s_nil _) rfl (by decide) ex1 er1)
  have TT := hide (T12.out.trans (tA))
  clear tA hE
  refine RX.out.mono ?_
  rintro e w1 ⟨a1, n1, d1, rfl, hn, hg, ht⟩
  have T1 := hide (TT.out.trans ht)
  have P1 := hide (Turns.refl (fun _ => False) w1)
  obtain rfl : n1 = 1 := hn
  obtain ⟨g1, rfl, hc⟩ := hg (by simp)
  have C10 := hide (hc 0 _ rfl)
  clear hc
  clear ht RX TT
  go_wp2_with fail
  refine (putA3 w1).mono ?_
  rintro e w20 ⟨k20, c20, rfl, hb, ht⟩
  have K20 := hide hb
  have U20 := hide ht
  have T20 := hide (T1.out.trans ht)
  have P11 := hide (P1.out.trans (ht))
  clear P1
  clear hb ht
  go_wp2_with fail
  refine (putA2 w20).mono ?_
  rintro e w21 ⟨k21, c21, rfl, hb, ht⟩
  have K21 := hide hb
  have U21 := hide ht
  have T21 := hide (T20.out.trans ht)
  have P12 := hide (P11.out.trans (ht))
  clear P11
  clear hb ht
  go_wp2_with fail
  refine (putA1 w21).mono ?_
  rintro e w22 ⟨k22, c22, rfl, hb, ht⟩
  have K22 := hide hb
  have U22 := hide ht
  have T22 := hide (T21.out.trans ht)
  have P13 := hide (P12.out.trans (ht))
  clear P12
  clear hb ht
  go_wp2_with fail
  have tA : Turns (fun _ => False) w22 (w22.alloc (.cells #[.slice k20 1 c20, .int .u64 3, .int .i64 1, .slice none 0 0, .slice k21 1 c21, .int .u64 2, .int .i64 1, .slice none 0 0, .slice k22 1 c22, .int .u64 1, .int .i64 1, .slice none 0 0] 29)) := (Turns.refl _ _).alloc _
  have hE : Ents (w22.alloc (.cells #[.slice k20 1 c20, .int .u64 3, .int .i64 1, .slice none 0 0, .slice k21 1 c21, .int .u64 2, .int .i64 1, .slice none 0 0, .slice k22 1 c22, .int .u64 1, .int .i64 1, .slice none 0 0] 29)) (some ⟨w22.heap.size, 0, none⟩) [⟨k20, c20, none, 0, pA 3⟩, ⟨k21, c21, none, 0, pA 2⟩, ⟨k22, c22, none, 0, pA 1⟩] := ents_new w22 [⟨k20, c20, none, 0, pA 3⟩, ⟨k21, c21, none, 0, pA 2⟩, ⟨k22, c22, none, 0, pA 1⟩] _ rfl fun x hx => by
    simp only [List.mem_cons, List.not_mem_nil, or_false] at hx
    rcases hx with rfl | rfl | rfl
    · exact ⟨(((K20.out.quiet U21.out).quiet U22.out)).quiet tA, bytes_nov rfl rfl rfl⟩
    · exact ⟨((K21.out.quiet U22.out)).quiet tA, bytes_nov rfl rfl rfl⟩
    · exact ⟨(K22.out).quiet tA, bytes_nov rfl rfl rfl⟩
  have tB : Turns (fun _ => False) (w22.alloc (.cells #[.slice k20 1 c20, .int .u64 3, .int .i64 1, .slice none 0 0, .slice k21 1 c21, .int .u64 2, .int .i64 1, .slice none 0 0, .slice k22 1 c22, .int .u64 1, .int .i64 1, .slice none 0 0] 29)) ((w22.alloc (.cells #[.slice k20 1 c20, .int .u64 3, .int .i64 1, .slice none 0 0, .slice k21 1 c21, .int .u64 2, .int .i64 1, .slice none 0 0, .slice k22 1 c22, .int .u64 1, .int .i64 1, .slice none 0 0] 29)).alloc (.cells #[.int .u64 1] 27)) := (Turns.refl _ _).alloc _
  have hU : U64s ((w22.alloc (.cells #[.slice k20 1 c20, .int .u64 3, .int .i64 1, .slice none 0 0, .slice k21 1 c21, .int .u64 2, .int .i64 1, .slice none 0 0, .slice k22 1 c22, .int .u64 1, .int .i64 1, .slice none 0 0] 29)).alloc (.cells #[.int .u64 1] 27)) (some ⟨w22.heap.size + 1, 0, none⟩) [1] := by
    have := u64s_one (heap_alloc_new (w22.alloc (.cells #[.slice k20 1 c20, .int .u64 3, .int .i64 1, .slice none 0 0, .slice k21 1 c21, .int .u64 2, .int .i64 1, .slice none 0 0, .slice k22 1 c22, .int .u64 1, .int .i64 1, .slice none 0 0] 29)) (.cells #[.int .u64 1] 27))
    rwa [World.size_alloc] at this
  have RX := hide (row_ex (some ⟨w22.heap.size, 0, none⟩) (some ⟨w22.heap.size + 1, 0, none⟩) 3 1 [⟨k20, c20, none, 0, pA 3⟩, ⟨k21, c21, none, 0, pA 2⟩, ⟨k22, c22, none, 0, pA 1⟩] [1] false l3 [pA 3, pA 1] _ (hE.quiet tB) rfl rfl (by omega) (fun x hx => by
    simp only [List.mem_cons, List.not_mem_nil, or_false] at hx
    rcases hx with rfl | rfl | rfl <;> exact ⟨show 1 ≤ 1000000 by decide, show 0 ≤ 1000000 by decide⟩) hU rfl (by decide) ex2 er2)
  have TT := hide (T22.out.trans (tA.trans tB))
  have P14 := hide (P13.out.trans (tA.trans tB))
  clear P13
  clear tA hE tB hU
  refine RX.out.mono ?_
  rintro e w2 ⟨a2, n2, d2, rfl, hn, hg, ht⟩
  have T2 := hide (TT.out.trans ht)
  have P15 := hide (P14.out.trans (ht))
  clear P14
  have P2 := hide (Turns.refl (fun _ => False) w2)
  obtain rfl : n2 = 2 := hn
  obtain ⟨g2, rfl, hc⟩ := hg (by simp)
  have C20 := hide (hc 0 _ rfl)
  have C21 := hide (hc 1 _ rfl)
  clear hc
  clear ht RX TT
  go_wp2_with fail
  refine (delA3 w2).mono ?_
  rintro e w30 ⟨k30, c30, rfl, hb, ht⟩
  have K30 := hide hb
  have U30 := hide ht
  have T30 := hide (T2.out.trans ht)
  have P16 := hide (P15.out.trans (ht))
  clear P15
  have P27 := hide (P2.out.trans (ht))
  clear P2
  clear hb ht
  go_wp2_with fail
  refine (putA1 w30).mono ?_
  rintro e w31 ⟨k31, c31, rfl, hb, ht⟩
  have K31 := hide hb
  have U31 := hide ht
  have T31 := hide (T30.out.trans ht)
  have P18 := hide (P16.out.trans (ht))
  clear P16
  have P29 := hide (P27.out.trans (ht))
  clear P27
  clear hb ht
  go_wp2_with fail
  have tA : Turns (fun _ => False) w31 (w31.alloc (.cells #[.slice k30 1 c30, .int .u64 3, .int .i64 2, .slice none 0 0, .slice k31 1 c31, .int .u64 1, .int .i64 1, .slice none 0 0] 29)) := (Turns.refl _ _).alloc _
  have hE : Ents (w31.alloc (.cells #[.slice k30 1 c30, .int .u64 3, .int .i64 2, .slice none 0 0, .slice k31 1 c31, .int .u64 1, .int .i64 1, .slice none 0 0] 29)) (some ⟨w31.heap.size, 0, none⟩) [⟨k30, c30, none, 0, dA 3⟩, ⟨k31, c31, none, 0, pA 1⟩] := ents_new w31 [⟨k30, c30, none, 0, dA 3⟩, ⟨k31, c31, none, 0, pA 1⟩] _ rfl fun x hx => by
    simp only [List.mem_cons, List.not_mem_nil, or_false] at hx
    rcases hx with rfl | rfl
    · exact ⟨((K30.out.quiet U31.out)).quiet tA, bytes_nov rfl rfl rfl⟩
    · exact ⟨(K31.out).quiet tA, bytes_nov rfl rfl rfl⟩
  have RX := hide (row_ex (some ⟨w31.heap.size, 0, none⟩) none 2 0 [⟨k30, c30, none, 0, dA 3⟩, ⟨k31, c31, none, 0, pA 1⟩] [] true l2 [] _ hE rfl rfl (by omega) (fun x hx => by
    simp only [List.mem_cons, List.not_mem_nil, or_false] at hx
    rcases hx with rfl | rfl <;> exact ⟨show 1 ≤ 1000000 by decide, show 0 ≤ 1000000 by decide⟩) (u64s_nil _) rfl (by decide) ex3 er3)
  have TT := hide (T31.out.trans (tA))
  have P110 := hide (P18.out.trans (tA))
  clear P18
  have P211 := hide (P29.out.trans (tA))
  clear P29
  clear tA hE
  refine RX.out.mono ?_
  rintro e w3 ⟨a3, n3, d3, rfl, hn, hg, ht⟩
  have T3 := hide (TT.out.trans ht)
  have P112 := hide (P110.out.trans (ht))
  clear P110
  have P213 := hide (P211.out.trans (ht))
  clear P211
  obtain rfl : n3 = 0 := hn
  clear hg
  clear ht RX TT
  go_wp2_with fail
  refine (delA3 w3).mono ?_
  rintro e w40 ⟨k40, c40, rfl, hb, ht⟩
  have K40 := hide hb
  have U40 := hide ht
  have T40 := hide (T3.out.trans ht)
  have P114 := hide (P112.out.trans (ht))
  clear P112
  have P215 := hide (P213.out.trans (ht))
  clear P213
  clear hb ht
  go_wp2_with fail
  refine (putA1 w40).mono ?_
  rintro e w41 ⟨k41, c41, rfl, hb, ht⟩
  have K41 := hide hb
  have U41 := hide ht
  have T41 := hide (T40.out.trans ht)
  have P116 := hide (P114.out.trans (ht))
  clear P114
  have P217 := hide (P215.out.trans (ht))
  clear P215
  clear hb ht
  go_wp2_with fail
  have tA : Turns (fun _ => False) w41 (w41.alloc (.cells #[.slice k40 1 c40, .int .u64 3, .int .i64 2, .slice none 0 0, .slice k41 1 c41, .int .u64 1, .int .i64 1, .slice none 0 0] 29)) := (Turns.refl _ _).alloc _
  have hE : Ents (w41.alloc (.cells #[.slice k40 1 c40, .int .u64 3, .int .i64 2, .slice none 0 0, .slice k41 1 c41, .int .u64 1, .int .i64 1, .slice none 0 0] 29)) (some ⟨w41.heap.size, 0, none⟩) [⟨k40, c40, none, 0, dA 3⟩, ⟨k41, c41, none, 0, pA 1⟩] := ents_new w41 [⟨k40, c40, none, 0, dA 3⟩, ⟨k41, c41, none, 0, pA 1⟩] _ rfl fun x hx => by
    simp only [List.mem_cons, List.not_mem_nil, or_false] at hx
    rcases hx with rfl | rfl
    · exact ⟨((K40.out.quiet U41.out)).quiet tA, bytes_nov rfl rfl rfl⟩
    · exact ⟨(K41.out).quiet tA, bytes_nov rfl rfl rfl⟩
  have tB : Turns (fun _ => False) (w41.alloc (.cells #[.slice k40 1 c40, .int .u64 3, .int .i64 2, .slice none 0 0, .slice k41 1 c41, .int .u64 1, .int .i64 1, .slice none 0 0] 29)) ((w41.alloc (.cells #[.slice k40 1 c40, .int .u64 3, .int .i64 2, .slice none 0 0, .slice k41 1 c41, .int .u64 1, .int .i64 1, .slice none 0 0] 29)).alloc (.cells #[.int .u64 1] 27)) := (Turns.refl _ _).alloc _
  have hU : U64s ((w41.alloc (.cells #[.slice k40 1 c40, .int .u64 3, .int .i64 2, .slice none 0 0, .slice k41 1 c41, .int .u64 1, .int .i64 1, .slice none 0 0] 29)).alloc (.cells #[.int .u64 1] 27)) (some ⟨w41.heap.size + 1, 0, none⟩) [1] := by
    have := u64s_one (heap_alloc_new (w41.alloc (.cells #[.slice k40 1 c40, .int .u64 3, .int .i64 2, .slice none 0 0, .slice k41 1 c41, .int .u64 1, .int .i64 1, .slice none 0 0] 29)) (.cells #[.int .u64 1] 27))
    rwa [World.size_alloc] at this
  have RX := hide (row_ex (some ⟨w41.heap.size, 0, none⟩) (some ⟨w41.heap.size + 1, 0, none⟩) 2 1 [⟨k40, c40, none, 0, dA 3⟩, ⟨k41, c41, none, 0, pA 1⟩] [1] true l2 [dA 3, pA 1] _ (hE.quiet tB) rfl rfl (by omega) (fun x hx => by
    simp only [List.mem_cons, List.not_mem_nil, or_false] at hx
    rcases hx with rfl | rfl <;> exact ⟨show 1 ≤ 1000000 by decide, show 0 ≤ 1000000 by decide⟩) hU rfl (by decide) ex4 er4)
  have TT := hide (T41.out.trans (tA.trans tB))
  have P118 := hide (P116.out.trans (tA.trans tB))
  clear P116
  have P219 := hide (P217.out.trans (tA.trans tB))
  clear P217
  clear tA hE tB hU
  refine RX.out.mono ?_
  rintro e w4 ⟨a4, n4, d4, rfl, hn, hg, ht⟩
  have T4 := hide (TT.out.trans ht)
  have P120 := hide (P118.out.trans (ht))
  clear P118
  have P221 := hide (P219.out.trans (ht))
  clear P219
  obtain rfl : n4 = 2 := hn
  obtain ⟨g4, rfl, hc⟩ := hg (by simp)
  have C40 := hide (hc 0 _ rfl)
  have C41 := hide (hc 1 _ rfl)
  clear hc
  clear ht RX TT
  have y1 : w4.cell? ⟨g1, 1, none⟩ = some (.int .u64 3) := P120.out.cell C10.out (fun x => x)
  have y2 : w4.cell? ⟨g2, 5, none⟩ = some (.int .u64 1) := P221.out.cell C21.out (fun x => x)
  go_wp2_with fail
  go_ret
  exact ⟨rfl, T4.out⟩

def pB : Ent := ⟨[98#8], 1, 1, []⟩
def pC : Ent := ⟨[99#8], 1, 1, []⟩
theorem ec1 : (inOrd [pA 1, pB, pC] && tgt 60) = true := by decide
theorem ec2 : cutE 60 [pA 1, pB, pC] = [[pA 1, pB], [pC]] := by
  unfold cutE
  rw [cutG_go (by decide), cutG_go (by decide), cutG_stop (by decide), cutG]
  simp
theorem ec3 : (inOrd [] && tgt 0) = false := by decide
theorem ec4 : (inOrd [] && looksOk [2, 1]) = false := by decide
theorem u64s_two {w : World} {g : Nat} (h : w.heap[g]? = some (.cells #[.int .u64 2, .int .u64 1] 27 (0, 0))) : U64s w (some ⟨g, 0, none⟩) [2, 1] := fun k s hk => by
  rcases k with _ | k
  · obtain rfl : s = 2 := by simpa using hk.symm
    exact ⟨⟨g, 0, rfl, cell_of_row w g 0 _ 27 (0, 0) h⟩, by decide⟩
  · rcases k with _ | k
    · obtain rfl : s = 1 := by simpa using hk.symm
      exact ⟨⟨g, 0, rfl, cell_of_row w g 1 _ 27 (0, 0) h⟩, by decide⟩
    · simp at hk
theorem ents_nil (w : World) : Ents w none [] := fun k x h => by simp at h
theorem names_any (w : World) : Calls Try.prog 3 #[] w fun e w' => e = .returned (.bool true) ∧ Below w.heap.size w w' := by
  go_enter Try.func3, Try.ntmps3
  go_wp2_with fail
  refine (putA1 w).mono ?_
  rintro e w0 ⟨k0, c0, rfl, hb, ht⟩
  have K0 := hide hb
  have U0 := hide ht
  have T0 := hide (ht)
  clear hb ht
  go_wp2_with fail
  refine (putB1 w0).mono ?_
  rintro e w1 ⟨k1, c1, rfl, hb, ht⟩
  have K1 := hide hb
  have U1 := hide ht
  have T1 := hide (T0.out.trans ht)
  clear hb ht
  go_wp2_with fail
  refine (putC1 w1).mono ?_
  rintro e w2 ⟨k2, c2, rfl, hb, ht⟩
  have K2 := hide hb
  have U2 := hide ht
  have T2 := hide (T1.out.trans ht)
  clear hb ht
  go_wp2_with fail
  have tA : Turns (fun _ => False) w2 (w2.alloc (.cells #[.slice k0 1 c0, .int .u64 1, .int .i64 1, .slice none 0 0, .slice k1 1 c1, .int .u64 1, .int .i64 1, .slice none 0 0, .slice k2 1 c2, .int .u64 1, .int .i64 1, .slice none 0 0] 29)) := (Turns.refl _ _).alloc _
  have hE : Ents (w2.alloc (.cells #[.slice k0 1 c0, .int .u64 1, .int .i64 1, .slice none 0 0, .slice k1 1 c1, .int .u64 1, .int .i64 1, .slice none 0 0, .slice k2 1 c2, .int .u64 1, .int .i64 1, .slice none 0 0] 29)) (some ⟨w2.heap.size, 0, none⟩) [⟨k0, c0, none, 0, pA 1⟩, ⟨k1, c1, none, 0, pB⟩, ⟨k2, c2, none, 0, pC⟩] := ents_new w2 [⟨k0, c0, none, 0, pA 1⟩, ⟨k1, c1, none, 0, pB⟩, ⟨k2, c2, none, 0, pC⟩] _ rfl fun x hx => by
    simp only [List.mem_cons, List.not_mem_nil, or_false] at hx
    rcases hx with rfl | rfl | rfl
    · exact ⟨((K0.out.quiet U1.out).quiet U2.out).quiet tA, bytes_nov rfl rfl rfl⟩
    · exact ⟨(K1.out.quiet U2.out).quiet tA, bytes_nov rfl rfl rfl⟩
    · exact ⟨K2.out.quiet tA, bytes_nov rfl rfl rfl⟩
  have CX := hide (Cut_any (some ⟨w2.heap.size, 0, none⟩) 3 3 60 [⟨k0, c0, none, 0, pA 1⟩, ⟨k1, c1, none, 0, pB⟩, ⟨k2, c2, none, 0, pC⟩] _ hE rfl (by omega) (fun x hx => by
    simp only [List.mem_cons, List.not_mem_nil, or_false] at hx
    rcases hx with rfl | rfl | rfl <;> exact ⟨show 1 ≤ 1000000 by decide, show 0 ≤ 1000000 by decide⟩) (show 99 ≤ 1000000000000 by decide))
  have TA := hide (T2.out.trans tA)
  clear tA hE
  refine CX.out.mono ?_
  rintro e w3 ⟨hc, t3⟩
  have T3 := hide (TA.out.trans t3)
  obtain ⟨g, cc, h0, rfl⟩ : ∃ g cc, (∃ a c, w3.cell? ⟨g, 0, none⟩ = some (.slice a 2 c)) ∧ e = .returned (.tuple #[.slice (some ⟨g, 0, none⟩) 2 cc, .int .i64 0]) := by
    have e1 : (inOrd (ents ([⟨k0, c0, none, 0, pA 1⟩, ⟨k1, c1, none, 0, pB⟩, ⟨k2, c2, none, 0, pC⟩] : List Tow)) && tgt 60) = true := ec1
    rw [e1] at hc
    rcases hc with ⟨h, _⟩ | ⟨_, v, rfl, ps, hr, hp, he, _⟩
    · cases h
    · have e2 : cutE 60 (ents ([⟨k0, c0, none, 0, pA 1⟩, ⟨k1, c1, none, 0, pB⟩, ⟨k2, c2, none, 0, pC⟩] : List Tow)) = [[pA 1, pB], [pC]] := ec2
      rw [e2] at he
      obtain ⟨p1, r1, rfl, hp1, hr1⟩ := List.map_eq_cons_iff.1 he
      obtain ⟨p2, r2, rfl, hp2, hr2⟩ := List.map_eq_cons_iff.1 hr1
      obtain rfl : r2 = [] := by simpa using hr2
      rcases hr with ⟨h, _⟩ | ⟨g, c, n, rfl, rfl, _, _, cs, k1, k2, k3⟩
      · cases h
      · have hl := congrArg List.length hp1
        simp only [List.length_map, List.length_cons, List.length_nil] at hl
        refine ⟨g, c, ⟨p1.a, p1.c, ?_⟩, rfl⟩
        rw [cell_of_row w3 g 0 cs 31 (0, 0) k1, k3 0 (by simp [rwCells])]
        show some (Value.slice p1.a p1.R.length p1.c) = _
        rw [hl]
  obtain ⟨ra, rc, h0⟩ := h0
  have H0 := hide h0
  clear hc t3 CX h0
  go_wp2_with fail
  have CY := hide (Cut_any none 0 0 0 [] w3 (ents_nil w3) rfl (by omega) (fun x hx => by cases hx) (show 0 ≤ 1000000000000 by decide))
  refine CY.out.mono ?_
  rintro e w4 ⟨hc, t4⟩
  have T4 := hide (T3.out.trans t4)
  have H1 := hide (t4.cell H0.out (fun x => x))
  obtain rfl : e = .returned (.tuple #[.slice none 0 0, .int .i64 2]) := by
    rcases hc with ⟨_, h⟩ | ⟨h, _⟩
    · exact h
    · have e3 : (inOrd (ents []) && tgt 0) = false := ec3
      rw [e3] at h; cases h
  clear hc t4 CY H0
  have n5 := heap_alloc_new w4 (.cells #[.int .u64 2, .int .u64 1] 27)
  have t5 := (Turns.refl (fun _ => False) w4).alloc (.cells #[.int .u64 2, .int .u64 1] 27)
  have VX := hide (Visible_any none (some ⟨w4.heap.size, 0, none⟩) 0 0 2 2 [] [2, 1] _ (ents_nil _) rfl (by omega) (u64s_two n5) rfl (Nat.le_refl _) (by omega))
  have T5 := hide (T4.out.trans t5)
  have H2 := hide (t5.cell H1.out (fun x => x))
  clear n5 t5 H1
  go_wp2_with fail
  refine VX.out.mono ?_
  rintro e w6 ⟨hv, t6⟩
  have T6 := hide (T5.out.trans t6)
  have H3 := hide (t6.cell H2.out (fun x => x))
  obtain rfl : e = .returned (.tuple #[.slice none 0 0, .int .i64 2]) := by
    rcases hv with ⟨_, h⟩ | ⟨h, _⟩
    · exact h
    · have e3 : (inOrd (ents []) && looksOk [2, 1]) = false := ec4
      rw [e3] at h; cases h
  clear hv t6 VX H2
  go_wp2_with fail
  refine (lives_any w6).mono ?_
  rintro e w7 ⟨rfl, t7⟩
  have T7 := hide (T6.out.trans t7)
  have h4 := t7.cell H3.out (fun x => x)
  clear t7
  go_wp2_with fail
  go_ret
  exact ⟨rfl, T7.out.below (Nat.le_refl _) (fun _ x => x.elim)⟩
end Go.Proofs.Ytpgligfolecieaa
