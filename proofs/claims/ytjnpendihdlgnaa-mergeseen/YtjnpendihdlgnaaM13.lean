import Derived.Test.YtjnpendihdlgnaaM12
/-
  What 'seen' hands back: its contract.
-/
namespace Go.Proofs.Ytjnpendihdlgnaa
open Go.RowKit Go.Shelf
set_option maxRecDepth 100000
set_option maxHeartbeats 4000000
attribute [local go_sem] Oper.semAt_some
def entsOf {rs : List Rw} (l : List (El rs)) : List Ent := l.map (·.val.e)
theorem entsOf_vals {rs : List Rw} (l : List (El rs)) : entsOf l = (valsOf l).map (·.e) := by simp [entsOf, valsOf]
/-- What has been seen so far. -/
structure SeenI (seq : Nat) (rs : List Rw) (J : List (El rs) → World → Prop) (l By Bk Bd B0 : Nat) (W0 : World) (pre : List (El rs)) (W : World) : Prop where
  ex : ∃ (out : List (El rs)) (k : Option Ky) (kv : Value), J out W ∧ entsOf out = seenO seq none (entsOf pre) ∧ k = seenK seq none (entsOf pre) ∧ W.heap[Bk]? = some (.cells #[kv] 22 (0, 0)) ∧ W.heap[Bd]? = some (.cells #[.bool k.isSome] 4 (0, 0)) ∧ ((k = none ∧ kv = .slice none 0 0) ∨ ∃ x : El rs, k = some x.val.e.key ∧ kv = .slice x.val.ka x.val.e.key.length x.val.kc)
  yb : W.heap[By]? = some (.cells #[.func (.yield l) #[] #[]] 75 (0, 0))
  low : Turns (fun k => B0 ≤ k) W0 W
theorem SeenI.own {seq : Nat} {rs : List Rw} {J : List (El rs) → World → Prop} {l By Bk Bd B0 B BJ : Nat} {W0 : World} (hJ : OwnX TS BJ J) (hB : BJ ≤ B) (hB0 : B0 ≤ B) : OwnX TM B (SeenI seq rs J l By Bk Bd B0 W0) := fun s A A' h t => by
  have n22 : ¬ TM 22 := fun h => h.elim (by decide) (by decide)
  have n4 : ¬ TM 4 := fun h => h.elim (by decide) (by decide)
  have n75 : ¬ TM 75 := fun h => h.elim (by decide) (by decide)
  obtain ⟨⟨out, k, kv, h1, h2, h3, h4, h5, h6⟩, hy, hl⟩ := h
  exact ⟨⟨out, k, kv, hJ.lower hB _ A A' h1 t, h2, h3, loose_cells t h4 n22, loose_cells t h5 n4, h6⟩, loose_cells t hy n75, hl.trans (loose_low t hB0)⟩
theorem round_wide {P : Program} {m m' l : Nat} {f : FuncId} {tmps : Array Value} {assign body : Code} {w : World} {R : Ending → World → Prop} (l' : Nat) (h : RoundIn Fence.wide m P l f tmps assign body w R) : RoundIn (Fence.wide.inRound l') m' P l f tmps assign body w R :=
  ⟨trivial, fun c cs _ => h.2 c cs (room_wide _)⟩
theorem seen1_in (n l B Bq : Nat) (hn : 4 ≤ n) (seq : Nat) (a : Option Addr) (m c : Nat) (rs : List Rw) (hm : m = rs.length) (hmx : m ≤ 1000000) (hup : ∀ (i : Nat) (x : Rw), rs[i]? = some x → x.R.Pairwise ltT) (B0 : Nat) (J Jx : List (El rs) → World → Prop) (W : World) (hB0 : B0 ≤ W.heap.size)
    (hJ : OwnX TS W.heap.size J) (hJx : OwnX TS W.heap.size Jx)
    (hY : ∀ pre x W1, J pre W1 → pre.length < tot (hds rs) → YieldAt Fence.wide (n - 1) Try.prog l #[x.val.agg] W1 fun e W' => (e = .returned (.bool true) ∧ J (pre ++ [x]) W' ∧ KpT TS B0 W1 W' ∧ KeepsFrom W.heap.size W1 W') ∨ (e = .returned (.bool false) ∧ Jx (pre ++ [x]) W' ∧ KeepsFrom W.heap.size W1 W'))
    (hr : RowsIn W a rs) (hlt : ∀ h, h ∈ hds rs → ∀ q, h.uses q → q < B0) (hlies : ∀ x, x ∈ allOf rs → ∀ q, x.lies q → q < B0) (hb : W.cell? ⟨B, 0, none⟩ = some (.slice a m c)) (hq : W.heap[Bq]? = some (.cells #[.int .u64 (seq : Nat)] 23 (0, 0))) (hqB : Bq < B0) (h0 : J [] W) :
    CallsIn Fence.wide n Try.prog 55 #[.func (.yield l) #[] #[], .pointer (some ⟨B, 0, none⟩), .pointer (some ⟨Bq, 0, none⟩)] W fun e W' => (∃ v, e = .returned v) ∧ ((∃ ys : List (El rs), (∃ xs, Mg (hds rs) xs ∧ entsOf ys = seenO seq none (xs.map (·.e))) ∧ J ys W') ∨ (∃ pre : List (El rs), (∃ xs, Mg (hds rs) xs ∧ entsOf pre <+: seenO seq none (xs.map (·.e))) ∧ Jx pre W')) := by
  have HY := hide hY
  have HJ0 := hide h0
  have HR := hide hr
  have HM := hide hm
  have HUP := hide hup
  have HLT := hide hlt
  have HLI := hide hlies
  have HJ := hide hJ
  have HJX := hide hJx
  have HQ := hide hq
  have T0 := hide ((((Turns.refl (fun _ => False) W).alloc (.cells #[.func (.yield l) #[] #[]] 75)).alloc (.cells #[.slice none 0 0] 22)).alloc (.cells #[.bool false] 4))
  have hb1 := T0.out.cell hb (fun x => x)
  clear hY h0 hr hm hup hlt hlies hJ hJx hq
  refine callsIn_of_wp_marks Try.func55 rfl trivial ?_ rfl
  simp only [Try.ntmps55, List.size_toArray, List.length_cons, List.length_nil, Nat.reduceAdd, Nat.reduceSub, Array.replicate_succ, Array.replicate_zero, List.push_toArray, List.append_toArray, List.nil_append, List.cons_append]
  gi_wp2
  refine ⟨trivial, fun _ => by omega, ?_⟩
  obtain ⟨w0, hw0⟩ : ∃ w0, w0 = ((W.alloc (.cells #[.func (.yield l) #[] #[]] 75)).alloc (.cells #[.slice none 0 0] 22)).alloc (.cells #[.bool false] 4) := ⟨_, rfl⟩
  have ny : w0.heap[W.heap.size]? = some (.cells #[.func (.yield l) #[] #[]] 75 (0, 0)) := by
    rw [hw0]
    exact (heap_alloc_old _ _ (by simp; omega)).trans ((heap_alloc_old _ _ (by simp)).trans (heap_alloc_new W _))
  have nk : w0.heap[W.heap.size + 1]? = some (.cells #[.slice none 0 0] 22 (0, 0)) := by
    rw [hw0]
    have := heap_alloc_new (W.alloc (.cells #[.func (.yield l) #[] #[]] 75)) (.cells #[.slice none 0 0] 22)
    rw [World.size_alloc] at this
    exact (heap_alloc_old _ _ (by simp)).trans this
  have nd : w0.heap[W.heap.size + 1 + 1]? = some (.cells #[.bool false] 4 (0, 0)) := by
    rw [hw0]
    have := heap_alloc_new ((W.alloc (.cells #[.func (.yield l) #[] #[]] 75)).alloc (.cells #[.slice none 0 0] 22)) (.cells #[.bool false] 4)
    rw [World.size_alloc, World.size_alloc] at this
    exact this
  rw [← hw0] at T0 ⊢
  have hs0 : w0.heap.size = W.heap.size + 3 := by rw [hw0]; simp
  clear hw0 hb1
  refine (callsIn_wide.2 (merged_any a m c w0)).mono ?_
  rintro e w1 ⟨rfl, hw1⟩
  have t1 : Turns (fun _ => False) w0 w1 := by rw [hw1]; exact (Turns.refl _ w0).alloc _
  have hc1 : w1.cell? ⟨w0.heap.size, 0, none⟩ = some (.slice a m c) := by rw [hw1]; exact cell_of_row _ _ 0 _ 28 (0, 0) (heap_alloc_new w0 _)
  have hs1 : w1.heap.size = W.heap.size + 4 := by rw [hw1]; simp; omega
  have TW := hide (T0.out.trans t1)
  have hI0 : SeenI seq rs J l W.heap.size (W.heap.size + 1) (W.heap.size + 1 + 1) B0 W [] w1 :=
    ⟨⟨[], none, .slice none 0 0, HJ.out _ _ _ HJ0.out (TW.out.mono fun _ _ x => x.elim), rfl, rfl, t1.heap nk (fun x => x), t1.heap nd (fun x => x), .inl ⟨rfl, rfl⟩⟩, t1.heap ny (fun x => x), TW.out.mono fun _ _ x => x.elim⟩
  have SEQ := hide (merged_seqB (n - 1) w0.heap.size (by omega) a m c rs HM.out hmx HUP.out w1 (HR.out.quiet TW.out) hc1 B0 (by omega) HLT.out)
  clear hw1 t1 hc1 ny nk nd
  generalize hK1 : W.heap.size + 1 = Bk at *
  generalize hK2 : Bk + 1 = Bd at *
  generalize hK0 : W.heap.size = By at *
  have HK1 := hide hK1
  have HK2 := hide hK2
  have HK0 := hide hK0
  generalize hKm : w0.heap.size = Bm at *
  have hle : By + 4 ≤ w1.heap.size := by omega
  have HKM := hide hKm
  clear hK0 hK1 hK2 hKm hs0 hs1
  gi_wp2
  refine range_x (w := w1) (n := n) rfl (by omega) (gf := 49) (lb := #[.pointer (some ⟨Bm, 0, none⟩)]) rfl trivial enters49 (hseq := SEQ.out) KpM.trans (fun W l o o' hl ho hc => KpM.put W l o o' (by omega) ho hc) (Below.refl _ _) (fun _ => rfl)
    (SeenI seq rs J l By Bk Bd B0 W)
    (fun c pre W' => c = .ret ∧ ∃ out : List (El rs), Jx out W' ∧ entsOf out = seenO seq none (entsOf pre))
    (SeenI.own HJ.out (by omega) (by omega))
    (fun c s A A' ⟨e, out, h1, h2⟩ tt => ⟨e, out, HJX.out.lower (by omega) _ A A' h1 tt, h2⟩)
    hI0
    (fun (x : El rs) a' W' => ∃ Be, W'.heap[Be]? = some (.cells #[.slice x.val.ka x.val.e.key.length x.val.kc, .int .u64 (x.val.e.seq : Nat), .int .i64 x.val.e.kind, .slice x.val.va x.val.e.val.length x.val.vc] 25 (0, 0)) ∧ a' = { tmps := #[.func (.yield l) #[] #[], .pointer (some ⟨B, 0, none⟩), .pointer (some ⟨Bq, 0, none⟩), .pointer (some ⟨By, 0, none⟩), .pointer (some ⟨Bk, 0, none⟩), .pointer (some ⟨Bd, 0, none⟩), .pointer (some ⟨Be, 0, none⟩), .slice a m c, .func (.func 49) #[] #[.pointer (some ⟨Bm, 0, none⟩)], x.val.agg, undef, undef, undef, undef, undef, undef, undef, undef, undef, undef, undef, undef, undef, undef, undef, undef, undef, undef, undef, undef, undef, undef, undef, undef], defers := [] })
    (fun x a' s A A' ⟨Be, h2, h3⟩ tt => ⟨Be, loose_cells tt h2 far_TM.h25, h3⟩) ?assign ?body ?done ?stop
  case assign =>
    rintro l' pre x W' K hI hK
    unfold Tow.agg at hK ⊢
    gi_wp2
    refine hK _ _ ((KeepsOthers.alloc _ _).from _) ((Turns.refl _ W').alloc _) (SeenI.own (B := By) HJ.out (by omega) (by omega) _ W' _ hI ((Turns.refl _ W').alloc _)) ⟨W'.heap.size, heap_alloc_new W' _, rfl⟩
  case body =>
    rintro l' pre x a' W' hl' ⟨r, hr'⟩ hI ⟨Be, hE, rfl⟩ hlt'
    have n22 : ¬ TM 22 := fun h => h.elim (by decide) (by decide)
    have n4 : ¬ TM 4 := fun h => h.elim (by decide) (by decide)
    obtain ⟨⟨out, k, kv, g1, g2, g3, g4, g5, g6⟩, gy, gl⟩ := hI
    have HI := hide (show SeenI seq rs J l By Bk Bd B0 W pre W' from ⟨⟨out, k, kv, g1, g2, g3, g4, g5, g6⟩, gy, gl⟩)
    have hxb := all_bytes HR.out x.2
    have hlies := HLI.out x.val x.2
    have KX := hide (show Bytes W' (.slice x.val.ka x.val.e.key.length x.val.kc) x.val.e.key from bytes_keep' hxb.1 gl fun q e hb hq => by have := hlies q.block (.inl ⟨q, e, rfl, hb⟩); omega)
    have cq : W'.cell? ⟨Bq, 0, none⟩ = some (.int .u64 (seq : Nat)) := gl.cell (cell_of_row W Bq 0 _ 23 (0, 0) HQ.out) (by show ¬ B0 ≤ Bq; omega)
    have cy : W'.cell? ⟨By, 0, none⟩ = some (.func (.yield l) #[] #[]) := cell_of_row W' By 0 _ 75 (0, 0) gy
    have ck : W'.cell? ⟨Bk, 0, none⟩ = some kv := cell_of_row W' Bk 0 _ 22 (0, 0) g4
    have cd : W'.cell? ⟨Bd, 0, none⟩ = some (.bool k.isSome) := cell_of_row W' Bd 0 _ 4 (0, 0) g5
    have KV := hide (show ∀ kk, k = some kk → ∃ q qn qc, kv = .slice q qn qc ∧ Bytes W' (.slice q qn qc) kk from fun kk hkk => by
      rcases g6 with ⟨e, _⟩ | ⟨z, e, e2⟩
      · rw [e] at hkk; cases hkk
      · rw [e] at hkk
        cases hkk
        have hz := HLI.out z.val z.2
        exact ⟨_, _, _, e2, bytes_keep' (all_bytes HR.out z.2).1 gl fun q e hb hq => by have := hz q.block (.inl ⟨q, e, rfl, hb⟩); omega⟩)
    have G1 := hide g1
    have G2 := hide g2
    have G3 := hide g3
    have G4 := hide g4
    have G5 := hide g5
    have GY := hide gy
    have GL := hide gl
    have HE := hide hE
    have hk0 := HK0.out
    have hk1 := HK1.out
    have hk2 := HK2.out
    have hord : By < Bk ∧ Bk < Bd ∧ B0 ≤ By := by omega
    obtain ⟨ho1, ho2, ho3⟩ := hord
    -- what comes of the list
    have STEP := hide (show entsOf (pre ++ [x]) = entsOf pre ++ [x.val.e] by simp [entsOf])
    have XE := hide (show entsOf (out ++ [x]) = entsOf out ++ [x.val.e] by simp [entsOf])
    have XV := hide (show x.val.agg = .agg #[.slice x.val.ka x.val.e.key.length x.val.kc, .int .u64 (x.val.e.seq : Nat), .int .i64 x.val.e.kind, .slice x.val.va x.val.e.val.length x.val.vc] from rfl)
    have e0 : W'.cell? ⟨Be, 0, none⟩ = some (.slice x.val.ka x.val.e.key.length x.val.kc) := cell_of_row W' Be 0 _ 25 (0, 0) hE
    have e1 : W'.cell? ⟨Be, 1, none⟩ = some (.int .u64 (x.val.e.seq : Nat)) := cell_of_row W' Be 1 _ 25 (0, 0) hE
    have e2 : W'.cell? ⟨Be, 2, none⟩ = some (.int .i64 x.val.e.kind) := cell_of_row W' Be 2 _ 25 (0, 0) hE
    have e3 : W'.cell? ⟨Be, 3, none⟩ = some (.slice x.val.va x.val.e.val.length x.val.vc) := cell_of_row W' Be 3 _ 25 (0, 0) hE
    clear g1 g2 g4 g5 g6 gy gl hE hxb hlies hk0 hk1 hk2 hr'
    have SKIP := hide (fun (hs : skipIt seq k x.val.e = true) => show SeenI seq rs J l By Bk Bd B0 W (pre ++ [x]) W' from by
      obtain ⟨⟨out', k', kv', h1, h2, h3, h4, h5, h6⟩, hy, hl⟩ := HI.out
      refine ⟨⟨out', k', kv', h1, ?_, ?_, h4, h5, h6⟩, hy, hl⟩
      · rw [STEP.out, seenO_append, ← h3, h2]
        have : k' = k := by rw [h3, g3]
        rw [this]
        simp [seenO, hs]
      · rw [STEP.out, seenK_append, ← h3]
        have : k' = k := by rw [h3, g3]
        rw [this]
        simp [seenK, hs])
    clear g3
    by_cases hsq : seq < x.val.e.seq
    · have hsk : skipIt seq k x.val.e = true := by simp [skipIt, hsq]
      have hsqi : (seq : Int) < (x.val.e.seq : Int) := by omega
      gi_wp2
      all_goals first
        | (rename_i h1 h2; exact absurd h1 (by unfold undef; intro e; cases e))
        | skip
      refine ⟨trivial, ?_⟩
      gi_wp2
      exact ⟨KeepsFrom.refl _ _, Turns.refl _ _, SKIP.out hsk⟩
    · have hsqi : ¬ (seq : Int) < (x.val.e.seq : Int) := by omega
      cases k with
      | none =>
        simp only [Option.isSome_none] at cd
        have NSK := hide (show skipIt seq none x.val.e = false by simp [skipIt]; omega)
        have tK := (Tick.refl G4.out).set 0 (.slice x.val.ka x.val.e.key.length x.val.kc)
        have tt1 := Turns.of_tick tK
        have G5a := tt1.heap G5.out (by show ¬ Bd = Bk; omega)
        have tD := (Tick.refl G5a).set 0 (.bool true)
        have tt2 := Turns.of_tick tD
        have hkv : ((W'.setCell ⟨Bk, 0, none⟩ (.slice x.val.ka x.val.e.key.length x.val.kc)).setCell ⟨Bd, 0, none⟩ (.bool true)).heap[Bk]? = some (.cells #[.slice x.val.ka x.val.e.key.length x.val.kc] 22 (0, 0)) := tt2.heap tK.1 (by show ¬ Bk = Bd; omega)
        have hyb := tt2.heap (tt1.heap GY.out (by show ¬ By = Bk; omega)) (by show ¬ By = Bd; omega)
        have ne1 : Be ≠ Bk := fun e => by have := HE.out; rw [e, G4.out] at this; cases this
        have ne2 : Be ≠ Bd := fun e => by have := HE.out; rw [e, G5.out] at this; cases this
        have hE2 := tt2.heap (tt1.heap HE.out ne1) ne2
        have ne3 : By ≠ Bk := by omega
        have ne4 : By ≠ Bd := by omega
        have ne5 : Bk ≠ Bd := by omega
        have kp1 : KpT TM B0 W' ((W'.setCell ⟨Bk, 0, none⟩ (.slice x.val.ka x.val.e.key.length x.val.kc)).setCell ⟨Bd, 0, none⟩ (.bool true)) := (KpT.one tt1 (by omega) G4.out n22).trans (KpT.one tt2 (by omega) G5a n4)
        have kf1 : ∀ B, KeepsFrom B W' ((W'.setCell ⟨Bk, 0, none⟩ (.slice x.val.ka x.val.e.key.length x.val.kc)).setCell ⟨Bd, 0, none⟩ (.bool true)) := fun B => ⟨Nat.le_trans tt1.size tt2.size, fun k o _ hk ho => tt2.heap (tt1.heap hk (fun e => by rw [e, G4.out] at hk; cases hk; cases ho)) (fun e => by rw [e, G5.out] at hk; cases hk; cases ho)⟩
        have hJ1 := HJ.out _ _ _ G1.out ((tt1.mono fun k _ e => by subst e; exact ⟨by omega, _, G4.out, .inr ⟨_, _, _, .inr (.inl rfl), rfl⟩⟩ : Turns (Loose TS By W') W' _))
        have hJ2 := HJ.out _ _ _ hJ1 ((tt2.mono fun k _ e => by subst e; exact ⟨by omega, _, G5a, .inr ⟨_, _, _, .inr (.inr (.inl rfl)), rfl⟩⟩ : Turns (Loose TS By _) _ _))
        have hlow := GL.out.trans ((tt1.mono fun k _ e => by show B0 ≤ k; omega : Turns (fun k => B0 ≤ k) W' _).trans (tt2.mono fun k _ e => by show B0 ≤ k; omega))
        have b0 := frozen_of_row W' Bk 0 _ 22 G4.out
        have b1 := frozen_of_row _ Bd 0 _ 4 G5a
        have d1 := cell_of_row _ Bd 0 _ 4 (0, 0) G5a
        have d0 := cell_of_row W' Bk 0 _ 22 (0, 0) G4.out
        have f0 := cell_of_row _ Be 0 _ 25 (0, 0) hE2
        have f1 := cell_of_row _ Be 1 _ 25 (0, 0) hE2
        have f2 := cell_of_row _ Be 2 _ 25 (0, 0) hE2
        have f3 := cell_of_row _ Be 3 _ 25 (0, 0) hE2
        have fy := cell_of_row _ By 0 _ 75 (0, 0) hyb
        have NEW := hide (fun (o2 : List (El rs)) (V : World) (hj : J o2 V) (ho : entsOf o2 = seenO seq none (entsOf (pre ++ [x]))) (kk1 : KpT TS B0 ((W'.setCell ⟨Bk, 0, none⟩ (.slice x.val.ka x.val.e.key.length x.val.kc)).setCell ⟨Bd, 0, none⟩ (.bool true)) V ∨ V = ((W'.setCell ⟨Bk, 0, none⟩ (.slice x.val.ka x.val.e.key.length x.val.kc)).setCell ⟨Bd, 0, none⟩ (.bool true))) => show SeenI seq rs J l By Bk Bd B0 W (pre ++ [x]) V from by
          have h5 : seenK seq none (entsOf (pre ++ [x])) = some x.val.e.key := by
            rw [STEP.out, seenK_append, ← G3.out]
            simp [seenK, NSK.out]
          have keep : ∀ {b t : Nat} {cs : Array Value}, ((W'.setCell ⟨Bk, 0, none⟩ (.slice x.val.ka x.val.e.key.length x.val.kc)).setCell ⟨Bd, 0, none⟩ (.bool true)).heap[b]? = some (.cells cs t (0, 0)) → TS t → V.heap[b]? = some (.cells cs t (0, 0)) := fun {b t cs} hb ht => by
            rcases kk1 with kk1 | e
            · exact kk1.heap hb fun h => h.2 ⟨_, _, _, ht, hb⟩
            · rw [e]; exact hb
          refine ⟨⟨o2, some x.val.e.key, _, hj, ho, h5.symm, keep hkv (.inr (.inl rfl)), keep tD.1 (.inr (.inr (.inl rfl))), .inr ⟨x, rfl, rfl⟩⟩, keep hyb (.inr (.inr (.inr rfl))), ?_⟩
          rcases kk1 with kk1 | e
          · exact hlow.trans (kk1.mono fun k _ h => h.1)
          · rw [e]; exact hlow)
        have KP1 := hide kp1
        have KF1 := hide kf1
        have J2 := hide hJ2
        clear tK tt1 G5a tt2 tD hkv hyb hE2 kp1 kf1 hJ1 hJ2 hlow
        by_cases hkd : x.val.e.kind = 1
        · have hsee : seenO seq none (entsOf (pre ++ [x])) = entsOf (out ++ [x]) := by
            rw [STEP.out, seenO_append, ← G3.out, XE.out, G2.out]
            simp [seenO, NSK.out, hkd]
          have hlen : out.length < tot (hds rs) := by
            have h1 := congrArg List.length G2.out
            have h2 := seenO_length seq (entsOf pre) none
            simp only [entsOf, List.length_map] at h1 h2
            omega
          obtain ⟨fn, tmps, assign, body, hy, hRd⟩ := HY.out out x _ J2.out hlen
          have RD := hide hRd
          have HSEE := hide hsee
          rw [XV.out, hkd] at hy
          clear hRd hsee
          gi_wp2
          refine ⟨trivial, ?_⟩
          gi_wp2
          refine ⟨fun _ => by omega, (round_wide l' RD.out).mono ?_⟩
          rintro e V4 (⟨rfl, hj4, hk4, hf4⟩ | ⟨rfl, hj4, hf4⟩)
          · have I4 := hide (NEW.out (out ++ [x]) V4 hj4 HSEE.out.symm (.inl hk4))
            have K4 := hide (KpM.trans (show KpM B0 _ _ from KP1.out) (kpM_of_kpT hk4))
            have F4 := hide ((KF1.out w1.heap.size).trans (keeps_mono hf4 (by have := HK0.out; omega)))
            clear hj4 hk4 hf4
            gi_wp2
            exact ⟨F4.out, K4.out, I4.out⟩
          · have F4 := hide ((KF1.out w1.heap.size).trans (keeps_mono hf4 (by have := HK0.out; omega)))
            have J4 := hide hj4
            clear hj4 hf4
            gi_wp2
            exact ⟨F4.out, rfl, out ++ [x], J4.out, HSEE.out.symm⟩
        · have hsee : seenO seq none (entsOf (pre ++ [x])) = entsOf out := by
            rw [STEP.out, seenO_append, ← G3.out, G2.out]
            simp [seenO, NSK.out, hkd]
          have HSEE := hide hsee
          clear hsee
          gi_wp2
          refine ⟨trivial, ?_⟩
          gi_wp2
          refine ⟨fun _ e => (by cases e), ?_⟩
          gi_wp2
          exact ⟨KF1.out _, KP1.out, NEW.out out _ J2.out HSEE.out.symm (.inr rfl)⟩
      | some kk =>
        obtain ⟨q, qn, qc, rfl, hqb⟩ := KV.out kk rfl
        simp only [Option.isSome_some] at cd
        by_cases hkk : x.val.e.key = kk
        · have EQ := hide (equal_any x.val.ka q x.val.e.key.length qn x.val.kc qc x.val.e.key kk W' KX.out hqb)
          rw [show decide (x.val.e.key = kk) = true by simpa using hkk] at EQ
          have hsk : skipIt seq (some kk) x.val.e = true := by simp [skipIt, hkk]
          clear hkk
          gi_wp2
          refine ⟨trivial, fun _ => by omega, ?_⟩
          refine (CallsIn.inRound l' (callsIn_wide.2 EQ.out)).mono ?_
          rintro e wq ⟨rfl, rfl⟩
          gi_wp2
          exact ⟨KeepsFrom.refl _ _, Turns.refl _ _, SKIP.out hsk⟩
        · have EQ := hide (equal_any x.val.ka q x.val.e.key.length qn x.val.kc qc x.val.e.key kk W' KX.out hqb)
          rw [show decide (x.val.e.key = kk) = false by simpa using hkk] at EQ
          have NSK := hide (show skipIt seq (some kk) x.val.e = false by simp [skipIt, hkk]; omega)
          clear hkk
          have tK := (Tick.refl G4.out).set 0 (.slice x.val.ka x.val.e.key.length x.val.kc)
          have tt1 := Turns.of_tick tK
          have G5a := tt1.heap G5.out (by show ¬ Bd = Bk; omega)
          have tD := (Tick.refl G5a).set 0 (.bool true)
          have tt2 := Turns.of_tick tD
          have hkv : ((W'.setCell ⟨Bk, 0, none⟩ (.slice x.val.ka x.val.e.key.length x.val.kc)).setCell ⟨Bd, 0, none⟩ (.bool true)).heap[Bk]? = some (.cells #[.slice x.val.ka x.val.e.key.length x.val.kc] 22 (0, 0)) := tt2.heap tK.1 (by show ¬ Bk = Bd; omega)
          have hyb := tt2.heap (tt1.heap GY.out (by show ¬ By = Bk; omega)) (by show ¬ By = Bd; omega)
          have ne1 : Be ≠ Bk := fun e => by have := HE.out; rw [e, G4.out] at this; cases this
          have ne2 : Be ≠ Bd := fun e => by have := HE.out; rw [e, G5.out] at this; cases this
          have hE2 := tt2.heap (tt1.heap HE.out ne1) ne2
          have ne3 : By ≠ Bk := by omega
          have ne4 : By ≠ Bd := by omega
          have ne5 : Bk ≠ Bd := by omega
          have kp1 : KpT TM B0 W' ((W'.setCell ⟨Bk, 0, none⟩ (.slice x.val.ka x.val.e.key.length x.val.kc)).setCell ⟨Bd, 0, none⟩ (.bool true)) := (KpT.one tt1 (by omega) G4.out n22).trans (KpT.one tt2 (by omega) G5a n4)
          have kf1 : ∀ B, KeepsFrom B W' ((W'.setCell ⟨Bk, 0, none⟩ (.slice x.val.ka x.val.e.key.length x.val.kc)).setCell ⟨Bd, 0, none⟩ (.bool true)) := fun B => ⟨Nat.le_trans tt1.size tt2.size, fun k o _ hk ho => tt2.heap (tt1.heap hk (fun e => by rw [e, G4.out] at hk; cases hk; cases ho)) (fun e => by rw [e, G5.out] at hk; cases hk; cases ho)⟩
          have hJ1 := HJ.out _ _ _ G1.out ((tt1.mono fun k _ e => by subst e; exact ⟨by omega, _, G4.out, .inr ⟨_, _, _, .inr (.inl rfl), rfl⟩⟩ : Turns (Loose TS By W') W' _))
          have hJ2 := HJ.out _ _ _ hJ1 ((tt2.mono fun k _ e => by subst e; exact ⟨by omega, _, G5a, .inr ⟨_, _, _, .inr (.inr (.inl rfl)), rfl⟩⟩ : Turns (Loose TS By _) _ _))
          have hlow := GL.out.trans ((tt1.mono fun k _ e => by show B0 ≤ k; omega : Turns (fun k => B0 ≤ k) W' _).trans (tt2.mono fun k _ e => by show B0 ≤ k; omega))
          have b0 := frozen_of_row W' Bk 0 _ 22 G4.out
          have b1 := frozen_of_row _ Bd 0 _ 4 G5a
          have d1 := cell_of_row _ Bd 0 _ 4 (0, 0) G5a
          have d0 := cell_of_row W' Bk 0 _ 22 (0, 0) G4.out
          have f0 := cell_of_row _ Be 0 _ 25 (0, 0) hE2
          have f1 := cell_of_row _ Be 1 _ 25 (0, 0) hE2
          have f2 := cell_of_row _ Be 2 _ 25 (0, 0) hE2
          have f3 := cell_of_row _ Be 3 _ 25 (0, 0) hE2
          have fy := cell_of_row _ By 0 _ 75 (0, 0) hyb
          have NEW := hide (fun (o2 : List (El rs)) (V : World) (hj : J o2 V) (ho : entsOf o2 = seenO seq none (entsOf (pre ++ [x]))) (kk1 : KpT TS B0 ((W'.setCell ⟨Bk, 0, none⟩ (.slice x.val.ka x.val.e.key.length x.val.kc)).setCell ⟨Bd, 0, none⟩ (.bool true)) V ∨ V = ((W'.setCell ⟨Bk, 0, none⟩ (.slice x.val.ka x.val.e.key.length x.val.kc)).setCell ⟨Bd, 0, none⟩ (.bool true))) => show SeenI seq rs J l By Bk Bd B0 W (pre ++ [x]) V from by
            have h5 : seenK seq none (entsOf (pre ++ [x])) = some x.val.e.key := by
              rw [STEP.out, seenK_append, ← G3.out]
              simp [seenK, NSK.out]
            have keep : ∀ {b t : Nat} {cs : Array Value}, ((W'.setCell ⟨Bk, 0, none⟩ (.slice x.val.ka x.val.e.key.length x.val.kc)).setCell ⟨Bd, 0, none⟩ (.bool true)).heap[b]? = some (.cells cs t (0, 0)) → TS t → V.heap[b]? = some (.cells cs t (0, 0)) := fun {b t cs} hb ht => by
              rcases kk1 with kk1 | e
              · exact kk1.heap hb fun h => h.2 ⟨_, _, _, ht, hb⟩
              · rw [e]; exact hb
            refine ⟨⟨o2, some x.val.e.key, _, hj, ho, h5.symm, keep hkv (.inr (.inl rfl)), keep tD.1 (.inr (.inr (.inl rfl))), .inr ⟨x, rfl, rfl⟩⟩, keep hyb (.inr (.inr (.inr rfl))), ?_⟩
            rcases kk1 with kk1 | e
            · exact hlow.trans (kk1.mono fun k _ h => h.1)
            · rw [e]; exact hlow)
          have KP1 := hide kp1
          have KF1 := hide kf1
          have J2 := hide hJ2
          clear tK tt1 G5a tt2 tD hkv hyb hE2 kp1 kf1 hJ1 hJ2 hlow
          by_cases hkd : x.val.e.kind = 1
          · have hsee : seenO seq none (entsOf (pre ++ [x])) = entsOf (out ++ [x]) := by
              rw [STEP.out, seenO_append, ← G3.out, XE.out, G2.out]
              simp [seenO, NSK.out, hkd]
            have hlen : out.length < tot (hds rs) := by
              have h1 := congrArg List.length G2.out
              have h2 := seenO_length seq (entsOf pre) none
              simp only [entsOf, List.length_map] at h1 h2
              omega
            obtain ⟨fn, tmps, assign, body, hy, hRd⟩ := HY.out out x _ J2.out hlen
            have RD := hide hRd
            have HSEE := hide hsee
            rw [XV.out, hkd] at hy
            clear hRd hsee
            gi_wp2
            refine ⟨trivial, fun _ => by omega, ?_⟩
            refine (CallsIn.inRound l' (callsIn_wide.2 EQ.out)).mono ?_
            rintro e wq ⟨rfl, rfl⟩
            gi_wp2
            refine ⟨fun _ => by omega, (round_wide l' RD.out).mono ?_⟩
            rintro e V4 (⟨rfl, hj4, hk4, hf4⟩ | ⟨rfl, hj4, hf4⟩)
            · have I4 := hide (NEW.out (out ++ [x]) V4 hj4 HSEE.out.symm (.inl hk4))
              have K4 := hide (KpM.trans (show KpM B0 _ _ from KP1.out) (kpM_of_kpT hk4))
              have F4 := hide ((KF1.out w1.heap.size).trans (keeps_mono hf4 (by have := HK0.out; omega)))
              clear hj4 hk4 hf4
              gi_wp2
              exact ⟨F4.out, K4.out, I4.out⟩
            · have F4 := hide ((KF1.out w1.heap.size).trans (keeps_mono hf4 (by have := HK0.out; omega)))
              have J4 := hide hj4
              clear hj4 hf4
              gi_wp2
              exact ⟨F4.out, rfl, out ++ [x], J4.out, HSEE.out.symm⟩
          · have hsee : seenO seq none (entsOf (pre ++ [x])) = entsOf out := by
              rw [STEP.out, seenO_append, ← G3.out, G2.out]
              simp [seenO, NSK.out, hkd]
            have HSEE := hide hsee
            clear hsee
            gi_wp2
            refine ⟨trivial, fun _ => by omega, ?_⟩
            refine (CallsIn.inRound l' (callsIn_wide.2 EQ.out)).mono ?_
            rintro e wq ⟨rfl, rfl⟩
            gi_wp2
            refine ⟨fun _ e => (by cases e), ?_⟩
            gi_wp2
            exact ⟨KF1.out _, KP1.out, NEW.out out _ J2.out HSEE.out.symm (.inr rfl)⟩
  case done =>
    rintro D xs W' hD hS hI hK
    obtain ⟨⟨out, k, kv, g1, g2, g3, g4, g5, g6⟩, gy, gl⟩ := hI
    have hJF := HJ.out _ _ _ g1 ((turns_put (.deferred none) hK).mono fun k _ e => by subst e; exact ⟨by omega, _, hK, .inl rfl⟩)
    have HK := hide hK
    have HJF := hide hJF
    have HS := hide hS
    have HG := hide g2
    clear g1 g2 g3 g4 g5 g6 gy gl hJF hS
    gi_wp2
    refine ⟨by simp, .inl ⟨_, _, rfl, run_takeDeferred HK.out, ?_⟩⟩
    refine ⟨_, results_none rfl _ _ _, ⟨_, rfl⟩, .inl ⟨out, ⟨_, HS.out, ?_⟩, HJF.out⟩⟩
    rw [HG.out, entsOf_vals]
  case stop =>
    rintro D c pre W' hD hS ⟨rfl, out, hj, ho⟩ hK
    have hJF := HJX.out _ _ _ hj ((turns_put (.deferred none) hK).mono fun k _ e => by subst e; exact ⟨by omega, _, hK, .inl rfl⟩)
    have HK := hide hK
    have HJF := hide hJF
    have HS := hide hS
    have HG := hide ho
    clear hj ho hJF hS
    gi_wp2
    refine ⟨by simp, .inl ⟨_, _, rfl, run_takeDeferred HK.out, ?_⟩⟩
    obtain ⟨ys, hys⟩ := HS.out
    refine ⟨_, results_none rfl _ _ _, ⟨_, rfl⟩, .inr ⟨out, ⟨_, hys, ?_⟩, HJF.out⟩⟩
    rw [HG.out, List.map_append, seenO_append, entsOf_vals]
    exact List.prefix_append _ _
theorem seen_seq (n B Bq : Nat) (hn : 4 ≤ n) (seq : Nat) (a : Option Addr) (m c : Nat) (rs : List Rw) (hm : m = rs.length) (hmx : m ≤ 1000000) (hup : ∀ (i : Nat) (x : Rw), rs[i]? = some x → x.R.Pairwise ltT) (w : World) (hr : RowsIn w a rs) (hb : w.cell? ⟨B, 0, none⟩ = some (.slice a m c)) (hq : w.heap[Bq]? = some (.cells #[.int .u64 (seq : Nat)] 23 (0, 0))) :
    SeqX TS Fence.wide n Try.prog 55 #[.pointer (some ⟨B, 0, none⟩), .pointer (some ⟨Bq, 0, none⟩)] (fun x : El rs => #[x.val.agg]) (KpT TS w.heap.size) (fun ys => ∃ xs, Mg (hds rs) xs ∧ entsOf ys = seenO seq none (xs.map (·.e))) (fun pre => ∃ xs, Mg (hds rs) xs ∧ entsOf pre <+: seenO seq none (xs.map (·.e))) (tot (hds rs)) w := fun l J Jx W hW hJ hJx hY h0 => by
  have t := Turns.of_below hW (fun _ => False)
  refine seen1_in n l B Bq hn seq a m c rs hm hmx hup w.heap.size J Jx W hW.size hJ hJx hY (hr.quiet t) (fun h hh q hq => (hds_mem hr (by omega) hh).1.lt hq) (fun x hx q hq => ?_) (t.cell hb (fun x => x)) (t.heap hq (fun x => x)) (lt_of_heap hq) h0
  have hxb := all_bytes hr hx
  rcases hq with ⟨ad, e, rfl, hb⟩ | ⟨ad, e, rfl, hb⟩
  · have := hxb.1
    unfold Tow.kv at this
    rw [e] at this
    exact bytes_lt this hb
  · have := hxb.2
    unfold Tow.vv at this
    rw [e] at this
    exact bytes_lt this hb
end Go.Proofs.Ytjnpendihdlgnaa

/-
  The part of a row between two keys, as a row.
-/
namespace Go.Proofs.Ytjnpendihdlgnaa
open Go.RowKit
set_option maxRecDepth 100000
set_option maxHeartbeats 4000000
def rng (fk tk : Ky) (x : Tow) : Bool := atOr fk x && (tk.isEmpty || !atOr tk x)
theorem filter_interval {α : Type} : ∀ (R : List α) (f : α → Bool) (s e : Nat), s ≤ e → (∀ i x, R[i]? = some x → (f x = true ↔ s ≤ i ∧ i < e)) → R.filter f = (R.drop s).take (e - s)
  | [], f, s, e, _, _ => by simp
  | x :: r, f, s, e, hse, h => by
    have h0 := h 0 x rfl
    cases e with
    | zero =>
      obtain rfl : s = 0 := by omega
      have ih := filter_interval r f 0 0 (Nat.le_refl _) fun i y hy => by have := h (i + 1) y (by simpa using hy); rw [this]; omega
      have hf : ¬ f x = true := by rw [h0]; omega
      rw [List.filter_cons_of_neg hf, ih]
      simp
    | succ e =>
      cases s with
      | zero =>
        have ih := filter_interval r f 0 e (Nat.zero_le _) fun i y hy => by have := h (i + 1) y (by simpa using hy); rw [this]; omega
        have hf : f x = true := by rw [h0]; omega
        rw [List.filter_cons_of_pos hf, ih]
        simp
      | succ s =>
        have ih := filter_interval r f s e (by omega) fun i y hy => by have := h (i + 1) y (by simpa using hy); rw [this]; omega
        have hf : ¬ f x = true := by rw [h0]; omega
        rw [List.filter_cons_of_neg hf, ih, show e + 1 - (s + 1) = e - s by omega]
        simp
theorem found_at {R : List Tow} {key : Ky} {k i : Nat} {x : Tow} (h : Found (atN R key) R.length k) (hi : R[i]? = some x) : atOr key x = true ↔ k ≤ i := by
  have hl := (List.getElem?_eq_some_iff.1 hi).1
  have e : atN R key i = atOr key x := by unfold atN; rw [hi]
  rw [← e]
  constructor
  · intro h1
    rcases Nat.lt_or_ge i k with h2 | h2
    · rw [h.2.1 i h2] at h1; cases h1
    · exact h2
  · intro h1
    exact h.2.2 i h1 hl
theorem rng_part {R : List Tow} {fk tk : Ky} {k1 k2 : Nat} (h1 : Found (atN R fk) R.length k1) (h2 : Found (atN R tk) R.length k2) (hto : tk ≠ []) : R.filter (rng fk tk) = (R.drop k1).take (max k1 k2 - k1) := by
  refine filter_interval R _ k1 (max k1 k2) (by omega) fun i x hx => ?_
  have e : tk.isEmpty = false := by simpa using hto
  simp only [rng, e, Bool.false_or, Bool.and_eq_true, Bool.not_eq_true', found_at h1 hx]
  have := found_at h2 hx
  cases h3 : atOr tk x with
  | true => have := this.1 h3; simp; omega
  | false =>
    have : ¬ k2 ≤ i := fun h => by rw [this.2 h] at h3; cases h3
    simp
    omega
theorem rng_all {R : List Tow} {fk : Ky} {k1 : Nat} (h1 : Found (atN R fk) R.length k1) : R.filter (rng fk []) = (R.drop k1).take (R.length - k1) := by
  have hk := h1.1
  refine filter_interval R _ k1 R.length hk fun i x hx => ?_
  have hl := (List.getElem?_eq_some_iff.1 hx).1
  simp only [rng, List.isEmpty_nil, Bool.true_or, Bool.and_true, found_at h1 hx]
  omega
/-- A part of a row. -/
theorem RwOk.part {w : World} {b off c s m : Nat} {R : List Tow} (h : RwOk w ⟨some ⟨b, off, none⟩, c, R⟩) (hs : s + m ≤ R.length) (c' : Nat) (hc : m ≤ c') : RwOk w ⟨some ⟨b, off + s * 4, none⟩, c', (R.drop s).take m⟩ := by
  have hl : ((R.drop s).take m).length = m := by rw [List.length_take, List.length_drop]; omega
  refine ⟨fun k x hx => ?_, by simp only [hl]; exact hc, by have := h.size; simp only at this; simp only [hl]; omega⟩
  have hk := (List.getElem?_eq_some_iff.1 hx).1
  simp only [hl] at hk
  have hx' : R[s + k]? = some x := by
    simp only at hx
    rw [List.getElem?_take_of_lt hk, List.getElem?_drop] at hx
    exact hx
  obtain ⟨⟨b', off', e, hc'⟩, h1, h2⟩ := h.ents (s + k) x hx'
  simp only [Option.some.injEq, Addr.mk.injEq, and_true] at e
  obtain ⟨rfl, rfl⟩ := e
  refine ⟨⟨_, _, rfl, fun j u hu => ?_⟩, h1, h2⟩
  have := hc' j u hu
  rw [show off + (s + k) * 4 + j = off + s * 4 + k * 4 + j by omega] at this
  exact this
theorem RwOk.piece {w : World} {ad : Addr} {c s m : Nat} {R : List Tow} (h : RwOk w ⟨some ad, c, R⟩) (hs : s + m ≤ R.length) (c' : Nat) (hc : m ≤ c') : RwOk w ⟨some (ad.add (s * 4)), c', (R.drop s).take m⟩ := by
  cases m with
  | zero => exact ⟨fun k x hx => by simp at hx, by simp, by simp⟩
  | succ m =>
    obtain ⟨y, r, e⟩ := List.exists_cons_of_ne_nil (show R ≠ [] from fun e => by rw [e] at hs; simp at hs)
    obtain ⟨⟨b', o', e2, _⟩, _⟩ := h.ents 0 y (by simp only; rw [e]; rfl)
    simp only [Option.some.injEq] at e2
    subst e2
    rw [Go.WideShapes.add_plain]
    exact h.part hs c' hc
/-- What a slice of a row comes to. -/
theorem piece_end {w : World} {ad : Addr} {c s m n : Nat} {R : List Tow} (h : RwOk w ⟨some ad, c, R⟩) (hs : s + m ≤ n) (hn : n = R.length) (f : Tow → Bool) (hf : R.filter f = (R.drop s).take m) :
    (s < c → ∃ x' : Rw, Value.slice (some (ad.add (s * 4))) m (c - s) = .slice x'.a x'.R.length x'.c ∧ (∀ u, RwOk u ⟨some ad, c, R⟩ → RwOk u x') ∧ x'.R = R.filter f ∧ (x'.a = none → x'.c = 0)) ∧
    (c ≤ s → m = 0 ∧ ∃ x' : Rw, Value.slice (some ad) m 0 = .slice x'.a x'.R.length x'.c ∧ (∀ u, RwOk u ⟨some ad, c, R⟩ → RwOk u x') ∧ x'.R = R.filter f ∧ (x'.a = none → x'.c = 0)) := by
  have hc := h.cap
  simp only at hc
  have hl : ((R.drop s).take m).length = m := by rw [List.length_take, List.length_drop]; omega
  refine ⟨fun h1 => ⟨⟨_, c - s, (R.drop s).take m⟩, by simp only [hl], fun u hu => hu.piece (by omega) _ (by omega), hf.symm, fun e => by cases e⟩, fun h1 => ?_⟩
  obtain rfl : m = 0 := by omega
  exact ⟨rfl, ⟨some ad, 0, []⟩, rfl, fun u _ => ⟨fun k x hx => by simp at hx, by simp, by simp⟩, by rw [hf]; simp, fun e => by cases e⟩
theorem between_any (x : Rw) (fa ta : Option Addr) (fn fc tn tc : Nat) (fk tk : Ky) (w : World) (h : RwOk w x) (hnil : x.a = none → x.c = 0) (hf : Bytes w (.slice fa fn fc) fk) (ht : Bytes w (.slice ta tn tc) tk) (hup : x.R.Pairwise ltT) :
    Calls Try.prog 38 #[.slice x.a x.R.length x.c, .slice fa fn fc, .slice ta tn tc] w fun e w' => ∃ x' : Rw, e = .returned (.slice x'.a x'.R.length x'.c) ∧ (∀ u, RwOk u x → RwOk u x') ∧ x'.R = x.R.filter (rng fk tk) ∧ (x'.a = none → x'.c = 0) ∧ Below w.heap.size w w' := by
  have htl := ht.len
  have BF := hide (below_any x.a x.R.length x.c x.R fa fn fc fk w h.ents rfl h.size hf hup)
  have BT := hide (fun (u : World) (t : Turns (fun _ => False) w u) => below_any x.a x.R.length x.c x.R ta tn tc tk u (h.ents.quiet t) rfl h.size (ht.quiet t) hup)
  have H0 := hide h
  have hcap := h.cap
  have hsz := h.size
  obtain ⟨xa, xc, R⟩ := x
  simp only at *
  cases xa with
  | none =>
    obtain rfl : xc = 0 := hnil rfl
    obtain rfl : R = [] := List.eq_nil_of_length_eq_zero (by omega)
    have X := hide (fun (w' : World) (hb : Below w.heap.size w w') => show ∃ x' : Rw, Ending.returned (.slice none 0 0) = .returned (.slice x'.a x'.R.length x'.c) ∧ (∀ u, RwOk u ⟨none, 0, []⟩ → RwOk u x') ∧ x'.R = ([] : List Tow).filter (rng fk tk) ∧ (x'.a = none → x'.c = 0) ∧ Below w.heap.size w w' from ⟨⟨none, 0, []⟩, rfl, fun u _ => ⟨fun k x hx => by simp at hx, by simp, by simp⟩, rfl, fun _ => rfl, hb⟩)
    clear h hf ht hup hnil H0 hcap hsz htl
    by_cases hto : tn = 0
    · subst hto
      go_enter Try.func38, Try.ntmps38
      go_wp2_with fail
      refine BF.out.mono ?_
      rintro e w1 ⟨k1, rfl, hF, hb1⟩
      obtain rfl : k1 = 0 := Nat.le_zero.1 hF.1
      have HB1 := hide (X.out _ hb1)
      clear hF hb1
      go_wp2_with fail
      go_ret
      exact HB1.out
    · have hpos : 0 < tn := by omega
      go_enter Try.func38, Try.ntmps38
      go_wp2_with fail
      refine BF.out.mono ?_
      rintro e w1 ⟨k1, rfl, hF, hb1⟩
      obtain rfl : k1 = 0 := Nat.le_zero.1 hF.1
      have HB1 := hide hb1
      have CB := hide (BT.out w1 (Turns.of_below hb1 _))
      clear hF hb1
      go_wp2_with fail
      refine CB.out.mono ?_
      rintro e w2 ⟨k2, rfl, hF2, hb2⟩
      obtain rfl : k2 = 0 := Nat.le_zero.1 hF2.1
      have HB2 := hide (X.out _ (then_below HB1.out hb2 (Nat.le_refl _)))
      clear hF2 hb2
      go_wp2_with fail
      go_ret
      exact HB2.out
  | some ad =>
    by_cases hto : tk = []
    · subst hto
      obtain rfl : tn = 0 := htl
      have HRP := hide (fun (k1 : Nat) (h1 : Found (atN R fk) R.length k1) => piece_end h (show k1 + (R.length - k1) ≤ R.length by have := h1.1; omega) rfl _ (rng_all (fk := fk) h1))
      clear h hf ht hup
      generalize hn : R.length = n at *
      have HN := hide hn
      clear hn
      go_enter Try.func38, Try.ntmps38
      go_wp2_with fail
      refine BF.out.mono ?_
      rintro e w1 ⟨k1, rfl, hF, hb1⟩
      have hk1 := hF.1
      have HP := hide (HRP.out k1 hF)
      have hk1i : (k1 : Int) ≤ (n : Int) := by omega
      have hni : (n : Int) ≤ (xc : Int) := by omega
      have HB1 := hide hb1
      clear hF hb1
      by_cases hkc : k1 < xc
      · have hkci : (k1 : Int) < (xc : Int) := by omega
        have X := hide (HP.out.1 hkc)
        go_wp2_with fail
        go_ret
        obtain ⟨x', e1, e2, e3, e4⟩ := X.out
        exact ⟨x', congrArg Ending.returned e1, e2, e3, e4, HB1.out⟩
      · obtain rfl : xc = k1 := by omega
        obtain ⟨hm0, x', e1, e2, e3, e4⟩ := HP.out.2 (by omega)
        obtain rfl : n = xc := by omega
        rw [Nat.sub_self] at e1
        have X := hide (show ∃ x' : Rw, Value.slice (some ad) 0 0 = .slice x'.a x'.R.length x'.c ∧ (∀ u, RwOk u ⟨some ad, _, R⟩ → RwOk u x') ∧ x'.R = R.filter (rng fk []) ∧ (x'.a = none → x'.c = 0) from ⟨x', e1, e2, e3, e4⟩)
        clear e1 e2 e3 e4 hm0
        go_wp2_with fail
        go_ret
        obtain ⟨x', e1, e2, e3, e4⟩ := X.out
        exact ⟨x', congrArg Ending.returned e1, e2, e3, e4, HB1.out⟩
    · have hpos : 0 < tn := by rw [htl]; exact List.length_pos_iff.2 hto
      have HRP := hide (fun (k1 k2 : Nat) (h1 : Found (atN R fk) R.length k1) (h2 : Found (atN R tk) R.length k2) => piece_end h (show k1 + (max k1 k2 - k1) ≤ R.length by have := h1.1; have := h2.1; omega) rfl _ (rng_part (fk := fk) (tk := tk) h1 h2 hto))
      clear h hf ht hup htl
      generalize hn : R.length = n at *
      have HN := hide hn
      clear hn
      go_enter Try.func38, Try.ntmps38
      go_wp2_with fail
      refine BF.out.mono ?_
      rintro e w1 ⟨k1, rfl, hF, hb1⟩
      have hk1 := hF.1
      have HF := hide hF
      have hk1i : (k1 : Int) ≤ (n : Int) := by omega
      have hni : (n : Int) ≤ (xc : Int) := by omega
      have HB1 := hide hb1
      have CB := hide (BT.out w1 (Turns.of_below hb1 _))
      clear hF hb1
      go_wp2_with fail
      refine CB.out.mono ?_
      rintro e w2 ⟨k2, rfl, hF2, hb2⟩
      have hk2 := hF2.1
      have HP := hide (HRP.out k1 k2 HF.out hF2)
      have hk2i : (k2 : Int) ≤ (n : Int) := by omega
      have HB2 := hide (then_below HB1.out hb2 (Nat.le_refl _))
      clear hF2 hb2 CB
      have fin : ∀ v, (∃ x' : Rw, v = .slice x'.a x'.R.length x'.c ∧ (∀ u, RwOk u ⟨some ad, xc, R⟩ → RwOk u x') ∧ x'.R = R.filter (rng fk tk) ∧ (x'.a = none → x'.c = 0)) → ∃ x' : Rw, Ending.returned v = .returned (.slice x'.a x'.R.length x'.c) ∧ (∀ u, RwOk u ⟨some ad, xc, R⟩ → RwOk u x') ∧ x'.R = R.filter (rng fk tk) ∧ (x'.a = none → x'.c = 0) ∧ Below w.heap.size w w2 := fun v hv => by
        obtain ⟨x', e1, e2, e3, e4⟩ := hv
        exact ⟨x', congrArg Ending.returned e1, e2, e3, e4, HB2.out⟩
      have FN := hide fin
      clear fin
      by_cases hk : k1 < k2
      · have hki : (k1 : Int) < (k2 : Int) := by omega
        rw [show max k1 k2 = k2 by omega] at HP
        have hmx : max (k1 : Int) (k2 : Int) = k2 := by omega
        by_cases hkc : k1 < xc
        · have hkci : (k1 : Int) < (xc : Int) := by omega
          have X := hide (FN.out _ (HP.out.1 hkc))
          go_wp2_with fail
          go_ret
          exact X.out
        · obtain ⟨hm0, hx⟩ := HP.out.2 (by omega)
          obtain rfl : xc = k1 := by omega
          omega
      · have hki : ¬ (k1 : Int) < (k2 : Int) := by omega
        rw [show max k1 k2 = k1 by omega, Nat.sub_self] at HP
        have hmx : max (k1 : Int) (k2 : Int) = k1 := by omega
        by_cases hkc : k1 < xc
        · have hkci : (k1 : Int) < (xc : Int) := by omega
          have X := hide (FN.out _ (HP.out.1 hkc))
          go_wp2_with fail
          all_goals go_ret
          all_goals exact X.out
        · obtain ⟨_, hx⟩ := HP.out.2 (by omega)
          obtain rfl : xc = k1 := by omega
          have X := hide (FN.out _ hx)
          clear hx
          go_wp2_with fail
          go_ret
          exact X.out
end Go.Proofs.Ytjnpendihdlgnaa
