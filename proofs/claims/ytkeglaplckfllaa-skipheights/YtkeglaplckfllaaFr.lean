/-
  From: the first entries from a key on.
-/
import Derived.Test.YtkeglaplckfllaaFb
namespace Go.Proofs.Ytkeglaplckfllaa
open Go.RowKit Go.Shelf
attribute [local go_sem] Oper.semAt_some
theorem heap_own {W W' : World} {row : Option Nat} (hg : W.grownBy W' row) (hr : ∀ r, row = some r → ∃ o : Obj, W.heap[r]? = some o ∧ o.isCells = false) {b : Nat} {cs : Array Value} {t : TypeId} {fr : Nat × Nat} (h : W.heap[b]? = some (.cells cs t fr)) : W'.heap[b]? = some (.cells cs t fr) := by
  refine (hg.block b (lt_of_heap h) fun e => ?_).trans h
  obtain ⟨o, h1, h2⟩ := hr b e.symm
  rw [h] at h1
  cases h1
  cases h2
theorem bytes_own {W W' : World} {row : Option Nat} (hg : W.grownBy W' row) (hr : ∀ r, row = some r → ∃ o : Obj, W.heap[r]? = some o ∧ o.isCells = false) {v : Value} {bs : List (BitVec 8)} (h : Bytes W v bs) : Bytes W' v bs := by
  obtain ⟨a, c, rfl, h⟩ := h
  exact ⟨a, c, rfl, fun k hk => let ⟨b, off, h1, h2⟩ := h k hk; ⟨b, off, h1, cell_kept h2 hg hr⟩⟩
theorem ptrO_is (o : Option Nat) : ∃ q, ptrO o = .pointer q := by
  cases o with
  | none => exact ⟨_, rfl⟩
  | some b => exact ⟨_, rfl⟩
def eOf (ts : List Tow) (j : Fin ts.length) : Ent := ts[j].e
theorem map_xsF (ts : List Tow) (p : Nat) : (xsF ts p).map (eOf ts) = (ts.drop p).map (·.e) := by
  unfold xsF
  rw [List.map_drop, List.map_drop]
  congr 1
  refine List.ext_getElem (by simp) fun i h1 h2 => ?_
  simp [eOf]
theorem ERow.le {w : World} {B B' : Nat} {v : Value} {R : List Tow} (h : ERow w B v R) (hB : B' ≤ B) : ERow w B' v R := by
  rcases h with h | ⟨g, c, n, h1, h2, h3, h4, h5⟩
  · exact .inl h
  · exact .inr ⟨g, c, n, h1, h2, h3, Nat.le_trans hB h4, h5⟩
theorem Shown.le {w : World} {B B' : Nat} {R : List Tow} (h : Shown w B R) (hB : B' ≤ B) : Shown w B' R := fun x hx => ⟨(h x hx).1, (h x hx).2.1, fun q hq => ⟨Nat.le_trans hB ((h x hx).2.2 q hq).1, ((h x hx).2.2 q hq).2⟩⟩
theorem Got.own {N0 bl bn : Nat} {n : Int} {w : World} {R : List Tow} {B : Nat} (h1 : N0 ≤ w.heap.size) (hB : N0 ≤ B) {W W' : World} {row : Option Nat} (h : Got N0 bl bn n w R W) (hg : W.grownBy W' row) (hr : ∀ r, row = some r → B ≤ r ∧ ∃ o : Obj, W.heap[r]? = some o ∧ o.isCells = false) : Got N0 bl bn n w R W' := by
  obtain ⟨v, ⟨a1, a2, a3, a4, a5⟩, a6⟩ := h
  have hr' := fun r e => (hr r e).2
  refine ⟨v, ⟨heap_own hg hr' a1, heap_own hg hr' a2, ?_, fun x hx => ?_, a5⟩, ?_⟩
  · rcases a3 with a3 | ⟨g, c, m, b1, b2, b3, b4, cs, b5, b6, b7⟩
    · exact .inl a3
    · exact .inr ⟨g, c, m, b1, b2, b3, b4, cs, heap_own hg hr' b5, b6, b7⟩
  · have := a4 x hx
    exact ⟨bytes_own hg hr' this.1, bytes_own hg hr' this.2.1, fun q hq => ⟨(this.2.2 q hq).1, Nat.lt_of_lt_of_le (this.2.2 q hq).2 hg.size⟩⟩
  · exact ownFrom_below (β := Unit) h1 hB () W W' row a6 hg hr
/-- The loop was left. -/
def Left (ts : List Tow) (n : Int) (w : World) (c : Code) (pre : List (Fin ts.length)) (W : World) : Prop := ∃ pre' x R, c = .exit 0 ∧ pre = pre' ++ [x] ∧ Got w.heap.size (w.heap.size + 1) w.heap.size n w R W ∧ R.map (·.e) = pre'.map (eOf ts) ∧ (pre'.length : Int) ≤ max n 0 ∧ n ≤ (pre'.length : Int)
set_option maxRecDepth 100000 in
set_option maxHeartbeats 4000000 in
theorem from_any (A : Nat → Prop) (t bg : Nat) (ts : List Tow) (w : World) (ka : Option Addr) (kn kc : Nat) (key : List (BitVec 8)) (n : Int) (h : Tab A w t bg ts) (hk : Bytes w (.slice ka kn kc) key) (hn : ts.length ≤ 100000) (hs : sizeT ts ≤ 900000) :
    Calls Try.prog 29 #[.pointer (some ⟨t, 0, none⟩), .slice ka kn kc, .int .i64 n] w fun e w' => ∃ v R, e = .returned v ∧ ERow w' w.heap.size v R ∧ Shown w' w.heap.size R ∧ R.map (·.e) = ((ts.drop (place (key, 18446744073709551615) ts)).map (·.e)).take n.toNat ∧ Below w.heap.size w w' := by
  have T0 := hide (((Turns.refl (fun _ => False) w).alloc (.cells #[.int .i64 n] 3)).alloc (.cells #[.slice none 0 0] 33))
  have TA := hide ((Turns.refl (fun _ => False) w).alloc (.cells #[.int .i64 n] 3))
  have HTW := hide (h.mono (A' := fun k => A k ∧ k < w.heap.size) fun k hk ha => ⟨ha, hk⟩)
  have HT := hide (HTW.out.quiet T0.out)
  have HM := hide (made_any _ t bg ts _ (HTW.out.quiet TA.out))
  have HL := hide (look_any _ t bg ts ka kn kc 18446744073709551615 key _ HT.out (hk.quiet T0.out) (by omega))
  have hpl := place_le (key, 18446744073709551615) ts
  have r0 := heap_keep ((Below.refl _ (w.alloc (.cells #[.int .i64 n] 3))).alloc (Nat.le_refl _) (.cells #[.slice none 0 0] 33)) (heap_alloc_new w (.cells #[.int .i64 n] 3))
  have r1 := heap_alloc_new (w.alloc (.cells #[.int .i64 n] 3)) (.cells #[.slice none 0 0] 33)
  rw [show (w.alloc (.cells #[.int .i64 n] 3)).heap.size = w.heap.size + 1 by simp] at r1
  have R0 := hide r0
  have R1 := hide r1
  clear r0 r1 h hk TA
  generalize hpn : place (key, 18446744073709551615) ts = p at *
  have HPN := hide hpn
  clear hpn
  refine (callsIn_wide (n := 5)).1 ?_
  refine callsIn_of_wp_marks Try.func29 rfl trivial ?_ rfl
  simp only [Try.ntmps29, List.size_toArray, List.length_cons, List.length_nil, Nat.reduceAdd, Nat.reduceSub, Array.replicate_succ, Array.replicate_zero, List.push_toArray, List.append_toArray, List.nil_append, List.cons_append]
  gi_wp2_with (first
    | (refine ⟨trivial, ?_⟩; gi_at_call 35; refine (callsIn_wide.2 HM.out).mono ?_; rintro e w1 ⟨rfl, hw1⟩; subst hw1)
    | (refine ⟨trivial, ?_⟩; gi_at_call 37; refine (callsIn_wide.2 HL.out).mono ?_; rintro e w2 ⟨cs, rfl, hp, b2⟩; have PIN := hide hp; have T2 := hide (Turns.of_below b2 (fun _ => False)); clear hp b2)
    | (refine ⟨trivial, ?_⟩; gi_at_call 41; refine (callsIn_wide.2 (behind_any w2 (HT.out.quiet T2.out) hpl PIN.out)).mono ?_; rintro e w3 ⟨rfl, b3⟩; have T3 := hide (T2.out.trans (Turns.of_below b3 (fun _ => False))); obtain ⟨po, hpo⟩ := ptrO_is ((ts[p]?).map (·.b)); rw [hpo]; have HPO := hide hpo; clear b3 hpo)
    | (refine ⟨trivial, ?_⟩; gi_at_call 48; refine (callsIn_wide.2 (onward_any po w3)).mono ?_; rintro e w4 ⟨rfl, hw4⟩; subst hw4))
  have hT4 : Turns (fun _ => False) w (w3.alloc (.cells #[.pointer po] 54)) := (T0.out.trans T3.out).alloc _
  have hsz3 : w.heap.size + 2 ≤ w3.heap.size := by
    have := T3.out.size
    simp at this
    omega
  have hsz4 : (w3.alloc (.cells #[.pointer po] 54)).heap.size = w3.heap.size + 1 := by simp
  have hc4 : (w3.alloc (.cells #[.pointer po] 54)).cell? ⟨w3.heap.size, 0, none⟩ = some (ptrO ((ts[p]?).map (·.b))) := by
    rw [HPO.out]
    exact cell_of_row _ _ 0 _ 54 (0, 0) (heap_alloc_new w3 _)
  have hR0 := (T3.out.alloc (.cells #[.pointer po] 54)).heap R0.out (fun x => x)
  have hR1 := (T3.out.alloc (.cells #[.pointer po] 54)).heap R1.out (fun x => x)
  have hG0 : Got w.heap.size (w.heap.size + 1) w.heap.size n w [] (w3.alloc (.cells #[.pointer po] 54)) := ⟨.slice none 0 0, ⟨hR1, hR0, .inl ⟨rfl, rfl⟩, fun x hx => (by cases hx), fun x hx => (by cases hx)⟩, hT4.below (Nat.le_refl _) (fun _ x => x.elim)⟩
  have TB4 := hide (HTW.out.quiet hT4)
  have HG0 := hide hG0
  clear hG0 hR0 hR1
  refine wpIn_rangeFunc_ownH (w := w3.alloc (.cells #[.pointer po] 54)) rfl (by decide) (gf := 58) (lb := #[.pointer (some ⟨w3.heap.size, 0, none⟩)]) rfl trivial (enters_of Try.func58 (by kernel_rfl) rfl)
    (onward_stops 4 w3.heap.size w.heap.size p (by decide) (fun k => A k ∧ k < w.heap.size) t bg ts (w3.alloc (.cells #[.pointer po] 54)) (by omega) hc4 hpl (fun k hk => hk.2) TB4.out) belowK_t (belowK_b (by omega)) (Below.refl _ _) (fun _ => rfl)
    (fun (pre : List (Fin ts.length)) W => ∃ R, Got w.heap.size (w.heap.size + 1) w.heap.size n w R W ∧ R.map (·.e) = pre.map (eOf ts) ∧ (pre.length : Int) ≤ max n 0)
    (Left ts n w)
    (fun s W W' row ⟨R, h1, h2, h3⟩ hg hr => ⟨R, h1.own (Nat.le_refl _) (by omega) hg hr, h2, h3⟩)
    (fun c s W W' row ⟨pre', x, R, e1, e2, h1, h2, h3, h4⟩ hg hr => ⟨pre', x, R, e1, e2, h1.own (Nat.le_refl _) (by omega) hg hr, h2, h3, h4⟩)
    ⟨[], HG0.out, rfl, by simp; omega⟩
    (fun (x : Fin ts.length) a' W => ∃ Be, w.heap.size + 1 < Be ∧ W.heap[Be]? = some (.cells #[.slice ts[x].ka ts[x].e.key.length ts[x].kc, .int .u64 (ts[x].e.seq : Nat), .int .i64 ts[x].e.kind, .slice ts[x].va ts[x].e.val.length ts[x].vc] 29 (0, 0)) ∧ a' = { tmps := #[.pointer (some ⟨t, 0, none⟩), .slice ka kn kc, .int .i64 n, undef, undef, .pointer (some ⟨w.heap.size, 0, none⟩), .slice none 0 0, .pointer (some ⟨w.heap.size + 1, 0, none⟩), .pointer (some ⟨Be, 0, none⟩), .pointer (some ⟨t, 0, none⟩), .bool true, .bool false, .pointer (some ⟨t, 0, none⟩), .slice ka kn kc, .agg cs, .pointer po, .func (.func 58) #[] #[.pointer (some ⟨w3.heap.size, 0, none⟩)], .agg #[.slice ts[x].ka ts[x].e.key.length ts[x].kc, .int .u64 (ts[x].e.seq : Nat), .int .i64 ts[x].e.kind, .slice ts[x].va ts[x].e.val.length ts[x].vc], undef, undef, undef, undef, undef, undef, undef, undef, undef, undef], defers := [] })
    (fun x a' s W W' row ⟨Be, h1, h2, h3⟩ hg hr => ⟨Be, h1, heap_own hg (fun r e => (hr r e).2) h2, h3⟩) ?assign ?body ?done ?stop
  case assign =>
    rintro l pre x W K ⟨R, hG, hR, hlen⟩ hK
    gi_wp2
    have hW : w.heap.size + 1 < W.heap.size := by
      obtain ⟨v, ⟨g1, _⟩, _⟩ := hG
      exact lt_of_heap g1
    exact hK _ _ ((KeepsOthers.alloc _ _).from _) ((Below.refl _ W).alloc (by omega) _) ⟨R, hG.own (B := w.heap.size) (Nat.le_refl _) (Nat.le_refl _) (World.grownBy_alloc W _ none) (fun r e => by cases e), hR, hlen⟩ ⟨W.heap.size, hW, heap_alloc_new W _, rfl⟩
  case body =>
    rintro l pre x a' W hl ⟨r, hr⟩ ⟨R, hG, hR, hlen⟩ ⟨Be, hBe, hE, rfl⟩ hlt
    have HG := hide hG
    obtain ⟨v, ⟨g1, g2, g3, g4, g5⟩, g6⟩ := hG
    have hRl : R.length = pre.length := by
      have := congrArg List.length hR
      simpa using this
    obtain ⟨a, c, rfl⟩ := g3.len
    have c1 : W.cell? ⟨w.heap.size + 1, 0, none⟩ = some (.slice a R.length c) := cell_of_row W _ 0 _ 33 (0, 0) g1
    have z1 : W.frozen? ⟨w.heap.size + 1, 0, none⟩ = false := frozen_of_row W _ 0 _ 33 g1
    have c2 : W.cell? ⟨w.heap.size, 0, none⟩ = some (.int .i64 n) := cell_of_row W _ 0 _ 3 (0, 0) g2
    have HRL := hide hRl
    have C1 := hide c1
    have hpre : pre.length ≤ 100000 := by
      first
        | omega
        | (rw [xsF_length] at hlt; omega)
    have HE := hide hE
    have G1 := hide g1
    have G2 := hide g2
    have G3 := hide g3
    have G4 := hide g4
    have G5 := hide g5
    have G6 := hide g6
    have HR := hide hR
    clear g1 g2 g3 g4 g5 g6 hE hR hRl
    by_cases hge : n ≤ (R.length : Int)
    · gi_wp2
      exact ⟨(KeepsOthers.refl _).from _, pre, x, R, rfl, rfl, HG.out, HR.out, hlen, by have := HRL.out; omega⟩
    · have hge' : (R.length : Int) < n := by omega
      have hmem : ts[x] ∈ ts := List.getElem_mem x.2
      have TBW := hide (HTW.out.quiet (Turns.of_below G6.out (fun _ => False)))
      have hle := sizeT_mem hmem
      have HKX := hide (TBW.out.keys ts[x] hmem)
      have e0 : W.cell? ⟨Be, 0, none⟩ = some (.slice ts[x].ka ts[x].e.key.length ts[x].kc) := cell_of_row W Be 0 _ 29 (0, 0) HE.out
      have e1 : W.cell? ⟨Be, 1, none⟩ = some (.int .u64 (ts[x].e.seq : Nat)) := cell_of_row W Be 1 _ 29 (0, 0) HE.out
      have e2 : W.cell? ⟨Be, 2, none⟩ = some (.int .i64 ts[x].e.kind) := cell_of_row W Be 2 _ 29 (0, 0) HE.out
      have e3 : W.cell? ⟨Be, 3, none⟩ = some (.slice ts[x].va ts[x].e.val.length ts[x].vc) := cell_of_row W Be 3 _ 29 (0, 0) HE.out
      clear hge
      have HYE : Hid (eOf ts x = ts[x].e) := hide rfl
      generalize ts[x] = y at *
      have HCL := hide (cloneE_any y.ka y.va y.e.key.length y.kc y.e.val.length y.vc y.e.seq y.e.kind y.e.key y.e.val W.drew (HKX.out.1.quiet (Turns.refl _ W).drew) (HKX.out.2.quiet (Turns.refl _ W).drew) (by omega) (by omega))
      gi_wp2
      refine wpIn_region_any (by kernel_rfl) ?_
      refine wpAnyIn_ready (rs := [0, 1]) (by kernel_rfl) (by simp) ?_
      refine AllReadyIn.cons rfl (fun K hK => ?_) ?_
      · go_simp
        refine hK _ _ ?_
        clear hK K
        refine wpAnyIn_ready (rs := [1]) (by kernel_rfl) (by simp) ?_
        refine AllReadyIn.cons rfl (fun K hK => ?_) ?_
        · go_simp
          refine hK _ _ ?_
          clear hK K
          refine wpAnyIn_ready (rs := [2]) (by kernel_rfl) (by simp) ?_
          refine AllReadyIn.cons rfl (fun K hK => ?_) ?_
          · go_simp
            refine ⟨trivial, ?_⟩
            refine (CallsIn.inRound l (callsIn_wide.2 HCL.out)).mono ?_
            rintro e W2 ⟨ka', kc', va', vc', rfl, hk6, hv6, hkb, hvb, b6⟩
            have hkd : ∀ {q : Option Addr}, (∀ x, q = some x → W.drew.heap.size ≤ x.block ∧ x.block < W2.heap.size) → ∀ x, q = some x → W.heap.size ≤ x.block ∧ x.block < W2.heap.size := fun h x e => h x e
            have t6 := (Turns.refl (fun _ => False) W).drew.trans (Turns.of_below b6 (fun _ => False))
            have c1 := t6.cell c1 (fun x => x)
            have ta : Turns (fun _ => False) W (W2.alloc (.cells #[.slice ka' y.e.key.length kc', .int .u64 (y.e.seq : Nat), .int .i64 y.e.kind, .slice va' y.e.val.length vc'] 29)) := t6.alloc _
            have c3 := ta.cell C1.out (fun x => x)
            obtain ⟨g', n', c', W4, hr4, hrow4, t4, b4, hin4⟩ := append_ent (W2.alloc (.cells #[.slice ka' y.e.key.length kc', .int .u64 (y.e.seq : Nat), .int .i64 y.e.kind, .slice va' y.e.val.length vc'] 29)) (w.heap.size + 1 + 1) (.slice a R.length c) R (G3.out.keep ta (fun _ _ x => x)) (by have h1 := lt_of_heap G1.out; have h2 := ta.size; omega) (by have := HRL.out; omega) ⟨0, ka', kc', va', vc', y.e, 0⟩ W2.heap.size 1 (heap_alloc_new W2 _)
            have HQ := hide (hr4 33)
            have FB := hide (body_end (n := n) (N0 := w.heap.size) (y := y) G1.out G2.out G3.out G4.out G5.out G6.out t6 hk6 hv6 (hkd hkb) (hkd hvb) rfl hrow4 t4 hin4)
            clear hk6 hv6 hkb hvb b6 t6 ta hr4 hrow4 t4 b4 hin4 e0 e1 e2 e3
            first | refine hK _ _ ?_ | skip
            try clear hK K
            refine wpAnyIn_ready (rs := [3]) (by kernel_rfl) (by simp) ?_
            refine AllReadyIn.cons rfl (fun K hK => ?_) ?_
            · go_simp
              refine hK _ _ ?_
              clear hK K
              refine wpAnyIn_ready (rs := [4]) (by kernel_rfl) (by simp) ?_
              refine AllReadyIn.cons rfl (fun K hK => ?_) ?_
              · refine step_append_runIn rfl (.tmp 22) (.tmp 25) 33 rfl (.slice a R.length c) (.slice (some ⟨W2.heap.size, 0, none⟩) 1 1) rfl rfl _ _ HQ.out 26 rfl ?_
                refine hK _ _ ?_
                clear hK K
                simp only [Act.put, List.setIfInBounds_toArray, List.set_cons_zero, List.set_cons_succ]
                have FC := FB.out.1
                have FZ := FB.out.2.1
                refine wpAnyIn_ready (rs := [5]) (by kernel_rfl) (by simp) ?_
                refine AllReadyIn.cons rfl (fun K hK => ?_) ?_
                · go_simp
                  refine hK _ _ ?_
                  clear hK K
                  refine wpAnyIn_done (by kernel_rfl) ?_ _
                  exact ⟨FB.out.2.2.1 _, FB.out.2.2.2.1, R ++ [⟨0, ka', kc', va', vc', y.e, 0⟩], FB.out.2.2.2.2, by rw [List.map_append, List.map_append, HR.out, List.map_singleton, List.map_singleton, HYE.out], by have := HRL.out; rw [List.length_append, List.length_singleton]; omega⟩
                exact AllReadyIn.nil
              exact AllReadyIn.nil
            exact AllReadyIn.nil
          exact AllReadyIn.nil
        exact AllReadyIn.nil
      refine AllReadyIn.cons rfl (fun K hK => ?_) ?_
      · go_simp
        refine hK _ _ ?_
        clear hK K
        refine wpAnyIn_ready (rs := [0, 2]) (by kernel_rfl) (by simp) ?_
        refine AllReadyIn.cons rfl (fun K hK => ?_) ?_
        · go_simp
          refine hK _ _ ?_
          clear hK K
          refine wpAnyIn_ready (rs := [2]) (by kernel_rfl) (by simp) ?_
          refine AllReadyIn.cons rfl (fun K hK => ?_) ?_
          · go_simp
            refine ⟨trivial, ?_⟩
            refine (CallsIn.inRound l (callsIn_wide.2 HCL.out)).mono ?_
            rintro e W2 ⟨ka', kc', va', vc', rfl, hk6, hv6, hkb, hvb, b6⟩
            have hkd : ∀ {q : Option Addr}, (∀ x, q = some x → W.drew.heap.size ≤ x.block ∧ x.block < W2.heap.size) → ∀ x, q = some x → W.heap.size ≤ x.block ∧ x.block < W2.heap.size := fun h x e => h x e
            have t6 := (Turns.refl (fun _ => False) W).drew.trans (Turns.of_below b6 (fun _ => False))
            have c1 := t6.cell c1 (fun x => x)
            have ta : Turns (fun _ => False) W (W2.alloc (.cells #[.slice ka' y.e.key.length kc', .int .u64 (y.e.seq : Nat), .int .i64 y.e.kind, .slice va' y.e.val.length vc'] 29)) := t6.alloc _
            have c3 := ta.cell C1.out (fun x => x)
            obtain ⟨g', n', c', W4, hr4, hrow4, t4, b4, hin4⟩ := append_ent (W2.alloc (.cells #[.slice ka' y.e.key.length kc', .int .u64 (y.e.seq : Nat), .int .i64 y.e.kind, .slice va' y.e.val.length vc'] 29)) (w.heap.size + 1 + 1) (.slice a R.length c) R (G3.out.keep ta (fun _ _ x => x)) (by have h1 := lt_of_heap G1.out; have h2 := ta.size; omega) (by have := HRL.out; omega) ⟨0, ka', kc', va', vc', y.e, 0⟩ W2.heap.size 1 (heap_alloc_new W2 _)
            have HQ := hide (hr4 33)
            have FB := hide (body_end (n := n) (N0 := w.heap.size) (y := y) G1.out G2.out G3.out G4.out G5.out G6.out t6 hk6 hv6 (hkd hkb) (hkd hvb) rfl hrow4 t4 hin4)
            clear hk6 hv6 hkb hvb b6 t6 ta hr4 hrow4 t4 b4 hin4 e0 e1 e2 e3
            first | refine hK _ _ ?_ | skip
            try clear hK K
            refine wpAnyIn_ready (rs := [3]) (by kernel_rfl) (by simp) ?_
            refine AllReadyIn.cons rfl (fun K hK => ?_) ?_
            · go_simp
              refine hK _ _ ?_
              clear hK K
              refine wpAnyIn_ready (rs := [4]) (by kernel_rfl) (by simp) ?_
              refine AllReadyIn.cons rfl (fun K hK => ?_) ?_
              · refine step_append_runIn rfl (.tmp 22) (.tmp 25) 33 rfl (.slice a R.length c) (.slice (some ⟨W2.heap.size, 0, none⟩) 1 1) rfl rfl _ _ HQ.out 26 rfl ?_
                refine hK _ _ ?_
                clear hK K
                simp only [Act.put, List.setIfInBounds_toArray, List.set_cons_zero, List.set_cons_succ]
                have FC := FB.out.1
                have FZ := FB.out.2.1
                refine wpAnyIn_ready (rs := [5]) (by kernel_rfl) (by simp) ?_
                refine AllReadyIn.cons rfl (fun K hK => ?_) ?_
                · go_simp
                  refine hK _ _ ?_
                  clear hK K
                  refine wpAnyIn_done (by kernel_rfl) ?_ _
                  exact ⟨FB.out.2.2.1 _, FB.out.2.2.2.1, R ++ [⟨0, ka', kc', va', vc', y.e, 0⟩], FB.out.2.2.2.2, by rw [List.map_append, List.map_append, HR.out, List.map_singleton, List.map_singleton, HYE.out], by have := HRL.out; rw [List.length_append, List.length_singleton]; omega⟩
                exact AllReadyIn.nil
              exact AllReadyIn.nil
            exact AllReadyIn.nil
          exact AllReadyIn.nil
        refine AllReadyIn.cons rfl (fun K hK => ?_) ?_
        · go_simp
          refine ⟨trivial, ?_⟩
          refine (CallsIn.inRound l (callsIn_wide.2 HCL.out)).mono ?_
          rintro e W2 ⟨ka', kc', va', vc', rfl, hk6, hv6, hkb, hvb, b6⟩
          have hkd : ∀ {q : Option Addr}, (∀ x, q = some x → W.drew.heap.size ≤ x.block ∧ x.block < W2.heap.size) → ∀ x, q = some x → W.heap.size ≤ x.block ∧ x.block < W2.heap.size := fun h x e => h x e
          have t6 := (Turns.refl (fun _ => False) W).drew.trans (Turns.of_below b6 (fun _ => False))
          have c1 := t6.cell c1 (fun x => x)
          have ta : Turns (fun _ => False) W (W2.alloc (.cells #[.slice ka' y.e.key.length kc', .int .u64 (y.e.seq : Nat), .int .i64 y.e.kind, .slice va' y.e.val.length vc'] 29)) := t6.alloc _
          have c3 := ta.cell C1.out (fun x => x)
          obtain ⟨g', n', c', W4, hr4, hrow4, t4, b4, hin4⟩ := append_ent (W2.alloc (.cells #[.slice ka' y.e.key.length kc', .int .u64 (y.e.seq : Nat), .int .i64 y.e.kind, .slice va' y.e.val.length vc'] 29)) (w.heap.size + 1 + 1) (.slice a R.length c) R (G3.out.keep ta (fun _ _ x => x)) (by have h1 := lt_of_heap G1.out; have h2 := ta.size; omega) (by have := HRL.out; omega) ⟨0, ka', kc', va', vc', y.e, 0⟩ W2.heap.size 1 (heap_alloc_new W2 _)
          have HQ := hide (hr4 33)
          have FB := hide (body_end (n := n) (N0 := w.heap.size) (y := y) G1.out G2.out G3.out G4.out G5.out G6.out t6 hk6 hv6 (hkd hkb) (hkd hvb) rfl hrow4 t4 hin4)
          clear hk6 hv6 hkb hvb b6 t6 ta hr4 hrow4 t4 b4 hin4 e0 e1 e2 e3
          first | refine hK _ _ ?_ | skip
          try clear hK K
          refine wpAnyIn_ready (rs := [0, 3]) (by kernel_rfl) (by simp) ?_
          refine AllReadyIn.cons rfl (fun K hK => ?_) ?_
          · go_simp
            refine hK _ _ ?_
            clear hK K
            refine wpAnyIn_ready (rs := [3]) (by kernel_rfl) (by simp) ?_
            refine AllReadyIn.cons rfl (fun K hK => ?_) ?_
            · go_simp
              refine hK _ _ ?_
              clear hK K
              refine wpAnyIn_ready (rs := [4]) (by kernel_rfl) (by simp) ?_
              refine AllReadyIn.cons rfl (fun K hK => ?_) ?_
              · refine step_append_runIn rfl (.tmp 22) (.tmp 25) 33 rfl (.slice a R.length c) (.slice (some ⟨W2.heap.size, 0, none⟩) 1 1) rfl rfl _ _ HQ.out 26 rfl ?_
                refine hK _ _ ?_
                clear hK K
                simp only [Act.put, List.setIfInBounds_toArray, List.set_cons_zero, List.set_cons_succ]
                have FC := FB.out.1
                have FZ := FB.out.2.1
                refine wpAnyIn_ready (rs := [5]) (by kernel_rfl) (by simp) ?_
                refine AllReadyIn.cons rfl (fun K hK => ?_) ?_
                · go_simp
                  refine hK _ _ ?_
                  clear hK K
                  refine wpAnyIn_done (by kernel_rfl) ?_ _
                  exact ⟨FB.out.2.2.1 _, FB.out.2.2.2.1, R ++ [⟨0, ka', kc', va', vc', y.e, 0⟩], FB.out.2.2.2.2, by rw [List.map_append, List.map_append, HR.out, List.map_singleton, List.map_singleton, HYE.out], by have := HRL.out; rw [List.length_append, List.length_singleton]; omega⟩
                exact AllReadyIn.nil
              exact AllReadyIn.nil
            exact AllReadyIn.nil
          refine AllReadyIn.cons rfl (fun K hK => ?_) ?_
          · go_simp
            refine hK _ _ ?_
            clear hK K
            refine wpAnyIn_ready (rs := [0]) (by kernel_rfl) (by simp) ?_
            refine AllReadyIn.cons rfl (fun K hK => ?_) ?_
            · go_simp
              refine hK _ _ ?_
              clear hK K
              refine wpAnyIn_ready (rs := [4]) (by kernel_rfl) (by simp) ?_
              refine AllReadyIn.cons rfl (fun K hK => ?_) ?_
              · refine step_append_runIn rfl (.tmp 22) (.tmp 25) 33 rfl (.slice a R.length c) (.slice (some ⟨W2.heap.size, 0, none⟩) 1 1) rfl rfl _ _ HQ.out 26 rfl ?_
                refine hK _ _ ?_
                clear hK K
                simp only [Act.put, List.setIfInBounds_toArray, List.set_cons_zero, List.set_cons_succ]
                have FC := FB.out.1
                have FZ := FB.out.2.1
                refine wpAnyIn_ready (rs := [5]) (by kernel_rfl) (by simp) ?_
                refine AllReadyIn.cons rfl (fun K hK => ?_) ?_
                · go_simp
                  refine hK _ _ ?_
                  clear hK K
                  refine wpAnyIn_done (by kernel_rfl) ?_ _
                  exact ⟨FB.out.2.2.1 _, FB.out.2.2.2.1, R ++ [⟨0, ka', kc', va', vc', y.e, 0⟩], FB.out.2.2.2.2, by rw [List.map_append, List.map_append, HR.out, List.map_singleton, List.map_singleton, HYE.out], by have := HRL.out; rw [List.length_append, List.length_singleton]; omega⟩
                exact AllReadyIn.nil
              exact AllReadyIn.nil
            exact AllReadyIn.nil
          exact AllReadyIn.nil
        exact AllReadyIn.nil
      exact AllReadyIn.nil
  case done =>
    rintro D xs W hD rfl ⟨R, hG, hR, hlen⟩ hK
    have hGF := hG.own (B := (w3.alloc (.cells #[.pointer po] 54)).heap.size) (Nat.le_refl _) (by omega) (grownBy_putObj' W D (.deferred none)) (fun r e => by cases e; exact ⟨hD, _, hK, rfl⟩)
    have HGF := hide hGF
    obtain ⟨v, ⟨g1, g2, g3, g4, g5⟩, g6⟩ := hG
    have c1 : W.cell? ⟨w.heap.size + 1, 0, none⟩ = some v := cell_of_row W _ 0 _ 33 (0, 0) g1
    obtain ⟨a, c, rfl⟩ := g3.len
    have HG1 := hide g1
    have HK := hide hK
    have HR := hide hR
    clear g1 g2 g3 g4 g5 g6 hGF hR
    gi_wp2
    refine ⟨by simp, .inl ⟨_, _, rfl, run_takeDeferred HK.out, ?_⟩⟩
    obtain ⟨v', ⟨k1, k2, k3, k4, k5⟩, k6⟩ := HGF.out
    have hD1 : w.heap.size + 1 ≠ D := by omega
    have e1 : v' = .slice a R.length c := by
      rw [World.putObj_heap_other hD1, HG1.out] at k1
      cases k1
      rfl
    subst e1
    refine ⟨_, results_tmp rfl _ _ _, _, R, rfl, k3.le (by omega), k4.le (by omega), ?_, k6⟩
    have h1 := HR.out
    rw [map_xsF] at h1
    rw [h1, List.take_of_length_le]
    rw [List.length_map, List.length_drop]
    rw [xsF_length] at hlen
    omega
  case stop =>
    rintro D c pre W hD hpre ⟨pre', x, R, rfl, rfl, hG, hR, hlen, hge⟩ hK
    have hGF := hG.own (B := (w3.alloc (.cells #[.pointer po] 54)).heap.size) (Nat.le_refl _) (by omega) (grownBy_putObj' W D (.deferred none)) (fun r e => by cases e; exact ⟨hD, _, hK, rfl⟩)
    have HGF := hide hGF
    obtain ⟨v, ⟨g1, g2, g3, g4, g5⟩, g6⟩ := hG
    have c1 : W.cell? ⟨w.heap.size + 1, 0, none⟩ = some v := cell_of_row W _ 0 _ 33 (0, 0) g1
    obtain ⟨a, c, rfl⟩ := g3.len
    have HG1 := hide g1
    have HK := hide hK
    have HR := hide hR
    have HPR := hide hpre
    clear g1 g2 g3 g4 g5 g6 hGF hR hpre
    gi_wp2
    refine ⟨by simp, .inl ⟨_, _, rfl, run_takeDeferred HK.out, ?_⟩⟩
    obtain ⟨v', ⟨k1, k2, k3, k4, k5⟩, k6⟩ := HGF.out
    have hD1 : w.heap.size + 1 ≠ D := by omega
    have e1 : v' = .slice a R.length c := by
      rw [World.putObj_heap_other hD1, HG1.out] at k1
      cases k1
      rfl
    subst e1
    refine ⟨_, results_tmp rfl _ _ _, _, R, rfl, k3.le (by omega), k4.le (by omega), ?_, k6⟩
    obtain ⟨rest, hrest⟩ := HPR.out
    have hlen' : pre'.length = n.toNat := by omega
    rw [HR.out, ← map_xsF, ← hrest, List.append_assoc, List.map_append, List.take_append_of_le_length (by rw [List.length_map]; omega), List.take_of_length_le (by rw [List.length_map]; omega)]
end Go.Proofs.Ytkeglaplckfllaa
