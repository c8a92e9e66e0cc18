import Derived.Test.YtpgligfolecieaaM13
/-
  The first n entries that an iterator tells, copied.
-/
namespace Go.Proofs.Ytpgligfolecieaa
open Go.RowKit Go.Shelf
set_option maxRecDepth 100000
set_option maxHeartbeats 4000000
attribute [local go_sem] Oper.semAt_some
theorem ERow.le {w : World} {B B' : Nat} {v : Value} {R : List Tow} (h : ERow w B v R) (hB : B' ≤ B) : ERow w B' v R := by
  rcases h with h | ⟨g, c, n, h1, h2, h3, h4, h5⟩
  · exact .inl h
  · exact .inr ⟨g, c, n, h1, h2, h3, Nat.le_trans hB h4, h5⟩
theorem Shown.le {w : World} {B B' : Nat} {R : List Tow} (h : Shown w B R) (hB : B' ≤ B) : Shown w B' R := fun x hx => ⟨(h x hx).1, (h x hx).2.1, fun q hq => ⟨Nat.le_trans hB ((h x hx).2.2 q hq).1, ((h x hx).2.2 q hq).2⟩⟩
/-- What firstOf answers. -/
def FirstOk {α : Type} (tow : α → Tow) (S Sp : List α → Prop) (N : Nat) (n : Int) (R : List Tow) : Prop :=
  (n ≤ 0 ∧ R = []) ∨ (0 < n ∧ ∃ xs : List α, S xs ∧ R.map (·.e) = xs.map (fun x => (tow x).e) ∧ (xs.length : Int) < n) ∨ (0 < n ∧ ∃ pre : List α, Sp pre ∧ R.map (·.e) = pre.map (fun x => (tow x).e) ∧ (pre.length : Int) = n ∧ pre.length ≤ N)
theorem firstOf_any {α : Type} (T : TypeId → Prop) (hT : Far T) (tow : α → Tow) (gf : Nat) (lb : Array Value) (S Sp : List α → Prop) (N : Nat) (w : World) (n : Int) (eg : ∀ args w, (callFunc gf args).run Try.prog w = .ok (.enter gf args) w)
    (hseq : SeqX T Fence.wide 4 Try.prog gf lb (fun x : α => #[(tow x).agg]) (KpT T w.heap.size) S Sp N w) (hok : ∀ x, Bytes w (tow x).kv (tow x).e.key ∧ Bytes w (tow x).vv (tow x).e.val ∧ (tow x).e.key.length ≤ 1000000 ∧ (tow x).e.val.length ≤ 1000000) (hN : N ≤ 1000000) :
    Calls Try.prog 54 #[.func (.func gf) #[] lb, .int .i64 n] w fun e w' => ∃ v R, e = .returned v ∧ ERow w' w.heap.size v R ∧ Shown w' w.heap.size R ∧ Below w.heap.size w w' ∧ FirstOk tow S Sp N n R ∧ Typ5 w' R := by
  have T0 := hide (((Turns.refl (fun _ => False) w).alloc (.cells #[.int .i64 n] 3)).alloc (.cells #[.slice none 0 0] 31))
  have r0 := heap_keep ((Below.refl _ (w.alloc (.cells #[.int .i64 n] 3))).alloc (Nat.le_refl _) (.cells #[.slice none 0 0] 31)) (heap_alloc_new w (.cells #[.int .i64 n] 3))
  have r1 := heap_alloc_new (w.alloc (.cells #[.int .i64 n] 3)) (.cells #[.slice none 0 0] 31)
  rw [show (w.alloc (.cells #[.int .i64 n] 3)).heap.size = w.heap.size + 1 by simp] at r1
  have hsz : ((w.alloc (.cells #[.int .i64 n] 3)).alloc (.cells #[.slice none 0 0] 31)).heap.size = w.heap.size + 2 := by simp
  have R0 := hide r0
  have R1 := hide r1
  have HSZ := hide hsz
  have HOK := hide hok
  have HSEQ := hide hseq
  clear r0 r1 hsz hok hseq
  refine (callsIn_wide (n := 5)).1 ?_
  refine callsIn_of_wp_marks Try.func54 rfl trivial ?_ rfl
  simp only [Try.ntmps54, List.size_toArray, List.length_cons, List.length_nil, Nat.reduceAdd, Nat.reduceSub, Array.replicate_succ, Array.replicate_zero, List.push_toArray, List.append_toArray, List.nil_append, List.cons_append]
  by_cases hn0 : n ≤ 0
  · gi_wp2
    refine ⟨_, results_tmp rfl _ _ _, _, [], rfl, .inl ⟨rfl, rfl⟩, fun x hx => (by cases hx), T0.out.below (Nat.le_refl _) (fun _ x => x.elim), .inl ⟨hn0, rfl⟩, fun x hx => (by cases hx)⟩
  have hn1 : 0 < n := by omega
  gi_wp2
  generalize (w.alloc (.cells #[.int .i64 n] 3)).alloc (.cells #[.slice none 0 0] 31) = w0 at *
  obtain ⟨N0, hN0⟩ : ∃ N0, N0 = w.heap.size := ⟨_, rfl⟩
  rw [← hN0] at R0 R1 HSZ ⊢
  have HN0 := hide (show w.heap.size ≤ N0 by omega)
  have HNE := hide hN0
  have hG0 : Got N0 n w [] w0 := ⟨.slice none 0 0, ⟨R1.out, R0.out, .inl ⟨rfl, rfl⟩, fun x hx => (by cases hx), fun x hx => (by cases hx)⟩, T0.out.below (by omega) (fun _ x => x.elim)⟩
  have hsz0 := HSZ.out
  have hN1 := HN0.out
  have hN2 : N0 ≤ w.heap.size := by omega
  clear hN0
  refine range_x (w := w0) (n := 5) rfl (by decide) (gf := gf) (lb := lb) rfl trivial eg (hseq := HSEQ.out) KpT.trans (fun W l o o' hl ho hc => KpT.put W l o o' (by omega) ho hc) (T0.out.below (Nat.le_refl _) (fun _ x => x.elim)) (fun _ => rfl)
    (fun (pre : List α) W => ∃ R, Got N0 n w R W ∧ R.map (·.e) = pre.map (fun x => (tow x).e) ∧ (pre.length : Int) < n)
    (fun c pre W => ∃ R, c = .exit 0 ∧ Got N0 n w R W ∧ R.map (·.e) = pre.map (fun x => (tow x).e) ∧ (pre.length : Int) = n ∧ pre.length ≤ N)
    (fun s A A' ⟨R, h1, h2, h3⟩ tt => ⟨R, h1.own hT (by omega) (by omega) tt, h2, h3⟩)
    (fun c s A A' ⟨R, e, h1, h2, h3⟩ tt => ⟨R, e, h1.own hT (by omega) (by omega) tt, h2, h3⟩)
    ⟨[], hG0, rfl, by simpa using hn1⟩
    (fun (x : α) a' W => ∃ Be, w0.heap.size ≤ Be ∧ W.heap[Be]? = some (.cells #[.slice (tow x).ka (tow x).e.key.length (tow x).kc, .int .u64 ((tow x).e.seq : Nat), .int .i64 (tow x).e.kind, .slice (tow x).va (tow x).e.val.length (tow x).vc] 29 (0, 0)) ∧ a' = { tmps := #[.func (.func gf) #[] lb, .int .i64 n, undef, .pointer (some ⟨N0, 0, none⟩), .slice none 0 0, .pointer (some ⟨N0 + 1, 0, none⟩), .pointer (some ⟨Be, 0, none⟩), .int .i64 n, .bool false, undef, .func (.func gf) #[] lb, (tow x).agg, undef, undef, undef, undef, undef, undef, undef, undef, undef, undef], defers := [] })
    (fun x a' s A A' ⟨Be, h1, h2, h3⟩ tt => ⟨Be, h1, loose_cells tt h2 hT.h25, h3⟩) ?assign ?body ?done ?stop
  case assign =>
    rintro l pre x W K ⟨R, hG, hR, hlen⟩ hK
    unfold Tow.agg at hK ⊢
    gi_wp2
    have hW : N0 + 1 < W.heap.size := by
      obtain ⟨v, ⟨g1, _⟩, _⟩ := hG
      exact lt_of_heap g1
    refine hK _ _ ((KeepsOthers.alloc _ _).from _) (KpT.quiet ((Turns.refl _ W).alloc _)) ⟨R, hG.own (B := N0) hT (by omega) (Nat.le_refl _) ((Turns.refl _ W).alloc _), hR, hlen⟩ ⟨W.heap.size, by omega, heap_alloc_new W _, rfl⟩
  case body =>
    rintro l pre x a' W hl ⟨r, hr⟩ ⟨R, hG, hR, hlen⟩ ⟨Be, hBe, hE, rfl⟩ hlt
    obtain ⟨v, ⟨g1, g2, g3, g4, g5⟩, g6⟩ := hG
    have hRl : R.length = pre.length := by
      have := congrArg List.length hR
      simpa using this
    obtain ⟨a, c, rfl⟩ := g3.len
    have d0 : W.cell? ⟨N0 + 1, 0, none⟩ = some (.slice a R.length c) := cell_of_row W _ 0 _ 31 (0, 0) g1
    have HRL := hide (show R.length ≤ 1000000 by omega)
    have hkx := HOK.out x
    have tw := Turns.of_below (g6.mono (B' := w.heap.size) (by omega)) (fun _ => False)
    have HYE : Hid ((fun x => (tow x).e) x = (tow x).e) := hide rfl
    generalize tow x = y at *
    have HCL := hide (cloneTE_any y.ka y.va y.e.key.length y.kc y.e.val.length y.vc y.e.seq y.e.kind y.e.key y.e.val W.drew ((hkx.1.quiet tw).quiet (Turns.refl _ W).drew) ((hkx.2.1.quiet tw).quiet (Turns.refl _ W).drew) hkx.2.2.1 hkx.2.2.2)
    have e0 : W.cell? ⟨Be, 0, none⟩ = some (.slice y.ka y.e.key.length y.kc) := cell_of_row W Be 0 _ 29 (0, 0) hE
    have e1 : W.cell? ⟨Be, 1, none⟩ = some (.int .u64 (y.e.seq : Nat)) := cell_of_row W Be 1 _ 29 (0, 0) hE
    have e2 : W.cell? ⟨Be, 2, none⟩ = some (.int .i64 y.e.kind) := cell_of_row W Be 2 _ 29 (0, 0) hE
    have e3 : W.cell? ⟨Be, 3, none⟩ = some (.slice y.va y.e.val.length y.vc) := cell_of_row W Be 3 _ 29 (0, 0) hE
    have SKD := hide (fun (u : World) (tt : Turns (fun _ => False) W u) => tt.cell d0 (fun x => x))
    have G1 := hide g1
    have G2 := hide g2
    have G3 := hide g3
    have G4 := hide g4
    have G5 := hide g5
    have G6 := hide g6
    have HR := hide hR
    have HRP := hide hRl
    have tV : Turns (fun _ => False) W W.drew := (Turns.refl _ _).drew
    clear g1 g2 g3 g4 g5 g6 hR hRl hkx tw hE
    gi_wp2
    refine region_round_z 4 (S := fun u => u.cell? ⟨N0 + 1, 0, none⟩ = some (.slice a R.length c)) (by kernel_rfl) (by kernel_rfl) (SKD.out _ tV) (fun _ => ?_)
    change wpAnyZ _ _ _ _ _ _ 6 (Array.replicate 6 false) _ _
    refine wpAnyZ_take (i := 0) (oi := { dst := some 12, op := Op.load 31 (Operand.tmp 5), type := 31, pos := "merge.go:103", after := #[], guard := none }) (v := .slice a R.length c) rfl (by kernel_rfl) (by kernel_rfl) (by kernel_rfl) (by kernel_rfl) (fun _ _ _ h => by cases h.1) (Or.inl ⟨by rfl, ?_⟩) (SKD.out _ tV) ?_
    · rintro w d0
      go_simp
    simp only [Act.put, List.setIfInBounds_toArray, List.set_cons_zero, List.set_cons_succ]
    refine wpAnyZ_ready (rs := [1]) (by kernel_rfl) (by simp) ?_
    refine AllReadyZ.cons rfl (fun K hK => ?_) AllReadyZ.nil
    go_simp
    refine hK.out _ _ (SKD.out _ tV) (fun _ => ?_)
    clear hK K
    refine wpAnyZ_ready (rs := [2]) (by kernel_rfl) (by simp) ?_
    refine AllReadyZ.cons rfl (fun K hK => ?_) AllReadyZ.nil
    go_simp
    refine HCL.out.mono ?_
    rintro oo W2 ⟨ka', kc', va', vc', rfl, hk6, hv6, hkb, hvb, b6⟩
    have t6 := (Turns.refl (fun _ => False) W).drew.trans (Turns.of_below b6 (fun _ => False))
    go_simp
    refine hK.out _ _ (SKD.out _ t6) (fun _ => ?_)
    clear hK K
    have ta : Turns (fun _ => False) W (W2.alloc (.cells #[.slice ka' y.e.key.length kc', .int .u64 (y.e.seq : Nat), .int .i64 y.e.kind, .slice va' y.e.val.length vc'] 29)) := t6.alloc _
    have tal : Turns (fun _ => False) W2 (W2.alloc (.cells #[.slice ka' y.e.key.length kc', .int .u64 (y.e.seq : Nat), .int .i64 y.e.kind, .slice va' y.e.val.length vc'] 29)) := (Turns.refl _ W2).alloc _
    obtain ⟨g', n', c', W4, hr4, hrow4, t4, b4, hin4⟩ := append_ent (W2.alloc (.cells #[.slice ka' y.e.key.length kc', .int .u64 (y.e.seq : Nat), .int .i64 y.e.kind, .slice va' y.e.val.length vc'] 29)) (N0 + 2) (.slice a R.length c) R (G3.out.keep ta (fun _ _ x => x)) (by have h1 := lt_of_heap G1.out; have h2 := ta.size; omega) (by have := HRL.out; omega) ⟨ka', kc', va', vc', y.e⟩ W2.heap.size 1 (heap_alloc_new W2 _)
    have hkd : ∀ {q : Option Addr}, (∀ x, q = some x → (W.drew.heap.size ≤ x.block ∧ x.block < W2.heap.size) ∧ ∃ cs, W2.heap[x.block]? = some (.cells cs 5 (0, 0))) → ∀ x, q = some x → (W.heap.size ≤ x.block ∧ x.block < (W2.alloc (.cells #[.slice ka' y.e.key.length kc', .int .u64 (y.e.seq : Nat), .int .i64 y.e.kind, .slice va' y.e.val.length vc'] 29)).heap.size) ∧ ∃ cs, (W2.alloc (.cells #[.slice ka' y.e.key.length kc', .int .u64 (y.e.seq : Nat), .int .i64 y.e.kind, .slice va' y.e.val.length vc'] 29)).heap[x.block]? = some (.cells cs 5 (0, 0)) := fun h x e => ⟨⟨(h x e).1.1, Nat.lt_of_lt_of_le (h x e).1.2 tal.size⟩, (h x e).2.choose, tal.heap (h x e).2.choose_spec (fun x => x)⟩
    have FB := hide (body_end (T := T) (B0 := w.heap.size) (n := n) (N0 := N0) (w := w) (y := y) hT HN0.out G1.out G2.out G3.out G4.out G5.out G6.out ta (hk6.quiet tal) (hv6.quiet tal) (hkd hkb) (hkd hvb) hrow4 t4)
    have HQ := hide (hr4 31)
    have HROW := hide hrow4.len
    have C5 := hide (show (W4.setCell ⟨N0 + 1, 0, none⟩ (.slice (some ⟨g', 0, none⟩) n' c')).cell? ⟨N0 + 1, 0, none⟩ = some (.slice (some ⟨g', 0, none⟩) n' c') from by obtain ⟨v9, ⟨q1, q2⟩, q3⟩ := FB.out.2.2.2.2; have q4 := ((Tick.refl (t4.heap (ta.heap G1.out (fun x => x)) (fun h => by have := (G3.out.row h).1; omega))).set 0 (.slice (some ⟨g', 0, none⟩) n' c')); exact q4.cell 0)
    have c1 := (SKD.out _ ta)
    clear hk6 hv6 hkb hvb b6 ta tal hr4 hrow4 t4 b4 hin4 hkd
    refine wpAnyZ_ready (rs := [3]) (by kernel_rfl) (by simp) ?_
    refine AllReadyZ.cons rfl (fun K hK => ?_) AllReadyZ.nil
    go_simp
    refine hK.out _ _ c1 (fun _ => ?_)
    clear hK K c1
    refine wpAnyZ_ready (rs := [4]) (by kernel_rfl) (by simp) ?_
    refine AllReadyZ.free rfl (by kernel_rfl) (fun K hK => ?_) AllReadyZ.nil
    refine step_append_run rfl (.tmp 12) (.tmp 15) 31 rfl (.slice a R.length c) (.slice (some ⟨W2.heap.size, 0, none⟩) 1 1) rfl rfl _ _ HQ.out _ rfl ?_
    refine hK.out _ _ ?_
    clear hK K
    have FC := FB.out.1
    have FZ := FB.out.2.1
    refine wpAnyZ_ready (rs := [5]) (by kernel_rfl) (by simp) ?_
    refine AllReadyZ.free rfl (by kernel_rfl) (fun K hK => ?_) AllReadyZ.nil
    go_simp
    refine hK.out _ _ ?_
    clear hK K FC FZ
    refine wpAnyZ_done (by kernel_rfl) ?_ _
    refine ⟨rfl, ?_⟩
    have hn' : n' = R.length + 1 := by
      obtain ⟨_, _, e⟩ := HROW.out
      cases e
      simp
    subst hn'
    obtain ⟨_, _, FK, FP, FG⟩ := FB.out
    clear FB HQ HROW HCL SKD t6
    generalize W4.setCell ⟨N0 + 1, 0, none⟩ (.slice (some ⟨g', 0, none⟩) (R.length + 1) c') = W5 at *
    have hcc : W5.cell? ⟨N0 + 1, 0, none⟩ = some (.slice (some ⟨g', 0, none⟩) (R.length + 1) c') := C5.out
    have hcn : W5.cell? ⟨N0, 0, none⟩ = some (.int .i64 n) := by
      obtain ⟨v, ⟨_, k2, _⟩, _⟩ := FG
      exact cell_of_row W5 _ 0 _ 3 (0, 0) k2
    have FE := hide (show (R ++ [(⟨ka', kc', va', vc', y.e⟩ : Tow)]).map (·.e) = (pre ++ [x]).map (fun x => (tow x).e) by rw [List.map_append, List.map_append, HR.out, List.map_singleton, List.map_singleton, HYE.out])
    have FKH := hide FK
    have FPH := hide FP
    have FGH := hide FG
    have HRQ := HRP.out
    clear FK FP FG e0 e1 e2 e3 d0
    by_cases hlast : (R.length : Int) + 1 = n
    · gi_wp2
      exact ⟨FKH.out _, _, rfl, FGH.out, FE.out, by rw [List.length_append, List.length_singleton]; omega, by rw [List.length_append, List.length_singleton]; omega⟩
    · gi_wp2
      exact ⟨FKH.out _, FPH.out, _, FGH.out, FE.out, by rw [List.length_append, List.length_singleton]; omega⟩
  case done =>
    rintro D xs W hD hS ⟨R, hG, hR, hlen⟩ hK
    have hGF := hG.own (B := w0.heap.size) hT (by omega) (by omega) ((turns_put (.deferred none) hK).mono fun k _ e => by subst e; exact ⟨hD, _, hK, .inl rfl⟩)
    have HGF := hide hGF
    obtain ⟨v, ⟨g1, g2, g3, g4, g5⟩, g6⟩ := hG
    have c1 : W.cell? ⟨N0 + 1, 0, none⟩ = some v := cell_of_row W _ 0 _ 31 (0, 0) g1
    obtain ⟨a, c, rfl⟩ := g3.len
    have HG1 := hide g1
    have HK := hide hK
    have HR := hide hR
    have HS := hide hS
    clear g1 g2 g3 g4 g5 g6 hGF hR hS
    gi_wp2
    refine ⟨by simp, .inl ⟨_, _, rfl, run_takeDeferred HK.out, ?_⟩⟩
    obtain ⟨v', ⟨k1, k2, k3, k4, k5⟩, k6⟩ := HGF.out
    have hD1 : N0 + 1 ≠ D := by omega
    have e1 : v' = .slice a R.length c := by
      rw [World.putObj_heap_other hD1, HG1.out] at k1
      cases k1
      rfl
    subst e1
    exact ⟨_, results_tmp rfl _ _ _, _, R, rfl, k3.le (by omega), k4.le (by omega), k6.mono (by omega), .inr (.inl ⟨hn1, xs, HS.out, HR.out, hlen⟩), k5⟩
  case stop =>
    rintro D c pre W hD hS ⟨R, rfl, hG, hR, hlen⟩ hK
    have hGF := hG.own (B := w0.heap.size) hT (by omega) (by omega) ((turns_put (.deferred none) hK).mono fun k _ e => by subst e; exact ⟨hD, _, hK, .inl rfl⟩)
    have HGF := hide hGF
    obtain ⟨v, ⟨g1, g2, g3, g4, g5⟩, g6⟩ := hG
    have c1 : W.cell? ⟨N0 + 1, 0, none⟩ = some v := cell_of_row W _ 0 _ 31 (0, 0) g1
    obtain ⟨a, c, rfl⟩ := g3.len
    have HG1 := hide g1
    have HK := hide hK
    have HR := hide hR
    have HS := hide hS
    clear g1 g2 g3 g4 g5 g6 hGF hR hS
    gi_wp2
    refine ⟨by simp, .inl ⟨_, _, rfl, run_takeDeferred HK.out, ?_⟩⟩
    obtain ⟨v', ⟨k1, k2, k3, k4, k5⟩, k6⟩ := HGF.out
    have hD1 : N0 + 1 ≠ D := by omega
    have e1 : v' = .slice a R.length c := by
      rw [World.putObj_heap_other hD1, HG1.out] at k1
      cases k1
      rfl
    subst e1
    exact ⟨_, results_tmp rfl _ _ _, _, R, rfl, k3.le (by omega), k4.le (by omega), k6.mono (by omega), .inr (.inr ⟨hn1, pre, HS.out, HR.out, hlen⟩), k5⟩
end Go.Proofs.Ytpgligfolecieaa

/-
  Check: are entries in order?
-/
namespace Go.Proofs.Ytpgligfolecieaa
open Go.RowKit
set_option maxRecDepth 100000
set_option maxHeartbeats 4000000
def ordE (b : Bool) : Int := if b then 0 else 2
theorem check_any (a : Option Addr) (n c : Nat) (l : List Tow) (w : World) (h : Ents w a l) (hn : n = l.length) (hmx : n ≤ 1000000) :
    Calls Try.prog 27 #[.slice a n c] w fun e w' => e = .returned (.int .i64 (ordE (inOrd (ents l)))) ∧ Below w.heap.size w w' := by
  have HL := hide hn
  have HA := hide h
  generalize hB : w.heap.size = B
  have HB := hide hB
  clear hn h hB
  go_enter Try.func27, Try.ntmps27
  go_wp2_with fail
  go_loopw [3] (fun iv wr => ∃ k : Nat, iv = .int .i64 (k : Nat) ∧ 1 ≤ k ∧ k ≤ n + 1 ∧ (∀ j x y, j + 1 < k → (ents l)[j]? = some x → (ents l)[j + 1]? = some y → cmpE x.en y.en < 0) ∧ Below B w wr) (fun iv _ => n + 1 - (intOf iv).toNat)
  case atStart => exact ⟨1, rfl, by omega, by omega, fun j x y h => by omega, Below.refl _ _⟩
  case round =>
    obtain ⟨k, rfl, hk1, hk, hord, hbw⟩ := hrel
    have BW := hide hbw
    have HO := hide hord
    clear hord
    by_cases hk2 : k < n
    · obtain ⟨p, rfl⟩ : ∃ p, k = p + 1 := ⟨k - 1, by omega⟩
      have i1 : (p : Int) + 1 < n := by omega
      have i0 : (0 : Int) ≤ (p : Int) + 1 := by omega
      have i2 : (0 : Int) ≤ (p : Int) := by omega
      have i3 : (p : Int) < n := by omega
      have i4 : IntKind.i64.wrap (p : Int) = (p : Int) := wrapI _ (by omega) (by omega)
      have hkl : p + 1 < l.length := by have := HL.out; omega
      have hpl : p < l.length := by omega
      have tt := Turns.of_below (show Below w.heap.size w wr by rw [HB.out]; exact hbw) (fun _ => False)
      obtain ⟨⟨b, off, rfl, hc⟩, k1, k2⟩ := (HA.out.quiet tt) p l[p] (List.getElem?_eq_getElem hpl)
      obtain ⟨⟨b', off', e', hc'⟩, k3, k4⟩ := (HA.out.quiet tt) (p + 1) l[p + 1] (List.getElem?_eq_getElem hkl)
      cases e'
      have HE1 := hide (ents_at hpl)
      have HE2 := hide (ents_at hkl)
      have hsz : B ≤ wr.heap.size := by have := tt.size; have := HB.out; omega
      generalize l[p] = x at *
      generalize l[p + 1] = x' at *
      obtain ⟨ka, kc, va, vc, e⟩ := x
      obtain ⟨ka', kc', va', vc', e'⟩ := x'
      have c0 : wr.cell? ⟨b, off + p * 4, none⟩ = some (.slice ka e.key.length kc) := hc 0 _ rfl
      have c1 : wr.cell? ⟨b, off + p * 4 + 1, none⟩ = some (.int .u64 (e.seq : Nat)) := hc 1 _ rfl
      have c2 : wr.cell? ⟨b, off + p * 4 + 2, none⟩ = some (.int .i64 e.kind) := hc 2 _ rfl
      have c3 : wr.cell? ⟨b, off + p * 4 + 3, none⟩ = some (.slice va e.val.length vc) := hc 3 _ rfl
      have d0 : wr.cell? ⟨b, off + (p + 1) * 4, none⟩ = some (.slice ka' e'.key.length kc') := hc' 0 _ rfl
      have d1 : wr.cell? ⟨b, off + (p + 1) * 4 + 1, none⟩ = some (.int .u64 (e'.seq : Nat)) := hc' 1 _ rfl
      have d2 : wr.cell? ⟨b, off + (p + 1) * 4 + 2, none⟩ = some (.int .i64 e'.kind) := hc' 2 _ rfl
      have d3 : wr.cell? ⟨b, off + (p + 1) * 4 + 3, none⟩ = some (.slice va' e'.val.length vc') := hc' 3 _ rfl
      have t0 : Turns (fun _ => False) wr wr.drew := (Turns.refl _ _).drew
      have HQ := hide (compare_any ka ka' va va' e.key.length kc e.val.length vc e'.key.length kc' e'.val.length vc' e.kind e'.kind e.seq e'.seq e.key e'.key wr.drew (Bytes.quiet k1 t0) (Bytes.quiet k3 t0))
      clear hc hc' k1 k2 k3 k4 tt hbw t0
      have ep : ((p + 1 : Nat) : Int) - 1 = (p : Int) := by omega
      generalize hcv : cmpE (e.key, e.seq) (e'.key, e'.seq) = cv at *
      have HCV := hide hcv
      clear hcv
      go_wp2_with fail
      go_region_held (fun w' => (w'.cell? ⟨b, off + p * 4, none⟩ = some (.slice ka e.key.length kc) ∧ w'.cell? ⟨b, off + p * 4 + 1, none⟩ = some (.int .u64 (e.seq : Nat)) ∧ w'.cell? ⟨b, off + p * 4 + 2, none⟩ = some (.int .i64 e.kind) ∧ w'.cell? ⟨b, off + p * 4 + 3, none⟩ = some (.slice va e.val.length vc)) ∧ w'.cell? ⟨b, off + (p + 1) * 4, none⟩ = some (.slice ka' e'.key.length kc') ∧ w'.cell? ⟨b, off + (p + 1) * 4 + 1, none⟩ = some (.int .u64 (e'.seq : Nat)) ∧ w'.cell? ⟨b, off + (p + 1) * 4 + 2, none⟩ = some (.int .i64 e'.kind) ∧ w'.cell? ⟨b, off + (p + 1) * 4 + 3, none⟩ = some (.slice va' e'.val.length vc')) (first | (with_reducible exact ⟨⟨f0, f1, f2, f3⟩, g0, g1, g2, g3⟩) | (simp only [World.cell?_drew]; with_reducible exact ⟨⟨c0, c1, c2, c3⟩, d0, d1, d2, d3⟩)) (first
        | (go_at_call 48; refine HQ.out.mono ?_; rintro x w2 ⟨rfl, b2⟩; have t2 := (Turns.refl (fun _ => False) wr).drew.trans (Turns.of_below b2 (fun _ => False)); have f0 := t2.cell c0 (fun x => x); have f1 := t2.cell c1 (fun x => x); have f2 := t2.cell c2 (fun x => x); have f3 := t2.cell c3 (fun x => x); have g0 := t2.cell d0 (fun x => x); have g1 := t2.cell d1 (fun x => x); have g2 := t2.cell d2 (fun x => x); have g3 := t2.cell d3 (fun x => x); have T2 := hide t2; clear t2 b2))
      clear f0 f1 f2 f3 g0 g1 g2 g3
      by_cases hlt : cv < 0
      · have hlt' : ¬ (0 : Int) ≤ cv := by omega
        go_wp2_with fail
        go_roundw
        case rel =>
          refine ⟨p + 2, by go_num, by omega, by omega, fun j x y hj hx hy => ?_, BW.out.trans (T2.out.below hsz (fun _ h => h.elim))⟩
          by_cases hjp : j = p
          · subst hjp
            have e1 : e = x := by have := HE1.out; rw [hx] at this; exact (Option.some.inj this).symm
            have e2 : e' = y := by have := HE2.out; rw [hy] at this; exact (Option.some.inj this).symm
            subst e1 e2
            show cmpE (e.key, e.seq) (e'.key, e'.seq) < 0
            rw [HCV.out]; exact hlt
          · exact HO.out j x y (by omega) hx hy
        case measure => simp [intOf]; omega
      · have hlt' : (0 : Int) ≤ cv := by omega
        go_wp2_with fail
        go_ret
        refine ⟨congrArg Ending.returned (congrArg (Value.int .i64) (Eq.symm ?_)), BW.out.trans (T2.out.below hsz (fun _ h => h.elim))⟩
        suffices hf : inOrd (ents l) = false by rw [hf]; rfl
        refine Bool.eq_false_iff.2 fun q => ?_
        have := (inOrd_iff _).1 q p e e' HE1.out HE2.out
        have h9 := HCV.out
        unfold Ent.en at this
        omega
    · have i1 : ¬ (k : Int) < n := by omega
      go_wp2_with fail
      go_ret
      refine ⟨congrArg Ending.returned (congrArg (Value.int .i64) (Eq.symm ?_)), BW.out⟩
      suffices hf : inOrd (ents l) = true by rw [hf]; rfl
      refine (inOrd_iff _).2 fun j x y hx hy => HO.out j x y ?_ hx hy
      have := (List.getElem?_eq_some_iff.1 hy).1
      have h9 := HL.out
      simp only [ents, List.length_map] at this
      omega
def eachOrd (rs : List Rw) : Bool := rs.all fun x => inOrd (ents x.R)
theorem checkEach_any (a : Option Addr) (n c : Nat) (rs : List Rw) (w : World) (h : RowsIn w a rs) (hn : n = rs.length) (hmx : n ≤ 1000000) :
    Calls Try.prog 53 #[.slice a n c] w fun e w' => e = .returned (.int .i64 (ordE (eachOrd rs))) ∧ Below w.heap.size w w' := by
  have H0 := hide h
  have HN := hide hn
  clear h hn
  go_enter Try.func53, Try.ntmps53
  go_wp2_with fail
  go_loopw [8] (fun v8 wr => ∃ i : Nat, v8 = .int .i64 (i : Nat) ∧ i ≤ n ∧ (∀ j x, j < i → rs[j]? = some x → inOrd (ents x.R) = true) ∧ Below w.heap.size w wr) (fun v8 _ => n - (intOf v8).toNat)
  case atStart => exact ⟨0, rfl, Nat.zero_le _, fun j x hj => by omega, Below.refl _ _⟩
  case round =>
    obtain ⟨i, rfl, hi, hO, hb⟩ := hrel
    have HO := hide hO
    have BW := hide hb
    have TW := hide (Turns.of_below hb (fun _ => False))
    clear hO hb
    by_cases hin : i < n
    · obtain ⟨x, hx⟩ : ∃ x, rs[i]? = some x := ⟨_, List.getElem?_eq_getElem (by have := HN.out; omega)⟩
      obtain ⟨⟨b, off, rfl, hc⟩, hok⟩ := H0.out i x hx
      have hc1 := TW.out.cell hc (fun x => x)
      have i1 : (i : Int) < n := by omega
      have i0 : (0 : Int) ≤ i := by omega
      have HX := hide hx
      have HCK := hide (check_any x.a x.R.length x.c x.R wr (hok.ents.quiet TW.out) rfl hok.size)
      clear hx hok hc
      obtain ⟨xa, xc, xR⟩ := x
      simp only at *
      generalize hxl : xR.length = xl at *
      clear hxl
      cases ho : inOrd (ents xR) with
      | true =>
        rw [ho] at HCK
        have HOX := hide ho
        clear ho
        go_wp2_with fail
        refine HCK.out.mono ?_
        rintro e w2 ⟨rfl, hb2⟩
        have B2 := hide (then_below BW.out hb2 (Nat.le_refl _))
        clear hb2
        rw [show ordE true = 0 from rfl]
        go_wp2_with fail
        go_roundw
        case rel => exact ⟨i + 1, by go_num, by omega, fun j x hj hx => by
          by_cases e : j = i
          · subst e
            have := HX.out
            rw [hx] at this
            cases this
            exact HOX.out
          · exact HO.out j x (by omega) hx, B2.out⟩
        case measure => simp [intOf]; omega
      | false =>
        rw [ho] at HCK
        have HOX := hide ho
        clear ho
        go_wp2_with fail
        refine HCK.out.mono ?_
        rintro e w2 ⟨rfl, hb2⟩
        have B2 := hide (then_below BW.out hb2 (Nat.le_refl _))
        clear hb2
        rw [show ordE false = 2 from rfl]
        have FIN := hide (show ordE (eachOrd rs) = 2 by
          have : eachOrd rs = false := by
            refine Bool.eq_false_iff.2 fun q => ?_
            have := List.all_eq_true.1 q _ (List.mem_of_getElem? HX.out)
            rw [HOX.out] at this
            cases this
          rw [this]; rfl)
        go_wp2_with fail
        go_ret
        exact ⟨by rw [FIN.out]; rfl, B2.out⟩
    · obtain rfl : i = n := by omega
      have FIN := hide (show ordE (eachOrd rs) = 0 by
        have : eachOrd rs = true := List.all_eq_true.2 fun x hx => by
          obtain ⟨j, hj⟩ := List.getElem?_of_mem hx
          exact HO.out j x (by have := (List.getElem?_eq_some_iff.1 hj).1; have := HN.out; omega) hj
        rw [this]; rfl)
      go_wp2_with fail
      go_ret
      exact ⟨by rw [FIN.out]; rfl, BW.out⟩
end Go.Proofs.Ytpgligfolecieaa

/-
  All: the entries of all rows, merged.
-/
namespace Go.Proofs.Ytpgligfolecieaa
open Go.RowKit Go.Shelf
set_option maxRecDepth 100000
set_option maxHeartbeats 4000000
/-- Rows whose entries may be copied. -/
structure Fine (rs : List Rw) : Prop where
  rows : rs.length ≤ 1000000
  all : tot (hds rs) ≤ 1000000
  size : ∀ x, x ∈ allOf rs → x.e.key.length ≤ 1000000 ∧ x.e.val.length ≤ 1000000
theorem far_TM : Far TM := ⟨fun h => h.elim (by decide) (by decide), fun h => h.elim (by decide) (by decide), fun h => h.elim (by decide) (by decide), fun h => h.elim (by decide) (by decide)⟩
theorem all_bytes {w : World} {a : Option Addr} {rs : List Rw} (h : RowsIn w a rs) {x : Tow} (hx : x ∈ allOf rs) : Bytes w x.kv x.e.key ∧ Bytes w x.vv x.e.val := by
  obtain ⟨r, hr, hxr⟩ := List.mem_flatMap.1 hx
  obtain ⟨i, hi⟩ := List.getElem?_of_mem hr
  obtain ⟨j, hj⟩ := List.getElem?_of_mem hxr
  obtain ⟨_, h1, h2⟩ := (h i r hi).2.ents j x hj
  exact ⟨h1, h2⟩
theorem pairwise_of_ord {R : List Tow} (h : inOrd (ents R) = true) : R.Pairwise ltT := by
  induction R with
  | nil => exact List.Pairwise.nil
  | cons x r ih =>
    cases r with
    | nil => simp
    | cons y r =>
      have h1 : (decide (cmpE x.e.en y.e.en < 0) && inOrd (ents (y :: r))) = true := h
      rw [Bool.and_eq_true, decide_eq_true_eq] at h1
      have h2 := ih h1.2
      refine List.pairwise_cons.2 ⟨fun z hz => ?_, h2⟩
      rcases List.mem_cons.1 hz with rfl | hz
      · exact h1.1
      · have h3 := (List.pairwise_cons.1 h2).1 z hz
        unfold ltT at h3 ⊢
        exact cmpE_lt_le h1.1 (by omega)
theorem ord_up {rs : List Rw} (h : eachOrd rs = true) : ∀ (i : Nat) (x : Rw), rs[i]? = some x → x.R.Pairwise ltT := fun _ _ hi => pairwise_of_ord (List.all_eq_true.1 h _ (List.mem_of_getElem? hi))
/-- What All answers. -/
def AllOk (rs : List Rw) (R : List Tow) : Prop := (eachOrd rs = true ∧ ∃ xs, Mg (hds rs) xs ∧ R.map (·.e) = xs.map (·.e)) ∨ (eachOrd rs = false ∧ R = [])
theorem enters71 : ∀ args w, (callFunc 71 args).run Try.prog w = .ok (.enter 71 args) w := enters_of Try.func71 (by kernel_rfl) rfl
theorem all_any (a : Option Addr) (n c : Nat) (rs : List Rw) (w : World) (h : RowsIn w a rs) (hn : n = rs.length) (hf : Fine rs) :
    Calls Try.prog 36 #[.slice a n c] w fun e w' => ∃ v R, e = .returned (.tuple #[v, .int .i64 (ordE (eachOrd rs))]) ∧ ERow w' w.heap.size v R ∧ Shown w' w.heap.size R ∧ Below w.heap.size w w' ∧ AllOk rs R ∧ Typ5 w' R := by
  have hmx : n ≤ 1000000 := by have := hf.rows; omega
  have HC := hide (checkEach_any a n c rs w h hn hmx)
  have H0 := hide h
  have HN := hide hn
  have HF := hide hf
  clear h hn hf
  cases ho : eachOrd rs with
  | false =>
    rw [ho] at HC
    have HO := hide ho
    clear ho
    go_enter Try.func36, Try.ntmps36
    go_wp2_with fail
    refine HC.out.mono ?_
    rintro e w1 ⟨rfl, hb⟩
    rw [show ordE false = 2 from rfl]
    go_wp2_with fail
    go_ret2
    exact ⟨_, [], rfl, .inl ⟨rfl, rfl⟩, fun x hx => (by cases hx), hb, .inr ⟨HO.out, rfl⟩, fun x hx => (by cases hx)⟩
  | true =>
    rw [ho] at HC
    have HO := hide ho
    clear ho
    go_enter Try.func36, Try.ntmps36
    go_wp2_with fail
    refine HC.out.mono ?_
    rintro e w1 ⟨rfl, hb⟩
    rw [show ordE true = 0 from rfl]
    have HB1 := hide hb
    clear hb
    go_wp2_with fail
    refine (merged_any a n c w1).mono ?_
    rintro e w2 ⟨rfl, hw2⟩
    have t2 : Turns (fun _ => False) w1 w2 := by rw [hw2]; exact (Turns.refl _ w1).alloc _
    have hcell : w2.cell? ⟨w1.heap.size, 0, none⟩ = some (.slice a n c) := by rw [hw2]; exact cell_of_row _ _ 0 _ 22 (0, 0) (heap_alloc_new w1 _)
    have tA := (Turns.of_below HB1.out (fun _ => False)).trans t2
    have hr2 := H0.out.quiet tA
    have FO := hide (firstOf_any TM far_TM (fun x : El rs => x.val) 71 #[.pointer (some ⟨w1.heap.size, 0, none⟩)] _ _ (tot (hds rs)) w2 9223372036854775807 enters71 (merged_seq 4 w1.heap.size (by decide) a n c rs HN.out hmx (ord_up HO.out) w2 hr2 hcell) (fun x => ⟨(all_bytes hr2 x.2).1, (all_bytes hr2 x.2).2, (HF.out.size x.val x.2).1, (HF.out.size x.val x.2).2⟩) HF.out.all)
    have BA := hide (tA.below (Nat.le_refl _) (fun _ x => x.elim))
    have hs2 := tA.size
    clear hcell hr2 t2 tA hw2
    go_wp2_with fail
    refine FO.out.mono ?_
    rintro e w3 ⟨v, R, rfl, hE, hS, hb3, hFi, h5⟩
    have FIN := hide (show ERow w3 w.heap.size v R ∧ Shown w3 w.heap.size R ∧ Below w.heap.size w w3 ∧ AllOk rs R ∧ Typ5 w3 R by
      refine ⟨hE.le hs2, hS.le hs2, then_below BA.out hb3 (Nat.le_refl _), .inl ⟨HO.out, ?_⟩, h5⟩
      rcases hFi with ⟨x, _⟩ | ⟨_, xs, h1, h2, _⟩ | ⟨_, pre, _, _, h3, h4⟩
      · omega
      · exact ⟨valsOf xs, h1, by rw [h2]; simp [valsOf]⟩
      · have := HF.out.all; omega)
    clear hE hS hb3 hFi h5
    go_wp2_with fail
    go_ret2
    exact ⟨v, R, rfl, FIN.out⟩
end Go.Proofs.Ytpgligfolecieaa
