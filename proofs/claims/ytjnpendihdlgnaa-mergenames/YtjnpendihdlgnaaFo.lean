/-
  The first n entries that an iterator tells, copied.
-/
import Derived.Test.YtjnpendihdlgnaaGt
namespace Go.Proofs.Ytjnpendihdlgnaa
open Go.RowKit Go.Shelf
set_option maxRecDepth 100000
set_option maxHeartbeats 4000000
attribute [local go_sem] Oper.semAt_some
theorem ERow.le {w : World} {B B' : Nat} {v : Value} {R : List Tow} (h : ERow w B v R) (hB : B' ≤ B) : ERow w B' v R := by
  rcases h with h | ⟨g, c, n, h1, h2, h3, h4, h5⟩
  · exact .inl h
  · exact .inr ⟨g, c, n, h1, h2, h3, Nat.le_trans hB h4, h5⟩
theorem Shown.le {w : World} {B B' : Nat} {R : List Tow} (h : Shown w B R) (hB : B' ≤ B) : Shown w B' R := fun x hx => ⟨(h x hx).1, (h x hx).2.1, fun q hq => ⟨Nat.le_trans hB ((h x hx).2.2 q hq).1, ((h x hx).2.2 q hq).2⟩⟩
/-- What firstOf answers. -/
def FirstOk {α : Type} (tow : α → Tow) (S Sp : List α → Prop) (N : Nat) (n : Int) (R : List Tow) : Prop :=
  (n ≤ 0 ∧ R = []) ∨ (0 < n ∧ ∃ xs : List α, S xs ∧ R.map (·.e) = xs.map (fun x => (tow x).e) ∧ (xs.length : Int) < n) ∨ (0 < n ∧ ∃ pre : List α, Sp pre ∧ R.map (·.e) = pre.map (fun x => (tow x).e) ∧ (pre.length : Int) = n ∧ pre.length ≤ N)
theorem firstOf_any {α : Type} (T : TypeId → Prop) (hT : Far T) (tow : α → Tow) (gf : Nat) (lb : Array Value) (S Sp : List α → Prop) (N : Nat) (w : World) (n : Int) (eg : ∀ args w, (callFunc gf args).run Try.prog w = .ok (.enter gf args) w)
    (hseq : SeqX T Fence.wide 4 Try.prog gf lb (fun x : α => #[(tow x).agg]) (KpT T w.heap.size) S Sp N w) (hok : ∀ x, Bytes w (tow x).kv (tow x).e.key ∧ Bytes w (tow x).vv (tow x).e.val ∧ (tow x).e.key.length ≤ 1000000 ∧ (tow x).e.val.length ≤ 1000000) (hN : N ≤ 1000000) :
    Calls Try.prog 32 #[.func (.func gf) #[] lb, .int .i64 n] w fun e w' => ∃ v R, e = .returned v ∧ ERow w' w.heap.size v R ∧ Shown w' w.heap.size R ∧ Below w.heap.size w w' ∧ FirstOk tow S Sp N n R := by
  have T0 := hide (((Turns.refl (fun _ => False) w).alloc (.cells #[.int .i64 n] 3)).alloc (.cells #[.slice none 0 0] 27))
  have r0 := heap_keep ((Below.refl _ (w.alloc (.cells #[.int .i64 n] 3))).alloc (Nat.le_refl _) (.cells #[.slice none 0 0] 27)) (heap_alloc_new w (.cells #[.int .i64 n] 3))
  have r1 := heap_alloc_new (w.alloc (.cells #[.int .i64 n] 3)) (.cells #[.slice none 0 0] 27)
  rw [show (w.alloc (.cells #[.int .i64 n] 3)).heap.size = w.heap.size + 1 by simp] at r1
  have hsz : ((w.alloc (.cells #[.int .i64 n] 3)).alloc (.cells #[.slice none 0 0] 27)).heap.size = w.heap.size + 2 := by simp
  have R0 := hide r0
  have R1 := hide r1
  have HSZ := hide hsz
  have HOK := hide hok
  have HSEQ := hide hseq
  clear r0 r1 hsz hok hseq
  refine (callsIn_wide (n := 5)).1 ?_
  refine callsIn_of_wp_marks Try.func32 rfl trivial ?_ rfl
  simp only [Try.ntmps32, List.size_toArray, List.length_cons, List.length_nil, Nat.reduceAdd, Nat.reduceSub, Array.replicate_succ, Array.replicate_zero, List.push_toArray, List.append_toArray, List.nil_append, List.cons_append]
  by_cases hn0 : n ≤ 0
  · gi_wp2
    refine ⟨_, results_tmp rfl _ _ _, _, [], rfl, .inl ⟨rfl, rfl⟩, fun x hx => (by cases hx), T0.out.below (Nat.le_refl _) (fun _ x => x.elim), .inl ⟨hn0, rfl⟩⟩
  have hn1 : 0 < n := by omega
  gi_wp2
  generalize (w.alloc (.cells #[.int .i64 n] 3)).alloc (.cells #[.slice none 0 0] 27) = w0 at *
  obtain ⟨N0, hN0⟩ : ∃ N0, N0 = w.heap.size := ⟨_, rfl⟩
  rw [← hN0] at R0 R1 HSZ ⊢
  have HN0 := hide (show w.heap.size ≤ N0 by omega)
  have HNE := hide hN0
  have hG0 : Got N0 n w [] w0 := ⟨.slice none 0 0, ⟨R1.out, R0.out, .inl ⟨rfl, rfl⟩, fun x hx => (by cases hx), fun x hx => (by cases hx)⟩, T0.out.below (by omega) (fun _ x => x.elim)⟩
  have hsz0 := HSZ.out
  have hN1 := HN0.out
  have hN2 : N0 ≤ w.heap.size := by omega
  clear hN0
  refine range_x (w := w0) (n := 5) rfl (by decide) (gf := gf) (lb := lb) rfl trivial eg (hseq := HSEQ.out) KpT.trans (fun W l o o' hl ho hc => KpT.put W l o o' (by omega) ho hc) (T0.out.below (Nat.le_refl _) (fun _ x => x.elim)) (fun _ => rfl)
    (fun (pre : List α) W => ∃ R, Got N0 n w R W ∧ R.map (·.e) = pre.map (fun x => (tow x).e) ∧ (pre.length : Int) < n)
    (fun c pre W => ∃ R, c = .exit 0 ∧ Got N0 n w R W ∧ R.map (·.e) = pre.map (fun x => (tow x).e) ∧ (pre.length : Int) = n ∧ pre.length ≤ N)
    (fun s A A' ⟨R, h1, h2, h3⟩ tt => ⟨R, h1.own hT (by omega) (by omega) tt, h2, h3⟩)
    (fun c s A A' ⟨R, e, h1, h2, h3⟩ tt => ⟨R, e, h1.own hT (by omega) (by omega) tt, h2, h3⟩)
    ⟨[], hG0, rfl, by simpa using hn1⟩
    (fun (x : α) a' W => ∃ Be, w0.heap.size ≤ Be ∧ W.heap[Be]? = some (.cells #[.slice (tow x).ka (tow x).e.key.length (tow x).kc, .int .u64 ((tow x).e.seq : Nat), .int .i64 (tow x).e.kind, .slice (tow x).va (tow x).e.val.length (tow x).vc] 25 (0, 0)) ∧ a' = { tmps := #[.func (.func gf) #[] lb, .int .i64 n, undef, .pointer (some ⟨N0, 0, none⟩), .slice none 0 0, .pointer (some ⟨N0 + 1, 0, none⟩), .pointer (some ⟨Be, 0, none⟩), .int .i64 n, .bool false, undef, .func (.func gf) #[] lb, (tow x).agg, undef, undef, undef, undef, undef, undef, undef, undef, undef, undef], defers := [] })
    (fun x a' s A A' ⟨Be, h1, h2, h3⟩ tt => ⟨Be, h1, loose_cells tt h2 hT.h25, h3⟩) ?assign ?body ?done ?stop
  case assign =>
    rintro l pre x W K ⟨R, hG, hR, hlen⟩ hK
    unfold Tow.agg at hK ⊢
    gi_wp2
    have hW : N0 + 1 < W.heap.size := by
      obtain ⟨v, ⟨g1, _⟩, _⟩ := hG
      exact lt_of_heap g1
    refine hK _ _ ((KeepsOthers.alloc _ _).from _) (KpT.quiet ((Turns.refl _ W).alloc _)) ⟨R, hG.own (B := N0) hT (by omega) (Nat.le_refl _) ((Turns.refl _ W).alloc _), hR, hlen⟩ ⟨W.heap.size, by omega, heap_alloc_new W _, rfl⟩
  case body =>
    rintro l pre x a' W hl ⟨r, hr⟩ ⟨R, hG, hR, hlen⟩ ⟨Be, hBe, hE, rfl⟩ hlt
    obtain ⟨v, ⟨g1, g2, g3, g4, g5⟩, g6⟩ := hG
    have hRl : R.length = pre.length := by
      have := congrArg List.length hR
      simpa using this
    obtain ⟨a, c, rfl⟩ := g3.len
    have d0 : W.cell? ⟨N0 + 1, 0, none⟩ = some (.slice a R.length c) := cell_of_row W _ 0 _ 27 (0, 0) g1
    have HRL := hide (show R.length ≤ 1000000 by omega)
    have hkx := HOK.out x
    have tw := Turns.of_below (g6.mono (B' := w.heap.size) (by omega)) (fun _ => False)
    have HYE : Hid ((fun x => (tow x).e) x = (tow x).e) := hide rfl
    generalize tow x = y at *
    have HCL := hide (cloneTE_any y.ka y.va y.e.key.length y.kc y.e.val.length y.vc y.e.seq y.e.kind y.e.key y.e.val W.drew ((hkx.1.quiet tw).quiet (Turns.refl _ W).drew) ((hkx.2.1.quiet tw).quiet (Turns.refl _ W).drew) hkx.2.2.1 hkx.2.2.2)
    have e0 : W.cell? ⟨Be, 0, none⟩ = some (.slice y.ka y.e.key.length y.kc) := cell_of_row W Be 0 _ 25 (0, 0) hE
    have e1 : W.cell? ⟨Be, 1, none⟩ = some (.int .u64 (y.e.seq : Nat)) := cell_of_row W Be 1 _ 25 (0, 0) hE
    have e2 : W.cell? ⟨Be, 2, none⟩ = some (.int .i64 y.e.kind) := cell_of_row W Be 2 _ 25 (0, 0) hE
    have e3 : W.cell? ⟨Be, 3, none⟩ = some (.slice y.va y.e.val.length y.vc) := cell_of_row W Be 3 _ 25 (0, 0) hE
    have SKD := hide (fun (u : World) (tt : Turns (fun _ => False) W u) => tt.cell d0 (fun x => x))
    have G1 := hide g1
    have G2 := hide g2
    have G3 := hide g3
    have G4 := hide g4
    have G5 := hide g5
    have G6 := hide g6
    have HR := hide hR
    have HRP := hide hRl
    have tV : Turns (fun _ => False) W W.drew := (Turns.refl _ _).drew
    clear g1 g2 g3 g4 g5 g6 hR hRl hkx tw hE
    gi_wp2
    refine region_round_z 4 (S := fun u => u.cell? ⟨N0 + 1, 0, none⟩ = some (.slice a R.length c)) (by kernel_rfl) (by kernel_rfl) (SKD.out _ tV) (fun _ => ?_)
    change wpAnyZ _ _ _ _ _ _ 6 (Array.replicate 6 false) _ _
    refine wpAnyZ_take (i := 0) (oi := { dst := some 12, op := Op.load 27 (Operand.tmp 5), type := 27, pos := "merge.go:103", after := #[], guard := none }) (v := .slice a R.length c) rfl (by kernel_rfl) (by kernel_rfl) (by kernel_rfl) (by kernel_rfl) (fun _ _ _ h => by cases h.1) (Or.inl ⟨by rfl, ?_⟩) (SKD.out _ tV) ?_
    · rintro w d0
      go_simp
    simp only [Act.put, List.setIfInBounds_toArray, List.set_cons_zero, List.set_cons_succ]
    refine wpAnyZ_ready (rs := [1]) (by kernel_rfl) (by simp) ?_
    refine AllReadyZ.cons rfl (fun K hK => ?_) AllReadyZ.nil
    go_simp
    refine hK.out _ _ (SKD.out _ tV) (fun _ => ?_)
    clear hK K
    refine wpAnyZ_ready (rs := [2]) (by kernel_rfl) (by simp) ?_
    refine AllReadyZ.cons rfl (fun K hK => ?_) AllReadyZ.nil
    go_simp
    refine HCL.out.mono ?_
    rintro oo W2 ⟨ka', kc', va', vc', rfl, hk6, hv6, hkb, hvb, b6⟩
    have t6 := (Turns.refl (fun _ => False) W).drew.trans (Turns.of_below b6 (fun _ => False))
    go_simp
    refine hK.out _ _ (SKD.out _ t6) (fun _ => ?_)
    clear hK K
    have ta : Turns (fun _ => False) W (W2.alloc (.cells #[.slice ka' y.e.key.length kc', .int .u64 (y.e.seq : Nat), .int .i64 y.e.kind, .slice va' y.e.val.length vc'] 25)) := t6.alloc _
    have tal : Turns (fun _ => False) W2 (W2.alloc (.cells #[.slice ka' y.e.key.length kc', .int .u64 (y.e.seq : Nat), .int .i64 y.e.kind, .slice va' y.e.val.length vc'] 25)) := (Turns.refl _ W2).alloc _
    obtain ⟨g', n', c', W4, hr4, hrow4, t4, b4, hin4⟩ := append_ent (W2.alloc (.cells #[.slice ka' y.e.key.length kc', .int .u64 (y.e.seq : Nat), .int .i64 y.e.kind, .slice va' y.e.val.length vc'] 25)) (N0 + 2) (.slice a R.length c) R (G3.out.keep ta (fun _ _ x => x)) (by have h1 := lt_of_heap G1.out; have h2 := ta.size; omega) (by have := HRL.out; omega) ⟨ka', kc', va', vc', y.e⟩ W2.heap.size 1 (heap_alloc_new W2 _)
    have hkd : ∀ {q : Option Addr}, (∀ x, q = some x → (W.drew.heap.size ≤ x.block ∧ x.block < W2.heap.size) ∧ ∃ cs, W2.heap[x.block]? = some (.cells cs 5 (0, 0))) → ∀ x, q = some x → (W.heap.size ≤ x.block ∧ x.block < (W2.alloc (.cells #[.slice ka' y.e.key.length kc', .int .u64 (y.e.seq : Nat), .int .i64 y.e.kind, .slice va' y.e.val.length vc'] 25)).heap.size) ∧ ∃ cs, (W2.alloc (.cells #[.slice ka' y.e.key.length kc', .int .u64 (y.e.seq : Nat), .int .i64 y.e.kind, .slice va' y.e.val.length vc'] 25)).heap[x.block]? = some (.cells cs 5 (0, 0)) := fun h x e => ⟨⟨(h x e).1.1, Nat.lt_of_lt_of_le (h x e).1.2 tal.size⟩, (h x e).2.choose, tal.heap (h x e).2.choose_spec (fun x => x)⟩
    have FB := hide (body_end (T := T) (B0 := w.heap.size) (n := n) (N0 := N0) (w := w) (y := y) hT HN0.out G1.out G2.out G3.out G4.out G5.out G6.out ta (hk6.quiet tal) (hv6.quiet tal) (hkd hkb) (hkd hvb) hrow4 t4)
    have HQ := hide (hr4 27)
    have HROW := hide hrow4.len
    have C5 := hide (show (W4.setCell ⟨N0 + 1, 0, none⟩ (.slice (some ⟨g', 0, none⟩) n' c')).cell? ⟨N0 + 1, 0, none⟩ = some (.slice (some ⟨g', 0, none⟩) n' c') from by obtain ⟨v9, ⟨q1, q2⟩, q3⟩ := FB.out.2.2.2.2; have q4 := ((Tick.refl (t4.heap (ta.heap G1.out (fun x => x)) (fun h => by have := (G3.out.row h).1; omega))).set 0 (.slice (some ⟨g', 0, none⟩) n' c')); exact q4.cell 0)
    have c1 := (SKD.out _ ta)
    clear hk6 hv6 hkb hvb b6 ta tal hr4 hrow4 t4 b4 hin4 hkd
    refine wpAnyZ_ready (rs := [3]) (by kernel_rfl) (by simp) ?_
    refine AllReadyZ.cons rfl (fun K hK => ?_) AllReadyZ.nil
    go_simp
    refine hK.out _ _ c1 (fun _ => ?_)
    clear hK K c1
    refine wpAnyZ_ready (rs := [4]) (by kernel_rfl) (by simp) ?_
    refine AllReadyZ.free rfl (by kernel_rfl) (fun K hK => ?_) AllReadyZ.nil
    refine step_append_run rfl (.tmp 12) (.tmp 15) 27 rfl (.slice a R.length c) (.slice (some ⟨W2.heap.size, 0, none⟩) 1 1) rfl rfl _ _ HQ.out _ rfl ?_
    refine hK.out _ _ ?_
    clear hK K
    have FC := FB.out.1
    have FZ := FB.out.2.1
    refine wpAnyZ_ready (rs := [5]) (by kernel_rfl) (by simp) ?_
    refine AllReadyZ.free rfl (by kernel_rfl) (fun K hK => ?_) AllReadyZ.nil
    go_simp
    refine hK.out _ _ ?_
    clear hK K FC FZ
    refine wpAnyZ_done (by kernel_rfl) ?_ _
    refine ⟨rfl, ?_⟩
    have hn' : n' = R.length + 1 := by
      obtain ⟨_, _, e⟩ := HROW.out
      cases e
      simp
    subst hn'
    obtain ⟨_, _, FK, FP, FG⟩ := FB.out
    clear FB HQ HROW HCL SKD t6
    generalize W4.setCell ⟨N0 + 1, 0, none⟩ (.slice (some ⟨g', 0, none⟩) (R.length + 1) c') = W5 at *
    have hcc : W5.cell? ⟨N0 + 1, 0, none⟩ = some (.slice (some ⟨g', 0, none⟩) (R.length + 1) c') := C5.out
    have hcn : W5.cell? ⟨N0, 0, none⟩ = some (.int .i64 n) := by
      obtain ⟨v, ⟨_, k2, _⟩, _⟩ := FG
      exact cell_of_row W5 _ 0 _ 3 (0, 0) k2
    have FE := hide (show (R ++ [(⟨ka', kc', va', vc', y.e⟩ : Tow)]).map (·.e) = (pre ++ [x]).map (fun x => (tow x).e) by rw [List.map_append, List.map_append, HR.out, List.map_singleton, List.map_singleton, HYE.out])
    have FKH := hide FK
    have FPH := hide FP
    have FGH := hide FG
    have HRQ := HRP.out
    clear FK FP FG e0 e1 e2 e3 d0
    by_cases hlast : (R.length : Int) + 1 = n
    · gi_wp2
      exact ⟨FKH.out _, _, rfl, FGH.out, FE.out, by rw [List.length_append, List.length_singleton]; omega, by rw [List.length_append, List.length_singleton]; omega⟩
    · gi_wp2
      exact ⟨FKH.out _, FPH.out, _, FGH.out, FE.out, by rw [List.length_append, List.length_singleton]; omega⟩
  case done =>
    rintro D xs W hD hS ⟨R, hG, hR, hlen⟩ hK
    have hGF := hG.own (B := w0.heap.size) hT (by omega) (by omega) ((turns_put (.deferred none) hK).mono fun k _ e => by subst e; exact ⟨hD, _, hK, .inl rfl⟩)
    have HGF := hide hGF
    obtain ⟨v, ⟨g1, g2, g3, g4, g5⟩, g6⟩ := hG
    have c1 : W.cell? ⟨N0 + 1, 0, none⟩ = some v := cell_of_row W _ 0 _ 27 (0, 0) g1
    obtain ⟨a, c, rfl⟩ := g3.len
    have HG1 := hide g1
    have HK := hide hK
    have HR := hide hR
    have HS := hide hS
    clear g1 g2 g3 g4 g5 g6 hGF hR hS
    gi_wp2
    refine ⟨by simp, .inl ⟨_, _, rfl, run_takeDeferred HK.out, ?_⟩⟩
    obtain ⟨v', ⟨k1, k2, k3, k4, k5⟩, k6⟩ := HGF.out
    have hD1 : N0 + 1 ≠ D := by omega
    have e1 : v' = .slice a R.length c := by
      rw [World.putObj_heap_other hD1, HG1.out] at k1
      cases k1
      rfl
    subst e1
    exact ⟨_, results_tmp rfl _ _ _, _, R, rfl, k3.le (by omega), k4.le (by omega), k6.mono (by omega), .inr (.inl ⟨hn1, xs, HS.out, HR.out, hlen⟩)⟩
  case stop =>
    rintro D c pre W hD hS ⟨R, rfl, hG, hR, hlen⟩ hK
    have hGF := hG.own (B := w0.heap.size) hT (by omega) (by omega) ((turns_put (.deferred none) hK).mono fun k _ e => by subst e; exact ⟨hD, _, hK, .inl rfl⟩)
    have HGF := hide hGF
    obtain ⟨v, ⟨g1, g2, g3, g4, g5⟩, g6⟩ := hG
    have c1 : W.cell? ⟨N0 + 1, 0, none⟩ = some v := cell_of_row W _ 0 _ 27 (0, 0) g1
    obtain ⟨a, c, rfl⟩ := g3.len
    have HG1 := hide g1
    have HK := hide hK
    have HR := hide hR
    have HS := hide hS
    clear g1 g2 g3 g4 g5 g6 hGF hR hS
    gi_wp2
    refine ⟨by simp, .inl ⟨_, _, rfl, run_takeDeferred HK.out, ?_⟩⟩
    obtain ⟨v', ⟨k1, k2, k3, k4, k5⟩, k6⟩ := HGF.out
    have hD1 : N0 + 1 ≠ D := by omega
    have e1 : v' = .slice a R.length c := by
      rw [World.putObj_heap_other hD1, HG1.out] at k1
      cases k1
      rfl
    subst e1
    exact ⟨_, results_tmp rfl _ _ _, _, R, rfl, k3.le (by omega), k4.le (by omega), k6.mono (by omega), .inr (.inr ⟨hn1, pre, HS.out, HR.out, hlen⟩)⟩
end Go.Proofs.Ytjnpendihdlgnaa
