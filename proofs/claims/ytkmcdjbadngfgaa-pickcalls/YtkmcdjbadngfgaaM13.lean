import Derived.Test.YtkmcdjbadngfgaaM12
/-
  Keys from a least to a greatest.
-/
namespace Go.Proofs.Ytkmcdjbadngfgaa
open Go.RowKit
set_option maxRecDepth 100000
set_option maxHeartbeats 4000000
structure Kk where
  la : Option Addr
  lc : Nat
  ma : Option Addr
  mc : Nat
  lo : List (BitVec 8)
  hi : List (BitVec 8)
def Kk.agg (k : Kk) : Value := .agg #[.slice k.la k.lo.length k.lc, .slice k.ma k.hi.length k.mc]
def KB (w : World) (k : Kk) : Prop := Bytes w (.slice k.la k.lo.length k.lc) k.lo ∧ Bytes w (.slice k.ma k.hi.length k.mc) k.hi
theorem KB.quiet {w w' : World} {k : Kk} (h : KB w k) (t : Turns (fun _ => False) w w') : KB w' k := ⟨h.1.quiet t, h.2.quiet t⟩
def Tf.keys (x : Tf) : Kk := ⟨x.la, x.lc, x.ma, x.mc, x.f.least, x.f.most⟩
theorem sz72 : (Try.prog.info? 72).map (·.size) = some 2 := by kernel_rfl
theorem turns_setRow (w : World) (g : Nat) (cs : Array Value) : Turns (fun j => j = g) w (w.setRow g cs) := ⟨rfl, rfl, rfl, by simp, fun k _ hk => setRow_other _ _ _ _ hk⟩
theorem keysOf_any (x : Tf) (w : World) : Calls Try.prog 59 #[x.agg] w fun e w' => e = .returned x.keys.agg ∧ Turns (fun _ => False) w w' := by
  obtain ⟨la, lc, ma, mc, ⟨no, sz, ls, ms, en, sq⟩⟩ := x
  unfold Tf.keys Kk.agg Tf.agg
  simp only at *
  generalize ls.length = L1
  generalize ms.length = L2
  have R := hide (heap_alloc_new (w.alloc (.cells #[.int .u64 (no : Nat), .int .i64 sz, .slice la L1 lc, .slice ma L2 mc, .int .i64 en, .int .u64 (sq : Nat)] 29)) (.cells #[.slice none 0 0, .slice none 0 0] 72))
  have TB := hide (((Turns.refl (fun _ => False) w).alloc (.cells #[.int .u64 (no : Nat), .int .i64 sz, .slice la L1 lc, .slice ma L2 mc, .int .i64 en, .int .u64 (sq : Nat)] 29)).alloc (.cells #[.slice none 0 0, .slice none 0 0] 72))
  simp only [World.size_alloc] at R
  go_enter Try.func59, Try.ntmps59
  go_wp2_with (refine wpList_store_row rfl 72 _ _ rfl _ _ rfl rfl _ _ R.out ?_ ?_ ?_ ?_; (exact sz72); (simp only [List.size_toArray, List.length_cons, List.length_nil]); (simp [Value.oneCell']))
  refine bodyPost_ret (v := .agg #[.slice la L1 lc, .slice ma L2 mc]) ?_ rfl ?_
  · exact results_cell_row Try.results59 _ _ _ _ _ _ _ rfl (setRow_heap _ _ _ _ _ _ R.out) Try.underlying72 rfl sz72
  · exact ⟨rfl, TB.out.andThen (turns_setRow _ _ _) fun j hj e => by omega⟩
theorem and_tt {P Q : Prop} [Decidable P] [Decidable Q] (p : P) (q : Q) : (decide P && decide Q) = true := by rw [decide_eq_true p, decide_eq_true q]; rfl
theorem and_tf {P Q : Prop} [Decidable P] [Decidable Q] (q : ¬ Q) : (decide P && decide Q) = false := by rw [decide_eq_false q, Bool.and_false]
theorem and_f {P Q : Prop} [Decidable P] [Decidable Q] (p : ¬ P) : (decide P && decide Q) = false := by rw [decide_eq_false p, Bool.false_and]
def ovK (lo hi : List (BitVec 8)) (f : Fl) : Bool := decide (0 ≤ cmpB f.most lo) && decide (cmpB f.least hi ≤ 0)
def hoK (lo hi : List (BitVec 8)) (f : Fl) : Bool := decide (0 ≤ cmpB f.least lo) && decide (cmpB f.most hi ≤ 0)
theorem koverlap_any (k : Kk) (x : Tf) (w : World) (h : KB w k) (h' : FB w x) : Calls Try.prog 76 #[k.agg, x.agg] w fun e w' => e = .returned (.bool (ovK k.lo k.hi x.f)) ∧ Turns (fun _ => False) w w' := by
  obtain ⟨la, lc, ma, mc, ⟨no, sz, ls, ms, en, sq⟩⟩ := x
  obtain ⟨ka, kc, ja, jc, lo, hi⟩ := k
  have TA := hide (((Turns.refl (fun _ => False) w).alloc (.cells #[.slice ka lo.length kc, .slice ja hi.length jc] 72)).alloc (.cells #[.int .u64 (no : Nat), .int .i64 sz, .slice la ls.length lc, .slice ma ms.length mc, .int .i64 en, .int .u64 (sq : Nat)] 29))
  have C1 := hide (compareB_any ma ka ms.length lo.length mc kc ms lo _ (h'.quiet TA.out).2 (h.quiet TA.out).1)
  have C2 := hide (compareB_any la ja ls.length hi.length lc jc ls hi _ (h'.quiet TA.out).1 (h.quiet TA.out).2)
  have HO := hide (show ovK lo hi ⟨no, sz, ls, ms, en, sq⟩ = (decide (0 ≤ cmpB ms lo) && decide (cmpB ls hi ≤ 0)) from rfl)
  clear h h'
  unfold Kk.agg Tf.agg
  simp only at *
  generalize ovK lo hi ⟨no, sz, ls, ms, en, sq⟩ = R at *
  generalize ls.length = L1 at *
  generalize ms.length = L2 at *
  generalize lo.length = L3 at *
  generalize hi.length = L4 at *
  generalize cmpB ms lo = X1 at *
  generalize cmpB ls hi = X2 at *
  by_cases x1 : 0 ≤ X1
  · by_cases x2 : X2 ≤ 0
    · go_enter Try.func76, Try.ntmps76
      go_wp2_with fail
      refine C1.out.mono ?_
      rintro e w1 ⟨rfl, rfl⟩
      go_wp2_with fail
      refine C2.out.mono ?_
      rintro e w1 ⟨rfl, rfl⟩
      go_wp2_with fail
      go_ret
      exact ⟨by rw [HO.out, and_tt (by omega) (by omega)]; rfl, TA.out⟩
    · go_enter Try.func76, Try.ntmps76
      go_wp2_with fail
      refine C1.out.mono ?_
      rintro e w1 ⟨rfl, rfl⟩
      go_wp2_with fail
      refine C2.out.mono ?_
      rintro e w1 ⟨rfl, rfl⟩
      go_wp2_with fail
      go_ret
      exact ⟨congrArg (fun b => Ending.returned (Value.bool b)) (show decide (X2 ≤ 0) = R by rw [HO.out, and_tf (show ¬ X2 ≤ 0 by omega), decide_eq_false (show ¬ X2 ≤ 0 by omega)]), TA.out⟩
  · go_enter Try.func76, Try.ntmps76
    go_wp2_with fail
    refine C1.out.mono ?_
    rintro e w1 ⟨rfl, rfl⟩
    go_wp2_with fail
    go_ret
    exact ⟨by rw [HO.out, and_f (by omega)]; rfl, TA.out⟩
theorem khold_any (k : Kk) (x : Tf) (w : World) (h : KB w k) (h' : FB w x) : Calls Try.prog 77 #[k.agg, x.agg] w fun e w' => e = .returned (.bool (hoK k.lo k.hi x.f)) ∧ Turns (fun _ => False) w w' := by
  obtain ⟨la, lc, ma, mc, ⟨no, sz, ls, ms, en, sq⟩⟩ := x
  obtain ⟨ka, kc, ja, jc, lo, hi⟩ := k
  have TA := hide (((Turns.refl (fun _ => False) w).alloc (.cells #[.slice ka lo.length kc, .slice ja hi.length jc] 72)).alloc (.cells #[.int .u64 (no : Nat), .int .i64 sz, .slice la ls.length lc, .slice ma ms.length mc, .int .i64 en, .int .u64 (sq : Nat)] 29))
  have C1 := hide (compareB_any la ka ls.length lo.length lc kc ls lo _ (h'.quiet TA.out).1 (h.quiet TA.out).1)
  have C2 := hide (compareB_any ma ja ms.length hi.length mc jc ms hi _ (h'.quiet TA.out).2 (h.quiet TA.out).2)
  have HO := hide (show hoK lo hi ⟨no, sz, ls, ms, en, sq⟩ = (decide (0 ≤ cmpB ls lo) && decide (cmpB ms hi ≤ 0)) from rfl)
  clear h h'
  unfold Kk.agg Tf.agg
  simp only at *
  generalize hoK lo hi ⟨no, sz, ls, ms, en, sq⟩ = R at *
  generalize ls.length = L1 at *
  generalize ms.length = L2 at *
  generalize lo.length = L3 at *
  generalize hi.length = L4 at *
  generalize cmpB ls lo = X1 at *
  generalize cmpB ms hi = X2 at *
  by_cases x1 : 0 ≤ X1
  · by_cases x2 : X2 ≤ 0
    · go_enter Try.func77, Try.ntmps77
      go_wp2_with fail
      refine C1.out.mono ?_
      rintro e w1 ⟨rfl, rfl⟩
      go_wp2_with fail
      refine C2.out.mono ?_
      rintro e w1 ⟨rfl, rfl⟩
      go_wp2_with fail
      go_ret
      exact ⟨by rw [HO.out, and_tt (by omega) (by omega)]; rfl, TA.out⟩
    · go_enter Try.func77, Try.ntmps77
      go_wp2_with fail
      refine C1.out.mono ?_
      rintro e w1 ⟨rfl, rfl⟩
      go_wp2_with fail
      refine C2.out.mono ?_
      rintro e w1 ⟨rfl, rfl⟩
      go_wp2_with fail
      go_ret
      exact ⟨congrArg (fun b => Ending.returned (Value.bool b)) (show decide (X2 ≤ 0) = R by rw [HO.out, and_tf (show ¬ X2 ≤ 0 by omega), decide_eq_false (show ¬ X2 ≤ 0 by omega)]), TA.out⟩
  · go_enter Try.func77, Try.ntmps77
    go_wp2_with fail
    refine C1.out.mono ?_
    rintro e w1 ⟨rfl, rfl⟩
    go_wp2_with fail
    go_ret
    exact ⟨by rw [HO.out, and_f (by omega)]; rfl, TA.out⟩
def withK (k : Kk) (x : Tf) : Kk :=
  ⟨if cmpB x.f.least k.lo < 0 then x.la else k.la, if cmpB x.f.least k.lo < 0 then x.lc else k.lc, if 0 < cmpB x.f.most k.hi then x.ma else k.ma, if 0 < cmpB x.f.most k.hi then x.mc else k.mc, if cmpB x.f.least k.lo < 0 then x.f.least else k.lo, if 0 < cmpB x.f.most k.hi then x.f.most else k.hi⟩
theorem withK_kb {w : World} {k : Kk} {x : Tf} (h : KB w k) (h' : FB w x) : KB w (withK k x) := by
  unfold withK KB
  constructor
  · by_cases h1 : cmpB x.f.least k.lo < 0
    · simp only [h1, if_true]; exact h'.1
    · simp only [h1, if_false]; exact h.1
  · by_cases h1 : 0 < cmpB x.f.most k.hi
    · simp only [h1, if_true]; exact h'.2
    · simp only [h1, if_false]; exact h.2
theorem kwith_any (k : Kk) (x : Tf) (w : World) (h : KB w k) (h' : FB w x) : Calls Try.prog 47 #[k.agg, x.agg] w fun e w' => e = .returned (withK k x).agg ∧ Turns (fun _ => False) w w' := by
  obtain ⟨la, lc, ma, mc, ⟨no, sz, ls, ms, en, sq⟩⟩ := x
  obtain ⟨ka, kc, ja, jc, lo, hi⟩ := k
  have HO := hide (show (withK ⟨ka, kc, ja, jc, lo, hi⟩ ⟨la, lc, ma, mc, ⟨no, sz, ls, ms, en, sq⟩⟩).agg = .agg #[.slice (if cmpB ls lo < 0 then la else ka) (if cmpB ls lo < 0 then ls.length else lo.length) (if cmpB ls lo < 0 then lc else kc), .slice (if 0 < cmpB ms hi then ma else ja) (if 0 < cmpB ms hi then ms.length else hi.length) (if 0 < cmpB ms hi then mc else jc)] by
    unfold withK Kk.agg
    simp only
    by_cases h1 : cmpB ls lo < 0 <;> by_cases h2 : 0 < cmpB ms hi <;> simp only [h1, h2, if_true, if_false])
  have CA := hide (fun (u : World) (tu : Turns (fun _ => False) w u) => compareB_any la ka ls.length lo.length lc kc ls lo u (h'.quiet tu).1 (h.quiet tu).1)
  have CB := hide (fun (u : World) (tu : Turns (fun _ => False) w u) => compareB_any ma ja ms.length hi.length mc jc ms hi u (h'.quiet tu).2 (h.quiet tu).2)
  clear h h'
  unfold Kk.agg Tf.agg at *
  simp only at *
  generalize (Value.agg #[.slice (withK ⟨ka, kc, ja, jc, lo, hi⟩ ⟨la, lc, ma, mc, ⟨no, sz, ls, ms, en, sq⟩⟩).la (withK ⟨ka, kc, ja, jc, lo, hi⟩ ⟨la, lc, ma, mc, ⟨no, sz, ls, ms, en, sq⟩⟩).lo.length (withK ⟨ka, kc, ja, jc, lo, hi⟩ ⟨la, lc, ma, mc, ⟨no, sz, ls, ms, en, sq⟩⟩).lc, .slice (withK ⟨ka, kc, ja, jc, lo, hi⟩ ⟨la, lc, ma, mc, ⟨no, sz, ls, ms, en, sq⟩⟩).ma (withK ⟨ka, kc, ja, jc, lo, hi⟩ ⟨la, lc, ma, mc, ⟨no, sz, ls, ms, en, sq⟩⟩).hi.length (withK ⟨ka, kc, ja, jc, lo, hi⟩ ⟨la, lc, ma, mc, ⟨no, sz, ls, ms, en, sq⟩⟩).mc]) = RV at *
  generalize ls.length = L1 at *
  generalize ms.length = L2 at *
  generalize lo.length = L3 at *
  generalize hi.length = L4 at *
  generalize cmpB ls lo = X1 at *
  generalize cmpB ms hi = X2 at *
  have R0 := hide (((Turns.refl (fun _ => False) (w.alloc (.cells #[.slice ka L3 kc, .slice ja L4 jc] 72))).alloc (.cells #[.int .u64 (no : Nat), .int .i64 sz, .slice la L1 lc, .slice ma L2 mc, .int .i64 en, .int .u64 (sq : Nat)] 29)).alloc (.cells #[.slice none 0 0, .slice none 0 0] 72) |>.heap (heap_alloc_new w (.cells #[.slice ka L3 kc, .slice ja L4 jc] 72)) (fun x => x))
  have R2 := hide (heap_alloc_new ((w.alloc (.cells #[.slice ka L3 kc, .slice ja L4 jc] 72)).alloc (.cells #[.int .u64 (no : Nat), .int .i64 sz, .slice la L1 lc, .slice ma L2 mc, .int .i64 en, .int .u64 (sq : Nat)] 29)) (.cells #[.slice none 0 0, .slice none 0 0] 72))
  have TB := hide ((((Turns.refl (fun _ => False) w).alloc (.cells #[.slice ka L3 kc, .slice ja L4 jc] 72)).alloc (.cells #[.int .u64 (no : Nat), .int .i64 sz, .slice la L1 lc, .slice ma L2 mc, .int .i64 en, .int .u64 (sq : Nat)] 29)).alloc (.cells #[.slice none 0 0, .slice none 0 0] 72))
  have R1 := hide ((((Turns.refl (fun _ => False) ((w.alloc (.cells #[.slice ka L3 kc, .slice ja L4 jc] 72)).alloc (.cells #[.int .u64 (no : Nat), .int .i64 sz, .slice la L1 lc, .slice ma L2 mc, .int .i64 en, .int .u64 (sq : Nat)] 29)))).alloc (.cells #[.slice none 0 0, .slice none 0 0] 72)).heap (heap_alloc_new (w.alloc (.cells #[.slice ka L3 kc, .slice ja L4 jc] 72)) (.cells #[.int .u64 (no : Nat), .int .i64 sz, .slice la L1 lc, .slice ma L2 mc, .int .i64 en, .int .u64 (sq : Nat)] 29)) (fun x => x))
  simp only [World.size_alloc] at R1 R2
  go_enter Try.func47, Try.ntmps47
  go_wp2_with fail
  generalize hw0 : ((w.alloc (.cells #[.slice ka L3 kc, .slice ja L4 jc] 72)).alloc (.cells #[.int .u64 (no : Nat), .int .i64 sz, .slice la L1 lc, .slice ma L2 mc, .int .i64 en, .int .u64 (sq : Nat)] 29)).alloc (.cells #[.slice none 0 0, .slice none 0 0] 72) = w0 at *
  generalize hP : w.heap.size = P at *
  have HP := hide hP
  clear hw0 hP
  refine (CA.out _ TB.out).mono ?_
  rintro e w1 ⟨rfl, rfl⟩
  have p0 := cell_of_row w1 P 0 _ 72 (0, 0) R0.out
  have p1 := cell_of_row w1 P 1 _ 72 (0, 0) R0.out
  have q2 := cell_of_row w1 (P + 1) 2 _ 29 (0, 0) R1.out
  have q3 := cell_of_row w1 (P + 1) 3 _ 29 (0, 0) R1.out
  have fz := frozen_of_row w1 P 0 _ 72 R0.out
  --PATHS
  by_cases x1 : X1 < 0
  · have TK := hide ((Tick.refl R0.out).set 0 (.slice la L1 lc))
    go_wp2_with fail
    refine (CB.out _ (TB.out.andThen (Turns.of_tick TK.out) fun j hj e => by have := HP.out; omega)).mono ?_
    rintro e w2 ⟨rfl, hw2⟩
    rw [← hw2] at TK
    clear hw2
    have p0 : w2.cell? ⟨P, 0, none⟩ = some (.slice la L1 lc) := TK.out.cell 0
    have p1 : w2.cell? ⟨P, 1, none⟩ = some (.slice ja L4 jc) := TK.out.cell 1
    have q2 := cell_of_row w2 (P + 1) 2 _ 29 (0, 0) ((Turns.of_tick TK.out).heap R1.out (show ¬ P + 1 = P by omega))
    have q3 := cell_of_row w2 (P + 1) 3 _ 29 (0, 0) ((Turns.of_tick TK.out).heap R1.out (show ¬ P + 1 = P by omega))
    have fz := TK.out.frozen 1
    by_cases x2 : 0 < X2
    · have TK2 := hide (TK.out.set 1 (.slice ma L2 mc))
      have r3 := (Turns.of_tick TK2.out).heap R2.out (show ¬ P + 1 + 1 = P by omega)
      go_wp2_with (refine wpList_store_row rfl 72 _ _ rfl _ _ rfl rfl _ _ r3 ?_ ?_ ?_ ?_; (exact sz72); (simp only [List.size_toArray, List.length_cons, List.length_nil]); (simp [Value.oneCell']))
      refine bodyPost_ret (v := .agg #[.slice la L1 lc, .slice ma L2 mc]) ?_ rfl ?_
      · exact results_cell_row Try.results47 _ _ _ _ _ _ _ rfl (setRow_heap _ _ _ _ _ _ r3) Try.underlying72 rfl sz72
      · exact ⟨by rw [HO.out]; simp only [if_pos x1, if_pos x2], (TB.out.andThen (Turns.of_tick TK2.out) fun j hj e => by have := HP.out; omega).andThen (turns_setRow _ _ _) fun j hj e => by have := HP.out; omega⟩
    · have r3 := (Turns.of_tick TK.out).heap R2.out (show ¬ P + 1 + 1 = P by omega)
      go_wp2_with (refine wpList_store_row rfl 72 _ _ rfl _ _ rfl rfl _ _ r3 ?_ ?_ ?_ ?_; (exact sz72); (simp only [List.size_toArray, List.length_cons, List.length_nil]); (simp [Value.oneCell']))
      refine bodyPost_ret (v := .agg #[.slice la L1 lc, .slice ja L4 jc]) ?_ rfl ?_
      · exact results_cell_row Try.results47 _ _ _ _ _ _ _ rfl (setRow_heap _ _ _ _ _ _ r3) Try.underlying72 rfl sz72
      · exact ⟨by rw [HO.out]; simp only [if_pos x1, if_neg (show ¬ 0 < X2 by omega)], (TB.out.andThen (Turns.of_tick TK.out) fun j hj e => by have := HP.out; omega).andThen (turns_setRow _ _ _) fun j hj e => by have := HP.out; omega⟩
  · have TK := hide (Tick.refl R0.out)
    go_wp2_with fail
    refine (CB.out _ (TB.out.andThen (Turns.of_tick TK.out) fun j hj e => by have := HP.out; omega)).mono ?_
    rintro e w2 ⟨rfl, hw2⟩
    subst hw2
    have p0 : w2.cell? ⟨P, 0, none⟩ = some (.slice ka L3 kc) := TK.out.cell 0
    have p1 : w2.cell? ⟨P, 1, none⟩ = some (.slice ja L4 jc) := TK.out.cell 1
    have q2 := cell_of_row w2 (P + 1) 2 _ 29 (0, 0) ((Turns.of_tick TK.out).heap R1.out (show ¬ P + 1 = P by omega))
    have q3 := cell_of_row w2 (P + 1) 3 _ 29 (0, 0) ((Turns.of_tick TK.out).heap R1.out (show ¬ P + 1 = P by omega))
    have fz := TK.out.frozen 1
    by_cases x2 : 0 < X2
    · have TK2 := hide (TK.out.set 1 (.slice ma L2 mc))
      have r3 := (Turns.of_tick TK2.out).heap R2.out (show ¬ P + 1 + 1 = P by omega)
      go_wp2_with (refine wpList_store_row rfl 72 _ _ rfl _ _ rfl rfl _ _ r3 ?_ ?_ ?_ ?_; (exact sz72); (simp only [List.size_toArray, List.length_cons, List.length_nil]); (simp [Value.oneCell']))
      refine bodyPost_ret (v := .agg #[.slice ka L3 kc, .slice ma L2 mc]) ?_ rfl ?_
      · exact results_cell_row Try.results47 _ _ _ _ _ _ _ rfl (setRow_heap _ _ _ _ _ _ r3) Try.underlying72 rfl sz72
      · exact ⟨by rw [HO.out]; simp only [if_neg (show ¬ X1 < 0 by omega), if_pos x2], (TB.out.andThen (Turns.of_tick TK2.out) fun j hj e => by have := HP.out; omega).andThen (turns_setRow _ _ _) fun j hj e => by have := HP.out; omega⟩
    · have r3 := (Turns.of_tick TK.out).heap R2.out (show ¬ P + 1 + 1 = P by omega)
      go_wp2_with (refine wpList_store_row rfl 72 _ _ rfl _ _ rfl rfl _ _ r3 ?_ ?_ ?_ ?_; (exact sz72); (simp only [List.size_toArray, List.length_cons, List.length_nil]); (simp [Value.oneCell']))
      refine bodyPost_ret (v := .agg #[.slice ka L3 kc, .slice ja L4 jc]) ?_ rfl ?_
      · exact results_cell_row Try.results47 _ _ _ _ _ _ _ rfl (setRow_heap _ _ _ _ _ _ r3) Try.underlying72 rfl sz72
      · exact ⟨by rw [HO.out]; simp only [if_neg (show ¬ X1 < 0 by omega), if_neg (show ¬ 0 < X2 by omega)], (TB.out.andThen (Turns.of_tick TK.out) fun j hj e => by have := HP.out; omega).andThen (turns_setRow _ _ _) fun j hj e => by have := HP.out; omega⟩
end Go.Proofs.Ytkmcdjbadngfgaa

/-
  Keys that are closed: pure.
-/
namespace Go.Proofs.Ytkmcdjbadngfgaa
set_option maxRecDepth 100000
set_option maxHeartbeats 4000000
def cle (a b : List (BitVec 8)) : Prop := cmpB a b ≤ 0
theorem cle_refl (a : List (BitVec 8)) : cle a a := by unfold cle; rw [(cmpB_zero a a).2 rfl]; exact Int.le_refl 0
theorem cle_iff (a b : List (BitVec 8)) : cle a b ↔ 0 ≤ cmpB b a := by unfold cle; rw [cmpB_swap a b]; omega
theorem cle_total (a b : List (BitVec 8)) : cle a b ∨ cle b a := by
  rw [cle_iff b a]; unfold cle; omega
theorem cle_trans {a b c : List (BitVec 8)} (h : cle a b) (k : cle b c) : cle a c := by
  unfold cle at *
  rcases cmpB_vals a b with h1 | h1 | h1
  · rcases cmpB_vals b c with h2 | h2 | h2
    · rw [cmpB_lt h1 h2]; decide
    · rw [← (cmpB_zero b c).1 h2, h1]; decide
    · omega
  · rw [(cmpB_zero a b).1 h1]; exact k
  · omega
theorem cle_antisymm {a b : List (BitVec 8)} (h : cle a b) (k : cle b a) : a = b := by
  rw [cle_iff b a] at k
  unfold cle at h
  exact (cmpB_zero a b).1 (by omega)
theorem hoK_iff {lo hi : List (BitVec 8)} {f : Fl} : hoK lo hi f = true ↔ cle lo f.least ∧ cle f.most hi := by
  unfold hoK
  rw [Bool.and_eq_true, decide_eq_true_iff, decide_eq_true_iff, cle_iff lo]
  rfl
theorem ovK_iff {lo hi : List (BitVec 8)} {f : Fl} : ovK lo hi f = true ↔ cle lo f.most ∧ cle f.least hi := by
  unfold ovK
  rw [Bool.and_eq_true, decide_eq_true_iff, decide_eq_true_iff, cle_iff lo]
  rfl
/-- Whatever overlaps these keys is held by them. -/
def Closed (l : List Fl) (lo hi : List (BitVec 8)) : Prop := ∀ f ∈ l, ovK lo hi f = true → hoK lo hi f = true
structure Gat (l : List Fl) (f0 : Fl) (lo hi : List (BitVec 8)) : Prop where
  lom : ∃ f ∈ l, lo = f.least
  him : ∃ f ∈ l, hi = f.most
  hold : cle lo f0.least ∧ cle f0.most hi
  least : ∀ lo' hi', Closed l lo' hi' → cle lo' f0.least → cle f0.most hi' → cle lo' lo ∧ cle hi hi'
theorem Gat.start {l : List Fl} {f0 : Fl} (h : f0 ∈ l) : Gat l f0 f0.least f0.most := ⟨⟨f0, h, rfl⟩, ⟨f0, h, rfl⟩, ⟨cle_refl _, cle_refl _⟩, fun _ _ _ h1 h2 => ⟨h1, h2⟩⟩
def minB (f : Fl) (lo : List (BitVec 8)) : List (BitVec 8) := if cmpB f.least lo < 0 then f.least else lo
def maxB (f : Fl) (hi : List (BitVec 8)) : List (BitVec 8) := if 0 < cmpB f.most hi then f.most else hi
theorem withK_lo (k : Kk) (x : Tf) : (withK k x).lo = minB x.f k.lo := rfl
theorem withK_hi (k : Kk) (x : Tf) : (withK k x).hi = maxB x.f k.hi := rfl
theorem minB_le (f : Fl) (lo : List (BitVec 8)) : cle (minB f lo) lo ∧ cle (minB f lo) f.least := by
  unfold minB
  split
  · next h => exact ⟨by unfold cle; omega, cle_refl _⟩
  · next h => exact ⟨cle_refl _, by rw [cle_iff]; omega⟩
theorem maxB_le (f : Fl) (hi : List (BitVec 8)) : cle hi (maxB f hi) ∧ cle f.most (maxB f hi) := by
  unfold maxB
  split
  · next h => exact ⟨by rw [cle_iff]; omega, cle_refl _⟩
  · next h => exact ⟨cle_refl _, by unfold cle; omega⟩
theorem Gat.step {l : List Fl} {f0 f : Fl} {lo hi : List (BitVec 8)} (h : Gat l f0 lo hi) (hf : f ∈ l) (ho : ovK lo hi f = true) : Gat l f0 (minB f lo) (maxB f hi) := by
  obtain ⟨m1, m2⟩ := minB_le f lo
  obtain ⟨x1, x2⟩ := maxB_le f hi
  rw [ovK_iff] at ho
  refine ⟨?_, ?_, ⟨cle_trans m1 h.hold.1, cle_trans h.hold.2 x1⟩, fun lo' hi' hc h1 h2 => ?_⟩
  · unfold minB; split
    · exact ⟨f, hf, rfl⟩
    · exact h.lom
  · unfold maxB; split
    · exact ⟨f, hf, rfl⟩
    · exact h.him
  · obtain ⟨a1, a2⟩ := h.least lo' hi' hc h1 h2
    obtain ⟨b1, b2⟩ := hoK_iff.1 (hc f hf (ovK_iff.2 ⟨cle_trans a1 ho.1, cle_trans ho.2 a2⟩))
    unfold minB maxB
    exact ⟨by split <;> assumption, by split <;> assumption⟩
theorem countP_lt {α : Type} {p q : α → Bool} : ∀ {l : List α} {x : α}, (∀ y, q y = true → p y = true) → x ∈ l → p x = true → q x = false → l.countP q < l.countP p
  | [], _, _, h, _, _ => by cases h
  | a :: r, x, hm, h, hp, hq => by
    rw [List.countP_cons, List.countP_cons]
    have hle : r.countP q ≤ r.countP p := List.countP_mono_left fun y _ hy => hm y hy
    rcases List.mem_cons.1 h with rfl | h
    · rw [hp, hq]
      simp only [Bool.false_eq_true, if_false, if_true]
      omega
    · have := countP_lt hm h hp hq
      have : q a = true → p a = true := hm a
      cases hqa : q a <;> cases hpa : p a <;> simp_all <;> omega
def unheld (l : List Fl) (lo hi : List (BitVec 8)) : Nat := l.countP fun f => !hoK lo hi f
theorem unheld_lt {l : List Fl} {f : Fl} {lo hi : List (BitVec 8)} (hf : f ∈ l) (hh : hoK lo hi f = false) : unheld l (minB f lo) (maxB f hi) < unheld l lo hi := by
  obtain ⟨m1, m2⟩ := minB_le f lo
  obtain ⟨x1, x2⟩ := maxB_le f hi
  refine countP_lt (fun y hy => ?_) hf (by simp [hh]) ?_
  · simp only [Bool.not_eq_eq_eq_not, Bool.not_true] at hy ⊢
    cases hq : hoK lo hi y with
    | false => rfl
    | true =>
      obtain ⟨a1, a2⟩ := hoK_iff.1 hq
      rw [hoK_iff.2 ⟨cle_trans m1 a1, cle_trans a2 x1⟩] at hy
      cases hy
  · rw [hoK_iff.2 ⟨m2, x2⟩]; rfl
/-- Keys that are files' own. -/
def Kof (l : List Tf) (k : Kk) : Prop := ∃ x ∈ l, ∃ y ∈ l, k = ⟨x.la, x.lc, y.ma, y.mc, x.f.least, y.f.most⟩
theorem Kof.kb {w : World} {a : Option Addr} {l : List Tf} {k : Kk} (h : Kof l k) (hf : Fils w a l) : KB w k := by
  obtain ⟨x, hx, y, hy, rfl⟩ := h
  obtain ⟨i, hi⟩ := List.getElem?_of_mem hx
  obtain ⟨j, hj⟩ := List.getElem?_of_mem hy
  exact ⟨(hf i x hi).2.1, (hf j y hj).2.2⟩
theorem Kof.with {l : List Tf} {k : Kk} {z : Tf} (h : Kof l k) (hz : z ∈ l) : Kof l (withK k z) := by
  obtain ⟨x, hx, y, hy, rfl⟩ := h
  unfold withK
  simp only
  by_cases h1 : cmpB z.f.least x.f.least < 0 <;> by_cases h2 : 0 < cmpB z.f.most y.f.most <;> simp only [h1, h2, if_true, if_false]
  · exact ⟨z, hz, z, hz, rfl⟩
  · exact ⟨z, hz, y, hy, rfl⟩
  · exact ⟨x, hx, z, hz, rfl⟩
  · exact ⟨x, hx, y, hy, rfl⟩
end Go.Proofs.Ytkmcdjbadngfgaa
