/-
  Keys from a least to a greatest.
-/
import Derived.Test.YtkmcdjbadngfgaaPe
namespace Go.Proofs.Ytkmcdjbadngfgaa
open Go.RowKit
set_option maxRecDepth 100000
set_option maxHeartbeats 4000000
structure Kk where
  la : Option Addr
  lc : Nat
  ma : Option Addr
  mc : Nat
  lo : List (BitVec 8)
  hi : List (BitVec 8)
def Kk.agg (k : Kk) : Value := .agg #[.slice k.la k.lo.length k.lc, .slice k.ma k.hi.length k.mc]
def KB (w : World) (k : Kk) : Prop := Bytes w (.slice k.la k.lo.length k.lc) k.lo ∧ Bytes w (.slice k.ma k.hi.length k.mc) k.hi
theorem KB.quiet {w w' : World} {k : Kk} (h : KB w k) (t : Turns (fun _ => False) w w') : KB w' k := ⟨h.1.quiet t, h.2.quiet t⟩
def Tf.keys (x : Tf) : Kk := ⟨x.la, x.lc, x.ma, x.mc, x.f.least, x.f.most⟩
theorem sz72 : (Try.prog.info? 72).map (·.size) = some 2 := by kernel_rfl
theorem turns_setRow (w : World) (g : Nat) (cs : Array Value) : Turns (fun j => j = g) w (w.setRow g cs) := ⟨rfl, rfl, rfl, by simp, fun k _ hk => setRow_other _ _ _ _ hk⟩
theorem keysOf_any (x : Tf) (w : World) : Calls Try.prog 59 #[x.agg] w fun e w' => e = .returned x.keys.agg ∧ Turns (fun _ => False) w w' := by
  obtain ⟨la, lc, ma, mc, ⟨no, sz, ls, ms, en, sq⟩⟩ := x
  unfold Tf.keys Kk.agg Tf.agg
  simp only at *
  generalize ls.length = L1
  generalize ms.length = L2
  have R := hide (heap_alloc_new (w.alloc (.cells #[.int .u64 (no : Nat), .int .i64 sz, .slice la L1 lc, .slice ma L2 mc, .int .i64 en, .int .u64 (sq : Nat)] 29)) (.cells #[.slice none 0 0, .slice none 0 0] 72))
  have TB := hide (((Turns.refl (fun _ => False) w).alloc (.cells #[.int .u64 (no : Nat), .int .i64 sz, .slice la L1 lc, .slice ma L2 mc, .int .i64 en, .int .u64 (sq : Nat)] 29)).alloc (.cells #[.slice none 0 0, .slice none 0 0] 72))
  simp only [World.size_alloc] at R
  go_enter Try.func59, Try.ntmps59
  go_wp2_with (refine wpList_store_row rfl 72 _ _ rfl _ _ rfl rfl _ _ R.out ?_ ?_ ?_ ?_; (exact sz72); (simp only [List.size_toArray, List.length_cons, List.length_nil]); (simp [Value.oneCell']))
  refine bodyPost_ret (v := .agg #[.slice la L1 lc, .slice ma L2 mc]) ?_ rfl ?_
  · exact results_cell_row Try.results59 _ _ _ _ _ _ _ rfl (setRow_heap _ _ _ _ _ _ R.out) Try.underlying72 rfl sz72
  · exact ⟨rfl, TB.out.andThen (turns_setRow _ _ _) fun j hj e => by omega⟩
theorem and_tt {P Q : Prop} [Decidable P] [Decidable Q] (p : P) (q : Q) : (decide P && decide Q) = true := by rw [decide_eq_true p, decide_eq_true q]; rfl
theorem and_tf {P Q : Prop} [Decidable P] [Decidable Q] (q : ¬ Q) : (decide P && decide Q) = false := by rw [decide_eq_false q, Bool.and_false]
theorem and_f {P Q : Prop} [Decidable P] [Decidable Q] (p : ¬ P) : (decide P && decide Q) = false := by rw [decide_eq_false p, Bool.false_and]
def ovK (lo hi : List (BitVec 8)) (f : Fl) : Bool := decide (0 ≤ cmpB f.most lo) && decide (cmpB f.least hi ≤ 0)
def hoK (lo hi : List (BitVec 8)) (f : Fl) : Bool := decide (0 ≤ cmpB f.least lo) && decide (cmpB f.most hi ≤ 0)
theorem koverlap_any (k : Kk) (x : Tf) (w : World) (h : KB w k) (h' : FB w x) : Calls Try.prog 76 #[k.agg, x.agg] w fun e w' => e = .returned (.bool (ovK k.lo k.hi x.f)) ∧ Turns (fun _ => False) w w' := by
  obtain ⟨la, lc, ma, mc, ⟨no, sz, ls, ms, en, sq⟩⟩ := x
  obtain ⟨ka, kc, ja, jc, lo, hi⟩ := k
  have TA := hide (((Turns.refl (fun _ => False) w).alloc (.cells #[.slice ka lo.length kc, .slice ja hi.length jc] 72)).alloc (.cells #[.int .u64 (no : Nat), .int .i64 sz, .slice la ls.length lc, .slice ma ms.length mc, .int .i64 en, .int .u64 (sq : Nat)] 29))
  have C1 := hide (compareB_any ma ka ms.length lo.length mc kc ms lo _ (h'.quiet TA.out).2 (h.quiet TA.out).1)
  have C2 := hide (compareB_any la ja ls.length hi.length lc jc ls hi _ (h'.quiet TA.out).1 (h.quiet TA.out).2)
  have HO := hide (show ovK lo hi ⟨no, sz, ls, ms, en, sq⟩ = (decide (0 ≤ cmpB ms lo) && decide (cmpB ls hi ≤ 0)) from rfl)
  clear h h'
  unfold Kk.agg Tf.agg
  simp only at *
  generalize ovK lo hi ⟨no, sz, ls, ms, en, sq⟩ = R at *
  generalize ls.length = L1 at *
  generalize ms.length = L2 at *
  generalize lo.length = L3 at *
  generalize hi.length = L4 at *
  generalize cmpB ms lo = X1 at *
  generalize cmpB ls hi = X2 at *
  by_cases x1 : 0 ≤ X1
  · by_cases x2 : X2 ≤ 0
    · go_enter Try.func76, Try.ntmps76
      go_wp2_with fail
      refine C1.out.mono ?_
      rintro e w1 ⟨rfl, rfl⟩
      go_wp2_with fail
      refine C2.out.mono ?_
      rintro e w1 ⟨rfl, rfl⟩
      go_wp2_with fail
      go_ret
      exact ⟨by rw [HO.out, and_tt (by omega) (by omega)]; rfl, TA.out⟩
    · go_enter Try.func76, Try.ntmps76
      go_wp2_with fail
      refine C1.out.mono ?_
      rintro e w1 ⟨rfl, rfl⟩
      go_wp2_with fail
      refine C2.out.mono ?_
      rintro e w1 ⟨rfl, rfl⟩
      go_wp2_with fail
      go_ret
      exact ⟨congrArg (fun b => Ending.returned (Value.bool b)) (show decide (X2 ≤ 0) = R by rw [HO.out, and_tf (show ¬ X2 ≤ 0 by omega), decide_eq_false (show ¬ X2 ≤ 0 by omega)]), TA.out⟩
  · go_enter Try.func76, Try.ntmps76
    go_wp2_with fail
    refine C1.out.mono ?_
    rintro e w1 ⟨rfl, rfl⟩
    go_wp2_with fail
    go_ret
    exact ⟨by rw [HO.out, and_f (by omega)]; rfl, TA.out⟩
theorem khold_any (k : Kk) (x : Tf) (w : World) (h : KB w k) (h' : FB w x) : Calls Try.prog 77 #[k.agg, x.agg] w fun e w' => e = .returned (.bool (hoK k.lo k.hi x.f)) ∧ Turns (fun _ => False) w w' := by
  obtain ⟨la, lc, ma, mc, ⟨no, sz, ls, ms, en, sq⟩⟩ := x
  obtain ⟨ka, kc, ja, jc, lo, hi⟩ := k
  have TA := hide (((Turns.refl (fun _ => False) w).alloc (.cells #[.slice ka lo.length kc, .slice ja hi.length jc] 72)).alloc (.cells #[.int .u64 (no : Nat), .int .i64 sz, .slice la ls.length lc, .slice ma ms.length mc, .int .i64 en, .int .u64 (sq : Nat)] 29))
  have C1 := hide (compareB_any la ka ls.length lo.length lc kc ls lo _ (h'.quiet TA.out).1 (h.quiet TA.out).1)
  have C2 := hide (compareB_any ma ja ms.length hi.length mc jc ms hi _ (h'.quiet TA.out).2 (h.quiet TA.out).2)
  have HO := hide (show hoK lo hi ⟨no, sz, ls, ms, en, sq⟩ = (decide (0 ≤ cmpB ls lo) && decide (cmpB ms hi ≤ 0)) from rfl)
  clear h h'
  unfold Kk.agg Tf.agg
  simp only at *
  generalize hoK lo hi ⟨no, sz, ls, ms, en, sq⟩ = R at *
  generalize ls.length = L1 at *
  generalize ms.length = L2 at *
  generalize lo.length = L3 at *
  generalize hi.length = L4 at *
  generalize cmpB ls lo = X1 at *
  generalize cmpB ms hi = X2 at *
  by_cases x1 : 0 ≤ X1
  · by_cases x2 : X2 ≤ 0
    · go_enter Try.func77, Try.ntmps77
      go_wp2_with fail
      refine C1.out.mono ?_
      rintro e w1 ⟨rfl, rfl⟩
      go_wp2_with fail
      refine C2.out.mono ?_
      rintro e w1 ⟨rfl, rfl⟩
      go_wp2_with fail
      go_ret
      exact ⟨by rw [HO.out, and_tt (by omega) (by omega)]; rfl, TA.out⟩
    · go_enter Try.func77, Try.ntmps77
      go_wp2_with fail
      refine C1.out.mono ?_
      rintro e w1 ⟨rfl, rfl⟩
      go_wp2_with fail
      refine C2.out.mono ?_
      rintro e w1 ⟨rfl, rfl⟩
      go_wp2_with fail
      go_ret
      exact ⟨congrArg (fun b => Ending.returned (Value.bool b)) (show decide (X2 ≤ 0) = R by rw [HO.out, and_tf (show ¬ X2 ≤ 0 by omega), decide_eq_false (show ¬ X2 ≤ 0 by omega)]), TA.out⟩
  · go_enter Try.func77, Try.ntmps77
    go_wp2_with fail
    refine C1.out.mono ?_
    rintro e w1 ⟨rfl, rfl⟩
    go_wp2_with fail
    go_ret
    exact ⟨by rw [HO.out, and_f (by omega)]; rfl, TA.out⟩
def withK (k : Kk) (x : Tf) : Kk :=
  ⟨if cmpB x.f.least k.lo < 0 then x.la else k.la, if cmpB x.f.least k.lo < 0 then x.lc else k.lc, if 0 < cmpB x.f.most k.hi then x.ma else k.ma, if 0 < cmpB x.f.most k.hi then x.mc else k.mc, if cmpB x.f.least k.lo < 0 then x.f.least else k.lo, if 0 < cmpB x.f.most k.hi then x.f.most else k.hi⟩
theorem withK_kb {w : World} {k : Kk} {x : Tf} (h : KB w k) (h' : FB w x) : KB w (withK k x) := by
  unfold withK KB
  constructor
  · by_cases h1 : cmpB x.f.least k.lo < 0
    · simp only [h1, if_true]; exact h'.1
    · simp only [h1, if_false]; exact h.1
  · by_cases h1 : 0 < cmpB x.f.most k.hi
    · simp only [h1, if_true]; exact h'.2
    · simp only [h1, if_false]; exact h.2
theorem kwith_any (k : Kk) (x : Tf) (w : World) (h : KB w k) (h' : FB w x) : Calls Try.prog 47 #[k.agg, x.agg] w fun e w' => e = .returned (withK k x).agg ∧ Turns (fun _ => False) w w' := by
  obtain ⟨la, lc, ma, mc, ⟨no, sz, ls, ms, en, sq⟩⟩ := x
  obtain ⟨ka, kc, ja, jc, lo, hi⟩ := k
  have HO := hide (show (withK ⟨ka, kc, ja, jc, lo, hi⟩ ⟨la, lc, ma, mc, ⟨no, sz, ls, ms, en, sq⟩⟩).agg = .agg #[.slice (if cmpB ls lo < 0 then la else ka) (if cmpB ls lo < 0 then ls.length else lo.length) (if cmpB ls lo < 0 then lc else kc), .slice (if 0 < cmpB ms hi then ma else ja) (if 0 < cmpB ms hi then ms.length else hi.length) (if 0 < cmpB ms hi then mc else jc)] by
    unfold withK Kk.agg
    simp only
    by_cases h1 : cmpB ls lo < 0 <;> by_cases h2 : 0 < cmpB ms hi <;> simp only [h1, h2, if_true, if_false])
  have CA := hide (fun (u : World) (tu : Turns (fun _ => False) w u) => compareB_any la ka ls.length lo.length lc kc ls lo u (h'.quiet tu).1 (h.quiet tu).1)
  have CB := hide (fun (u : World) (tu : Turns (fun _ => False) w u) => compareB_any ma ja ms.length hi.length mc jc ms hi u (h'.quiet tu).2 (h.quiet tu).2)
  clear h h'
  unfold Kk.agg Tf.agg at *
  simp only at *
  generalize (Value.agg #[.slice (withK ⟨ka, kc, ja, jc, lo, hi⟩ ⟨la, lc, ma, mc, ⟨no, sz, ls, ms, en, sq⟩⟩).la (withK ⟨ka, kc, ja, jc, lo, hi⟩ ⟨la, lc, ma, mc, ⟨no, sz, ls, ms, en, sq⟩⟩).lo.length (withK ⟨ka, kc, ja, jc, lo, hi⟩ ⟨la, lc, ma, mc, ⟨no, sz, ls, ms, en, sq⟩⟩).lc, .slice (withK ⟨ka, kc, ja, jc, lo, hi⟩ ⟨la, lc, ma, mc, ⟨no, sz, ls, ms, en, sq⟩⟩).ma (withK ⟨ka, kc, ja, jc, lo, hi⟩ ⟨la, lc, ma, mc, ⟨no, sz, ls, ms, en, sq⟩⟩).hi.length (withK ⟨ka, kc, ja, jc, lo, hi⟩ ⟨la, lc, ma, mc, ⟨no, sz, ls, ms, en, sq⟩⟩).mc]) = RV at *
  generalize ls.length = L1 at *
  generalize ms.length = L2 at *
  generalize lo.length = L3 at *
  generalize hi.length = L4 at *
  generalize cmpB ls lo = X1 at *
  generalize cmpB ms hi = X2 at *
  have R0 := hide (((Turns.refl (fun _ => False) (w.alloc (.cells #[.slice ka L3 kc, .slice ja L4 jc] 72))).alloc (.cells #[.int .u64 (no : Nat), .int .i64 sz, .slice la L1 lc, .slice ma L2 mc, .int .i64 en, .int .u64 (sq : Nat)] 29)).alloc (.cells #[.slice none 0 0, .slice none 0 0] 72) |>.heap (heap_alloc_new w (.cells #[.slice ka L3 kc, .slice ja L4 jc] 72)) (fun x => x))
  have R2 := hide (heap_alloc_new ((w.alloc (.cells #[.slice ka L3 kc, .slice ja L4 jc] 72)).alloc (.cells #[.int .u64 (no : Nat), .int .i64 sz, .slice la L1 lc, .slice ma L2 mc, .int .i64 en, .int .u64 (sq : Nat)] 29)) (.cells #[.slice none 0 0, .slice none 0 0] 72))
  have TB := hide ((((Turns.refl (fun _ => False) w).alloc (.cells #[.slice ka L3 kc, .slice ja L4 jc] 72)).alloc (.cells #[.int .u64 (no : Nat), .int .i64 sz, .slice la L1 lc, .slice ma L2 mc, .int .i64 en, .int .u64 (sq : Nat)] 29)).alloc (.cells #[.slice none 0 0, .slice none 0 0] 72))
  have R1 := hide ((((Turns.refl (fun _ => False) ((w.alloc (.cells #[.slice ka L3 kc, .slice ja L4 jc] 72)).alloc (.cells #[.int .u64 (no : Nat), .int .i64 sz, .slice la L1 lc, .slice ma L2 mc, .int .i64 en, .int .u64 (sq : Nat)] 29)))).alloc (.cells #[.slice none 0 0, .slice none 0 0] 72)).heap (heap_alloc_new (w.alloc (.cells #[.slice ka L3 kc, .slice ja L4 jc] 72)) (.cells #[.int .u64 (no : Nat), .int .i64 sz, .slice la L1 lc, .slice ma L2 mc, .int .i64 en, .int .u64 (sq : Nat)] 29)) (fun x => x))
  simp only [World.size_alloc] at R1 R2
  go_enter Try.func47, Try.ntmps47
  go_wp2_with fail
  generalize hw0 : ((w.alloc (.cells #[.slice ka L3 kc, .slice ja L4 jc] 72)).alloc (.cells #[.int .u64 (no : Nat), .int .i64 sz, .slice la L1 lc, .slice ma L2 mc, .int .i64 en, .int .u64 (sq : Nat)] 29)).alloc (.cells #[.slice none 0 0, .slice none 0 0] 72) = w0 at *
  generalize hP : w.heap.size = P at *
  have HP := hide hP
  clear hw0 hP
  refine (CA.out _ TB.out).mono ?_
  rintro e w1 ⟨rfl, rfl⟩
  have p0 := cell_of_row w1 P 0 _ 72 (0, 0) R0.out
  have p1 := cell_of_row w1 P 1 _ 72 (0, 0) R0.out
  have q2 := cell_of_row w1 (P + 1) 2 _ 29 (0, 0) R1.out
  have q3 := cell_of_row w1 (P + 1) 3 _ 29 (0, 0) R1.out
  have fz := frozen_of_row w1 P 0 _ 72 R0.out
  --PATHS
  by_cases x1 : X1 < 0
  · have TK := hide ((Tick.refl R0.out).set 0 (.slice la L1 lc))
    go_wp2_with fail
    refine (CB.out _ (TB.out.andThen (Turns.of_tick TK.out) fun j hj e => by have := HP.out; omega)).mono ?_
    rintro e w2 ⟨rfl, hw2⟩
    rw [← hw2] at TK
    clear hw2
    have p0 : w2.cell? ⟨P, 0, none⟩ = some (.slice la L1 lc) := TK.out.cell 0
    have p1 : w2.cell? ⟨P, 1, none⟩ = some (.slice ja L4 jc) := TK.out.cell 1
    have q2 := cell_of_row w2 (P + 1) 2 _ 29 (0, 0) ((Turns.of_tick TK.out).heap R1.out (show ¬ P + 1 = P by omega))
    have q3 := cell_of_row w2 (P + 1) 3 _ 29 (0, 0) ((Turns.of_tick TK.out).heap R1.out (show ¬ P + 1 = P by omega))
    have fz := TK.out.frozen 1
    by_cases x2 : 0 < X2
    · have TK2 := hide (TK.out.set 1 (.slice ma L2 mc))
      have r3 := (Turns.of_tick TK2.out).heap R2.out (show ¬ P + 1 + 1 = P by omega)
      go_wp2_with (refine wpList_store_row rfl 72 _ _ rfl _ _ rfl rfl _ _ r3 ?_ ?_ ?_ ?_; (exact sz72); (simp only [List.size_toArray, List.length_cons, List.length_nil]); (simp [Value.oneCell']))
      refine bodyPost_ret (v := .agg #[.slice la L1 lc, .slice ma L2 mc]) ?_ rfl ?_
      · exact results_cell_row Try.results47 _ _ _ _ _ _ _ rfl (setRow_heap _ _ _ _ _ _ r3) Try.underlying72 rfl sz72
      · exact ⟨by rw [HO.out]; simp only [if_pos x1, if_pos x2], (TB.out.andThen (Turns.of_tick TK2.out) fun j hj e => by have := HP.out; omega).andThen (turns_setRow _ _ _) fun j hj e => by have := HP.out; omega⟩
    · have r3 := (Turns.of_tick TK.out).heap R2.out (show ¬ P + 1 + 1 = P by omega)
      go_wp2_with (refine wpList_store_row rfl 72 _ _ rfl _ _ rfl rfl _ _ r3 ?_ ?_ ?_ ?_; (exact sz72); (simp only [List.size_toArray, List.length_cons, List.length_nil]); (simp [Value.oneCell']))
      refine bodyPost_ret (v := .agg #[.slice la L1 lc, .slice ja L4 jc]) ?_ rfl ?_
      · exact results_cell_row Try.results47 _ _ _ _ _ _ _ rfl (setRow_heap _ _ _ _ _ _ r3) Try.underlying72 rfl sz72
      · exact ⟨by rw [HO.out]; simp only [if_pos x1, if_neg (show ¬ 0 < X2 by omega)], (TB.out.andThen (Turns.of_tick TK.out) fun j hj e => by have := HP.out; omega).andThen (turns_setRow _ _ _) fun j hj e => by have := HP.out; omega⟩
  · have TK := hide (Tick.refl R0.out)
    go_wp2_with fail
    refine (CB.out _ (TB.out.andThen (Turns.of_tick TK.out) fun j hj e => by have := HP.out; omega)).mono ?_
    rintro e w2 ⟨rfl, hw2⟩
    subst hw2
    have p0 : w2.cell? ⟨P, 0, none⟩ = some (.slice ka L3 kc) := TK.out.cell 0
    have p1 : w2.cell? ⟨P, 1, none⟩ = some (.slice ja L4 jc) := TK.out.cell 1
    have q2 := cell_of_row w2 (P + 1) 2 _ 29 (0, 0) ((Turns.of_tick TK.out).heap R1.out (show ¬ P + 1 = P by omega))
    have q3 := cell_of_row w2 (P + 1) 3 _ 29 (0, 0) ((Turns.of_tick TK.out).heap R1.out (show ¬ P + 1 = P by omega))
    have fz := TK.out.frozen 1
    by_cases x2 : 0 < X2
    · have TK2 := hide (TK.out.set 1 (.slice ma L2 mc))
      have r3 := (Turns.of_tick TK2.out).heap R2.out (show ¬ P + 1 + 1 = P by omega)
      go_wp2_with (refine wpList_store_row rfl 72 _ _ rfl _ _ rfl rfl _ _ r3 ?_ ?_ ?_ ?_; (exact sz72); (simp only [List.size_toArray, List.length_cons, List.length_nil]); (simp [Value.oneCell']))
      refine bodyPost_ret (v := .agg #[.slice ka L3 kc, .slice ma L2 mc]) ?_ rfl ?_
      · exact results_cell_row Try.results47 _ _ _ _ _ _ _ rfl (setRow_heap _ _ _ _ _ _ r3) Try.underlying72 rfl sz72
      · exact ⟨by rw [HO.out]; simp only [if_neg (show ¬ X1 < 0 by omega), if_pos x2], (TB.out.andThen (Turns.of_tick TK2.out) fun j hj e => by have := HP.out; omega).andThen (turns_setRow _ _ _) fun j hj e => by have := HP.out; omega⟩
    · have r3 := (Turns.of_tick TK.out).heap R2.out (show ¬ P + 1 + 1 = P by omega)
      go_wp2_with (refine wpList_store_row rfl 72 _ _ rfl _ _ rfl rfl _ _ r3 ?_ ?_ ?_ ?_; (exact sz72); (simp only [List.size_toArray, List.length_cons, List.length_nil]); (simp [Value.oneCell']))
      refine bodyPost_ret (v := .agg #[.slice ka L3 kc, .slice ja L4 jc]) ?_ rfl ?_
      · exact results_cell_row Try.results47 _ _ _ _ _ _ _ rfl (setRow_heap _ _ _ _ _ _ r3) Try.underlying72 rfl sz72
      · exact ⟨by rw [HO.out]; simp only [if_neg (show ¬ X1 < 0 by omega), if_neg (show ¬ 0 < X2 by omega)], (TB.out.andThen (Turns.of_tick TK.out) fun j hj e => by have := HP.out; omega).andThen (turns_setRow _ _ _) fun j hj e => by have := HP.out; omega⟩
end Go.Proofs.Ytkmcdjbadngfgaa
