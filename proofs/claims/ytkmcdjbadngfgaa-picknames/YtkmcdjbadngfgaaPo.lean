/-
  The chapter's examples: the law's walk.
-/
import Derived.Test.YtkmcdjbadngfgaaPn
import Derived.Test.YtkmcdjbadngfgaaTx
namespace Go.Proofs.Ytkmcdjbadngfgaa
open Go.RowKit
set_option maxRecDepth 100000
set_option maxHeartbeats 4000000
theorem ev3 : ScoreP (exV [] [exF 1 250 97 98]) 9 0 0 2 100 10 1 = 250 ∧ restP (exV [] [exF 1 250 97 98]) 9 0 0 2 100 10 = false ∧ boundP 2 100 10 3 = 10000 ∧ boundP 2 100 10 4 = 0 ∧ setE 0 0 0 = 2 := by decide
theorem names_any (w : World) : Calls Try.prog 3 #[] w fun e w' => e = .returned (.bool true) ∧ Turns (fun _ => False) w w' := by
  have FI := hide file1_any
  have VE := hide version_any
  have SE := hide setup_any
  have LI := hide lives_any
  obtain ⟨e1, e2, e3, e4, e5⟩ := ev3
  have B3 := hide (fun u => bound_any 2 100 10 3 u)
  have B4 := hide (fun u => bound_any 2 100 10 4 u)
  have CK := hide (fun u => checkSetup_any 0 0 0 u)
  rw [e3] at B3
  rw [e4] at B4
  rw [e5] at CK
  unfold setAgg at *
  clear e3 e4 e5
  have E12 := hide (And.intro e1 e2)
  clear e1 e2
  go_enter Try.func3, Try.ntmps3
  go_wp2_with fail
  refine (FI.out 1 250 97 98 _).mono ?_
  rintro e w1 ⟨la, lc, ma, mc, rfl, hb, t⟩
  have T := hide t
  have B := hide hb
  clear hb t
  go_wp2_with fail
  have tA : Turns (fun _ => False) w1 (w1.alloc (.cells #[.int .u64 1, .int .i64 250, .slice la 1 lc, .slice ma 1 mc, .int .i64 1, .int .u64 1] 29)) := (Turns.refl _ _).alloc _
  have HF := hide (fils_lit (R := [⟨la, lc, ma, mc, exF 1 250 97 98⟩]) (show (w1.alloc (.cells #[.int .u64 1, .int .i64 250, .slice la 1 lc, .slice ma 1 mc, .int .i64 1, .int .u64 1] 29)).heap[w1.heap.size]? = some (.cells (flCells [⟨la, lc, ma, mc, exF 1 250 97 98⟩]).toArray 29 (0, 0)) from heap_alloc_new w1 (.cells #[.int .u64 1, .int .i64 250, .slice la 1 lc, .slice ma 1 mc, .int .i64 1, .int .u64 1] 29)) (fun x hx => by
    simp only [List.mem_cons, List.not_mem_nil, or_false] at hx
    rcases hx with rfl
    exact B.out.quiet tA))
  refine (VE.out none (some ⟨w1.heap.size, 0, none⟩) 0 1 0 1 _).mono ?_
  rintro e w4 ⟨g, rfl, hg, t⟩
  replace T := hide ((T.out.trans tA).trans t)
  have HV := hide (two_in (l0 := []) (l1 := [⟨la, lc, ma, mc, exF 1 250 97 98⟩]) hg (fils_nil _) (HF.out.quiet t) (by simp) (fun y hy => by
    simp only [List.mem_append, List.mem_cons, List.not_mem_nil, or_false, false_or] at hy
    rcases hy with rfl
    exact ⟨Nat.le_of_ble_eq_true rfl, Nat.le_of_ble_eq_true rfl, Nat.le_of_ble_eq_true rfl⟩))
  clear hg t tA HF B
  unfold verAgg
  go_upto_region 2 with (fail)
  obtain ⟨w5, hw5⟩ : ∃ u, u = w4.alloc (.cells #[.slice (some ⟨g, 0, none⟩) 5 5, .int .u64 9, .int .u64 0, .int .u64 0] 25) := ⟨_, rfl⟩
  rw [← hw5]
  have T5 := hide (show Turns (fun _ => False) w4 w5 by rw [hw5]; exact (Turns.refl _ _).alloc _)
  have RV := hide (show w5.heap[w4.heap.size]? = some (.cells #[.slice (some ⟨g, 0, none⟩) 5 5, .int .u64 9, .int .u64 0, .int .u64 0] 25) by rw [hw5]; exact heap_alloc_new _ _)
  clear hw5
  generalize w4.heap.size = P at *
  have SC := hide (fun (u : World) (tu : Turns (fun _ => False) w5 u) => Score_any _ _ 5 _ _ _ _ 2 100 10 1 u (HV.out.quiet (T5.out.trans tu)))
  have RE := hide (fun (u : World) (tu : Turns (fun _ => False) w5 u) => rest_any _ _ 5 _ _ _ _ 2 100 10 u (HV.out.quiet (T5.out.trans tu)))
  unfold verAgg setAgg at SC RE
  have q1 : ScoreP (flL [⟨none, 0, []⟩, ⟨some ⟨w1.heap.size, 0, none⟩, 1, [⟨la, lc, ma, mc, exF 1 250 97 98⟩]⟩, ⟨none, 0, []⟩, ⟨none, 0, []⟩, ⟨none, 0, []⟩]) 9 0 0 2 100 10 1 = 250 := E12.out.1
  have q2 : restP (flL [⟨none, 0, []⟩, ⟨some ⟨w1.heap.size, 0, none⟩, 1, [⟨la, lc, ma, mc, exF 1 250 97 98⟩]⟩, ⟨none, 0, []⟩, ⟨none, 0, []⟩, ⟨none, 0, []⟩]) 9 0 0 2 100 10 = false := E12.out.2
  rw [q1] at SC
  rw [q2] at RE
  clear q1 q2 E12 HV FI VE
  have tV : Turns (fun _ => False) w5 w5.drew := (Turns.refl _ _).drew
  have SK := hide (fun (u : World) (t : Turns (fun _ => False) w5 u) => show u.cell? ⟨P, 0, none⟩ = some (.slice (some ⟨g, 0, none⟩) 5 5) ∧ u.cell? ⟨P, 1, none⟩ = some (.int .u64 9) ∧ u.cell? ⟨P, 2, none⟩ = some (.int .u64 0) ∧ u.cell? ⟨P, 3, none⟩ = some (.int .u64 0) from ⟨cell_of_row u P 0 _ 25 (0, 0) (t.heap RV.out (fun x => x)), cell_of_row u P 1 _ 25 (0, 0) (t.heap RV.out (fun x => x)), cell_of_row u P 2 _ 25 (0, 0) (t.heap RV.out (fun x => x)), cell_of_row u P 3 _ 25 (0, 0) (t.heap RV.out (fun x => x))⟩)
  refine wp_region_held_drew (S := fun u => u.cell? ⟨P, 0, none⟩ = some (.slice (some ⟨g, 0, none⟩) 5 5) ∧ u.cell? ⟨P, 1, none⟩ = some (.int .u64 9) ∧ u.cell? ⟨P, 2, none⟩ = some (.int .u64 0) ∧ u.cell? ⟨P, 3, none⟩ = some (.int .u64 0)) (by kernel_rfl) (SK.out _ tV) (fun _ => ?_)
  change wpAnyH _ _ _ _ _ 29 (Array.replicate 29 false) _ _
  refine wpAnyH_ready (rs := [0]) (by kernel_rfl) (by simp) ?_
  refine AllReadyH.cons rfl (fun K hK => ?_) AllReadyH.nil
  go_simp
  refine (LI.out _).mono ?_
  rintro oo Vn ⟨rfl, tC⟩
  have tN := tC
  have tV := tV.trans tN
  clear tC
  clear tN
  go_simp
  refine hK.out _ _ (SK.out _ tV) (fun _ => ?_)
  clear hK K
  refine wpAnyH_take (i := 1) (oi := { dst := some 6, op := Op.move (Operand.tmp 5), type := 4, pos := "law.go:44", after := #[{ on := 0, ground := Ground.data }, { on := 0, ground := Ground.chain }], guard := none }) (v := .bool true) rfl (by kernel_rfl) (by kernel_rfl) (by kernel_rfl) (fun _ _ _ h => h) (Or.inl ⟨by rfl, ?_⟩) (SK.out _ tV) ?_
  · rintro w ⟨s0, s1, s2, s3⟩
    go_simp
  simp only [Act.put, List.setIfInBounds_toArray, List.set_cons_zero, List.set_cons_succ]
  refine wpAnyH_take (i := 2) (oi := { dst := some 7, op := Op.load 25 (Operand.tmp 1), type := 25, pos := "law.go:44", after := #[{ on := 1, ground := Ground.guard }], guard := some (1, true) }) (v := .agg #[.slice (some ⟨g, 0, none⟩) 5 5, .int .u64 9, .int .u64 0, .int .u64 0]) rfl (by kernel_rfl) (by kernel_rfl) (by kernel_rfl) (fun _ _ _ h => h) (Or.inl ⟨by rfl, ?_⟩) (SK.out _ tV) ?_
  · rintro w ⟨s0, s1, s2, s3⟩
    go_simp
  simp only [Act.put, List.setIfInBounds_toArray, List.set_cons_zero, List.set_cons_succ]
  refine wpAnyH_ready (rs := [3]) (by kernel_rfl) (by simp) ?_
  refine AllReadyH.cons rfl (fun K hK => ?_) AllReadyH.nil
  go_simp
  refine (SE.out _).mono ?_
  rintro oo Vn ⟨rfl, tC⟩
  have tN := tC
  have tV := tV.trans tN
  clear tC
  clear tN
  go_simp
  refine hK.out _ _ (SK.out _ tV) (fun _ => ?_)
  clear hK K
  refine wpAnyH_ready (rs := [4]) (by kernel_rfl) (by simp) ?_
  refine AllReadyH.cons rfl (fun K hK => ?_) AllReadyH.nil
  go_simp
  refine (SC.out _ tV).mono ?_
  rintro oo Vn ⟨rfl, tC⟩
  have tN := tC
  have tV := tV.trans tN
  clear tC
  clear tN
  go_simp
  refine hK.out _ _ (SK.out _ tV) (fun _ => ?_)
  clear hK K
  refine wpAnyH_take (i := 5) (oi := { dst := some 10, op := Op.binOp BinOp.eql 3 (Operand.tmp 9) (Operand.const (Value.int IntKind.i64 250)) 3, type := 4, pos := "law.go:44", after := #[{ on := 4, ground := Ground.data }, { on := 1, ground := Ground.guard }], guard := some (1, true) }) (v := .bool true) rfl (by kernel_rfl) (by kernel_rfl) (by kernel_rfl) (fun _ _ _ h => h) (Or.inl ⟨by rfl, ?_⟩) (SK.out _ tV) ?_
  · rintro w ⟨s0, s1, s2, s3⟩
    go_simp
  simp only [Act.put, List.setIfInBounds_toArray, List.set_cons_zero, List.set_cons_succ]
  refine wpAnyH_take (i := 6) (oi := { dst := some 11, op := Op.pick (Operand.tmp 6) (Operand.tmp 10) (Operand.const (Value.bool false)), type := 4, pos := "law.go:44", after := #[{ on := 1, ground := Ground.data }, { on := 5, ground := Ground.data }], guard := none }) (v := .bool true) rfl (by kernel_rfl) (by kernel_rfl) (by kernel_rfl) (fun _ _ _ h => h) (Or.inl ⟨by rfl, ?_⟩) (SK.out _ tV) ?_
  · rintro w ⟨s0, s1, s2, s3⟩
    go_simp
  simp only [Act.put, List.setIfInBounds_toArray, List.set_cons_zero, List.set_cons_succ]
  refine wpAnyH_take (i := 7) (oi := { dst := some 12, op := Op.move (Operand.tmp 11), type := 4, pos := "law.go:44", after := #[{ on := 6, ground := Ground.data }, { on := 4, ground := Ground.chain }], guard := none }) (v := .bool true) rfl (by kernel_rfl) (by kernel_rfl) (by kernel_rfl) (fun _ _ _ h => h) (Or.inl ⟨by rfl, ?_⟩) (SK.out _ tV) ?_
  · rintro w ⟨s0, s1, s2, s3⟩
    go_simp
  simp only [Act.put, List.setIfInBounds_toArray, List.set_cons_zero, List.set_cons_succ]
  refine wpAnyH_ready (rs := [8]) (by kernel_rfl) (by simp) ?_
  refine AllReadyH.cons rfl (fun K hK => ?_) AllReadyH.nil
  go_simp
  refine (SE.out _).mono ?_
  rintro oo Vn ⟨rfl, tC⟩
  have tN := tC
  have tV := tV.trans tN
  clear tC
  clear tN
  go_simp
  refine hK.out _ _ (SK.out _ tV) (fun _ => ?_)
  clear hK K
  refine wpAnyH_ready (rs := [9]) (by kernel_rfl) (by simp) ?_
  refine AllReadyH.cons rfl (fun K hK => ?_) AllReadyH.nil
  go_simp
  refine (B3.out _).mono ?_
  rintro oo Vn ⟨rfl, tC⟩
  have tN := tC
  have tV := tV.trans tN
  clear tC
  clear tN
  go_simp
  refine hK.out _ _ (SK.out _ tV) (fun _ => ?_)
  clear hK K
  refine wpAnyH_take (i := 10) (oi := { dst := some 15, op := Op.binOp BinOp.eql 3 (Operand.tmp 14) (Operand.const (Value.int IntKind.i64 10000)) 3, type := 4, pos := "law.go:44", after := #[{ on := 9, ground := Ground.data }, { on := 7, ground := Ground.guard }], guard := some (7, true) }) (v := .bool true) rfl (by kernel_rfl) (by kernel_rfl) (by kernel_rfl) (fun _ _ _ h => h) (Or.inl ⟨by rfl, ?_⟩) (SK.out _ tV) ?_
  · rintro w ⟨s0, s1, s2, s3⟩
    go_simp
  simp only [Act.put, List.setIfInBounds_toArray, List.set_cons_zero, List.set_cons_succ]
  refine wpAnyH_take (i := 11) (oi := { dst := some 16, op := Op.pick (Operand.tmp 12) (Operand.tmp 15) (Operand.const (Value.bool false)), type := 4, pos := "law.go:44", after := #[{ on := 7, ground := Ground.data }, { on := 10, ground := Ground.data }], guard := none }) (v := .bool true) rfl (by kernel_rfl) (by kernel_rfl) (by kernel_rfl) (fun _ _ _ h => h) (Or.inl ⟨by rfl, ?_⟩) (SK.out _ tV) ?_
  · rintro w ⟨s0, s1, s2, s3⟩
    go_simp
  simp only [Act.put, List.setIfInBounds_toArray, List.set_cons_zero, List.set_cons_succ]
  refine wpAnyH_take (i := 12) (oi := { dst := some 17, op := Op.move (Operand.tmp 16), type := 4, pos := "law.go:44", after := #[{ on := 11, ground := Ground.data }, { on := 9, ground := Ground.chain }], guard := none }) (v := .bool true) rfl (by kernel_rfl) (by kernel_rfl) (by kernel_rfl) (fun _ _ _ h => h) (Or.inl ⟨by rfl, ?_⟩) (SK.out _ tV) ?_
  · rintro w ⟨s0, s1, s2, s3⟩
    go_simp
  simp only [Act.put, List.setIfInBounds_toArray, List.set_cons_zero, List.set_cons_succ]
  refine wpAnyH_ready (rs := [13]) (by kernel_rfl) (by simp) ?_
  refine AllReadyH.cons rfl (fun K hK => ?_) AllReadyH.nil
  go_simp
  refine (SE.out _).mono ?_
  rintro oo Vn ⟨rfl, tC⟩
  have tN := tC
  have tV := tV.trans tN
  clear tC
  clear tN
  go_simp
  refine hK.out _ _ (SK.out _ tV) (fun _ => ?_)
  clear hK K
  refine wpAnyH_ready (rs := [14]) (by kernel_rfl) (by simp) ?_
  refine AllReadyH.cons rfl (fun K hK => ?_) AllReadyH.nil
  go_simp
  refine (B4.out _).mono ?_
  rintro oo Vn ⟨rfl, tC⟩
  have tN := tC
  have tV := tV.trans tN
  clear tC
  clear tN
  go_simp
  refine hK.out _ _ (SK.out _ tV) (fun _ => ?_)
  clear hK K
  refine wpAnyH_take (i := 15) (oi := { dst := some 20, op := Op.binOp BinOp.eql 3 (Operand.tmp 19) (Operand.const (Value.int IntKind.i64 0)) 3, type := 4, pos := "law.go:44", after := #[{ on := 14, ground := Ground.data }, { on := 12, ground := Ground.guard }], guard := some (12, true) }) (v := .bool true) rfl (by kernel_rfl) (by kernel_rfl) (by kernel_rfl) (fun _ _ _ h => h) (Or.inl ⟨by rfl, ?_⟩) (SK.out _ tV) ?_
  · rintro w ⟨s0, s1, s2, s3⟩
    go_simp
  simp only [Act.put, List.setIfInBounds_toArray, List.set_cons_zero, List.set_cons_succ]
  refine wpAnyH_take (i := 16) (oi := { dst := some 21, op := Op.pick (Operand.tmp 17) (Operand.tmp 20) (Operand.const (Value.bool false)), type := 4, pos := "law.go:44", after := #[{ on := 12, ground := Ground.data }, { on := 15, ground := Ground.data }], guard := none }) (v := .bool true) rfl (by kernel_rfl) (by kernel_rfl) (by kernel_rfl) (fun _ _ _ h => h) (Or.inl ⟨by rfl, ?_⟩) (SK.out _ tV) ?_
  · rintro w ⟨s0, s1, s2, s3⟩
    go_simp
  simp only [Act.put, List.setIfInBounds_toArray, List.set_cons_zero, List.set_cons_succ]
  refine wpAnyH_take (i := 17) (oi := { dst := some 22, op := Op.move (Operand.tmp 21), type := 4, pos := "law.go:44", after := #[{ on := 16, ground := Ground.data }, { on := 14, ground := Ground.chain }], guard := none }) (v := .bool true) rfl (by kernel_rfl) (by kernel_rfl) (by kernel_rfl) (fun _ _ _ h => h) (Or.inl ⟨by rfl, ?_⟩) (SK.out _ tV) ?_
  · rintro w ⟨s0, s1, s2, s3⟩
    go_simp
  simp only [Act.put, List.setIfInBounds_toArray, List.set_cons_zero, List.set_cons_succ]
  refine wpAnyH_take (i := 18) (oi := { dst := some 23, op := Op.load 25 (Operand.tmp 1), type := 25, pos := "law.go:44", after := #[{ on := 17, ground := Ground.guard }], guard := some (17, true) }) (v := .agg #[.slice (some ⟨g, 0, none⟩) 5 5, .int .u64 9, .int .u64 0, .int .u64 0]) rfl (by kernel_rfl) (by kernel_rfl) (by kernel_rfl) (fun _ _ _ h => h) (Or.inl ⟨by rfl, ?_⟩) (SK.out _ tV) ?_
  · rintro w ⟨s0, s1, s2, s3⟩
    go_simp
  simp only [Act.put, List.setIfInBounds_toArray, List.set_cons_zero, List.set_cons_succ]
  refine wpAnyH_ready (rs := [19]) (by kernel_rfl) (by simp) ?_
  refine AllReadyH.cons rfl (fun K hK => ?_) AllReadyH.nil
  go_simp
  refine (SE.out _).mono ?_
  rintro oo Vn ⟨rfl, tC⟩
  have tN := tC
  have tV := tV.trans tN
  clear tC
  clear tN
  go_simp
  refine hK.out _ _ (SK.out _ tV) (fun _ => ?_)
  clear hK K
  refine wpAnyH_ready (rs := [20]) (by kernel_rfl) (by simp) ?_
  refine AllReadyH.cons rfl (fun K hK => ?_) AllReadyH.nil
  go_simp
  refine (RE.out _ tV).mono ?_
  rintro oo Vn ⟨rfl, tC⟩
  have tN := tC
  have tV := tV.trans tN
  clear tC
  clear tN
  go_simp
  refine hK.out _ _ (SK.out _ tV) (fun _ => ?_)
  clear hK K
  refine wpAnyH_take (i := 21) (oi := { dst := some 26, op := Op.unOp UnOp.not 4 (Operand.tmp 25), type := 4, pos := "law.go:44", after := #[{ on := 20, ground := Ground.data }, { on := 17, ground := Ground.guard }], guard := some (17, true) }) (v := .bool true) rfl (by kernel_rfl) (by kernel_rfl) (by kernel_rfl) (fun _ _ _ h => h) (Or.inl ⟨by rfl, ?_⟩) (SK.out _ tV) ?_
  · rintro w ⟨s0, s1, s2, s3⟩
    go_simp
  simp only [Act.put, List.setIfInBounds_toArray, List.set_cons_zero, List.set_cons_succ]
  refine wpAnyH_take (i := 22) (oi := { dst := some 27, op := Op.pick (Operand.tmp 22) (Operand.tmp 26) (Operand.const (Value.bool false)), type := 4, pos := "law.go:44", after := #[{ on := 17, ground := Ground.data }, { on := 21, ground := Ground.data }], guard := none }) (v := .bool true) rfl (by kernel_rfl) (by kernel_rfl) (by kernel_rfl) (fun _ _ _ h => h) (Or.inl ⟨by rfl, ?_⟩) (SK.out _ tV) ?_
  · rintro w ⟨s0, s1, s2, s3⟩
    go_simp
  simp only [Act.put, List.setIfInBounds_toArray, List.set_cons_zero, List.set_cons_succ]
  refine wpAnyH_take (i := 23) (oi := { dst := some 28, op := Op.move (Operand.tmp 27), type := 4, pos := "law.go:44", after := #[{ on := 22, ground := Ground.data }, { on := 20, ground := Ground.chain }], guard := none }) (v := .bool true) rfl (by kernel_rfl) (by kernel_rfl) (by kernel_rfl) (fun _ _ _ h => h) (Or.inl ⟨by rfl, ?_⟩) (SK.out _ tV) ?_
  · rintro w ⟨s0, s1, s2, s3⟩
    go_simp
  simp only [Act.put, List.setIfInBounds_toArray, List.set_cons_zero, List.set_cons_succ]
  refine wpAnyH_take (i := 24) (oi := { dst := some 29, op := Op.build 35 #[], type := 35, pos := "law.go:44", after := #[{ on := 23, ground := Ground.guard }], guard := some (23, true) }) (v := .agg #[.int .i64 0, .int .i64 0, .int .i64 0]) rfl (by kernel_rfl) (by kernel_rfl) (by kernel_rfl) (fun _ _ _ h => h) (Or.inl ⟨by rfl, ?_⟩) (SK.out _ tV) ?_
  · rintro w ⟨s0, s1, s2, s3⟩
    go_simp
  simp only [Act.put, List.setIfInBounds_toArray, List.set_cons_zero, List.set_cons_succ]
  refine wpAnyH_ready (rs := [25]) (by kernel_rfl) (by simp) ?_
  refine AllReadyH.cons rfl (fun K hK => ?_) AllReadyH.nil
  go_simp
  refine (CK.out _).mono ?_
  rintro oo Vn ⟨rfl, tC⟩
  have tN := tC
  have tV := tV.trans tN
  clear tC
  clear tN
  go_simp
  refine hK.out _ _ (SK.out _ tV) (fun _ => ?_)
  clear hK K
  refine wpAnyH_take (i := 26) (oi := { dst := some 31, op := Op.binOp BinOp.eql 39 (Operand.tmp 30) (Operand.const (Value.int IntKind.i64 2)) 39, type := 4, pos := "law.go:44", after := #[{ on := 25, ground := Ground.data }, { on := 23, ground := Ground.guard }], guard := some (23, true) }) (v := .bool true) rfl (by kernel_rfl) (by kernel_rfl) (by kernel_rfl) (fun _ _ _ h => h) (Or.inl ⟨by rfl, ?_⟩) (SK.out _ tV) ?_
  · rintro w ⟨s0, s1, s2, s3⟩
    go_simp
  simp only [Act.put, List.setIfInBounds_toArray, List.set_cons_zero, List.set_cons_succ]
  refine wpAnyH_take (i := 27) (oi := { dst := some 32, op := Op.pick (Operand.tmp 28) (Operand.tmp 31) (Operand.const (Value.bool false)), type := 4, pos := "law.go:44", after := #[{ on := 23, ground := Ground.data }, { on := 26, ground := Ground.data }], guard := none }) (v := .bool true) rfl (by kernel_rfl) (by kernel_rfl) (by kernel_rfl) (fun _ _ _ h => h) (Or.inl ⟨by rfl, ?_⟩) (SK.out _ tV) ?_
  · rintro w ⟨s0, s1, s2, s3⟩
    go_simp
  simp only [Act.put, List.setIfInBounds_toArray, List.set_cons_zero, List.set_cons_succ]
  refine wpAnyH_take (i := 28) (oi := { dst := some 0, op := Op.assign (Operand.tmp 32), type := 4, pos := "law.go:44", after := #[{ on := 27, ground := Ground.data }, { on := 25, ground := Ground.chain }, { on := 0, ground := Ground.phase }, { on := 1, ground := Ground.phase }, { on := 2, ground := Ground.phase }, { on := 3, ground := Ground.phase }, { on := 4, ground := Ground.phase }, { on := 5, ground := Ground.phase }, { on := 6, ground := Ground.phase }, { on := 7, ground := Ground.phase }, { on := 8, ground := Ground.phase }, { on := 9, ground := Ground.phase }, { on := 10, ground := Ground.phase }, { on := 11, ground := Ground.phase }, { on := 12, ground := Ground.phase }, { on := 13, ground := Ground.phase }, { on := 14, ground := Ground.phase }, { on := 15, ground := Ground.phase }, { on := 16, ground := Ground.phase }, { on := 17, ground := Ground.phase }, { on := 18, ground := Ground.phase }, { on := 19, ground := Ground.phase }, { on := 20, ground := Ground.phase }, { on := 21, ground := Ground.phase }, { on := 22, ground := Ground.phase }, { on := 23, ground := Ground.phase }, { on := 24, ground := Ground.phase }, { on := 25, ground := Ground.phase }, { on := 26, ground := Ground.phase }, { on := 27, ground := Ground.phase }], guard := none }) (v := .bool true) rfl (by kernel_rfl) (by kernel_rfl) (by kernel_rfl) (fun _ _ _ h => h) (Or.inl ⟨by rfl, ?_⟩) (SK.out _ tV) ?_
  · rintro w ⟨s0, s1, s2, s3⟩
    go_simp
  simp only [Act.put, List.setIfInBounds_toArray, List.set_cons_zero]
  refine wpAnyH_done (by kernel_rfl) ?_ _
  go_wp2_with fail
  go_ret
  exact ⟨rfl, (T.out.trans T5.out).trans tV⟩
end Go.Proofs.Ytkmcdjbadngfgaa
