/-
  For any three entries BatchOrder returns true, and its arguments read as they did: the order of entries is one. Conditions: none.
-/
import Derived.Test.YtpdlbepkkfoadaaOpE
import Derived.Test.YtpdlbepkkfoadaaOr
import Derived.LaidLaws
namespace Go.Proofs.Ytpdlbepkkfoadaa
open Go.ChangeShapes Go.WideShapes Go.ChangeAt Go.RowKit
namespace OrderLaw

set_option maxRecDepth 100000 in
theorem contract (H : Type) (enc : TypeId × Value → H) (W : World) (base : Nat) (args : Array Value) (ds gs : List (DataW H)) (before : List MemPlace)
    (hval : ∀ (j : Nat) t v, Try.f5.params[j]? = some t → args[j]? = some v → Value.okWide Try.prog W .any base t v)
    (hW : DataW.Whole enc Try.prog Try.f5.params.toList Rows.batchOrderSpec.vars false W args.toList ds gs before) (_hL : laidMetH Try.prog Rows.batchOrderRow.laid W)
    (hsz : (DataW.weightsEach Try.prog (Try.f5.params.toList ++ (OpenSpec.ofChange Rows.batchOrderSpec).bare.plain.varTypes Try.prog) (ds ++ gs)).all (· ≤ reachBytes) = true) :
    Calls Try.prog 5 args W fun e W' => ∃ v, e = .returned v ∧ Rows.batchOrderSpec.post enc Try.prog Try.f5 false true false false W args v W' := by
  have hW' := hW
  obtain ⟨p, q, hA0, hV, rfl, hfz, hnd⟩ := hW
  have hA : DataW.TrodAll enc Try.prog W 0 (fun _ => true) true Try.f5.params.toList args.toList ds p := hA0
  rw [Try.params5] at hA hval hsz
  obtain ⟨v0, vs0, d0, ds0, p0, q0, hargs, rfl, rfl, h0, r0⟩ := trodAll_cons hA
  obtain ⟨v1, vs1, d1, ds1, p1, q1, rfl, rfl, rfl, h1, r1⟩ := trodAll_cons r0
  obtain ⟨v2, vs2, d2, ds2, p2, q2, rfl, rfl, rfl, h2, r2⟩ := trodAll_cons r1
  obtain ⟨rfl, rfl, rfl⟩ := trodAll_nil r2
  obtain rfl : args = #[v0, v1, v2] := by cases args; simp_all
  obtain ⟨ka, na, ca, sa, ta, va, na', ca', x, rfl, hx, hna⟩ := open_entry (hval 0 34 v0 rfl rfl) h0 (fun n hn => by simpa using List.all_eq_true.1 hsz n (DataW.weights_mem_each (j := 0) rfl rfl n hn))
  obtain ⟨kb, nb, cb, sb, tb, vb, nb', cb', y, rfl, hy, hnb⟩ := open_entry (hval 1 34 v1 rfl rfl) h1 (fun n hn => by simpa using List.all_eq_true.1 hsz n (DataW.weights_mem_each (j := 1) rfl rfl n hn))
  obtain ⟨kc, nc, cc, sc, tc, vc, nc', cc', z, rfl, hz, hnc⟩ := open_entry (hval 2 34 v2 rfl rfl) h2 (fun n hn => by simpa using List.all_eq_true.1 hsz n (DataW.weights_mem_each (j := 2) rfl rfl n hn))
  unfold reachBytes at hna hnb hnc
  obtain ⟨rfl, rfl⟩ := trodVars_none hV
  clear hA0
  refine (order_any ka kb kc va vb vc na nb nc ca cb cc na' nb' nc' ca' cb' cc' ta tb tc sa sb sc x y z W hx hy hz (by omega) (by omega) (by omega)).mono fun e W' ⟨he, hg⟩ => ?_
  subst he
  exact ⟨_, rfl, law_post hW' hg (by kernel_rfl) rfl rfl rfl rfl rfl⟩

theorem laid_met (os : Os) : laidMet Try.prog Rows.batchOrderRow.laid ((World.holding Try.prog os ⟨#[], #[], []⟩).forCall (fun _ _ => 0) ⟨#[], #[.agg #[.slice none 0 0, .int .u64 0, .int .i64 0, .slice none 0 0], .agg #[.slice none 0 0, .int .u64 0, .int .i64 0, .slice none 0 0], .agg #[.slice none 0 0, .int .u64 0, .int .i64 0, .slice none 0 0]], []⟩).memory :=
  laidMet_of_run' 40 (by kernel_rfl) (by kernel_rfl)
theorem reads (os : Os) {H : Type} (enc : TypeId × Value → H) : ∃ places, DataW.whole enc Try.prog ((World.holding Try.prog os ⟨#[], #[], []⟩).forCall (fun _ _ => 0) ⟨#[], #[.agg #[.slice none 0 0, .int .u64 0, .int .i64 0, .slice none 0 0], .agg #[.slice none 0 0, .int .u64 0, .int .i64 0, .slice none 0 0], .agg #[.slice none 0 0, .int .u64 0, .int .i64 0, .slice none 0 0]], []⟩).memory Try.f5.params.toList Rows.batchOrderSpec.vars false (#[.agg #[.slice none 0 0, .int .u64 0, .int .i64 0, .slice none 0 0], .agg #[.slice none 0 0, .int .u64 0, .int .i64 0, .slice none 0 0], .agg #[.slice none 0 0, .int .u64 0, .int .i64 0, .slice none 0 0]] : Array Value).toList 8 = some ([.agg [.nil, .lit (.int .u64 0), .lit (.int .i64 0), .nil], .agg [.nil, .lit (.int .u64 0), .lit (.int .i64 0), .nil], .agg [.nil, .lit (.int .u64 0), .lit (.int .i64 0), .nil]], [], places) :=
  ⟨[], by kernel_rfl⟩

set_option maxRecDepth 100000 in
theorem lifted (os : Os) (started : os.Started) (H : Type) (enc : TypeId × Value → H) (F : Stop.Interp) :
    ReturnsInHanded {} Try.checked os 5 .any ((OpenSpec.ofChange Rows.batchOrderSpec).preRow enc Try.prog Try.f5 Rows.batchOrderRow.domain false Rows.batchOrderRow.laid) (((OpenSpec.ofChange Rows.batchOrderSpec).at F).post enc Try.prog Try.f5 false true false false) := by
  obtain ⟨places, hx⟩ := reads os enc
  refine returnsInHanded_of_row (C := Try.checked) (s := OpenSpec.ofChange Rows.batchOrderSpec) own started (by kernel_rfl) Try.func5
    (witness_row_at (enc := enc) (C := Try.checked) false (World.holding Try.prog os ⟨#[], #[], []⟩) #[.agg #[.slice none 0 0, .int .u64 0, .int .i64 0, .slice none 0 0], .agg #[.slice none 0 0, .int .u64 0, .int .i64 0, .slice none 0 0], .agg #[.slice none 0 0, .int .u64 0, .int .i64 0, .slice none 0 0]] rfl (by kernel_rfl) (by kernel_rfl) (by kernel_rfl)
      (OpenSpec.preRow_of_cond 8 hx (by kernel_rfl) (fun k hk => by cases hk) (by kernel_rfl) (laid_met os))) ?_
  intro W base args ds gs before hval hW _ _ hsz hL _ _
  exact contract H enc W base args ds gs before hval hW hL hsz

theorem said : Rows.BatchOrderSaid :=
  OpenClaim.holds_of_cond 5 Try.f5 rfl rfl rfl rfl rfl rfl rfl ⟨rfl, rfl, rfl, rfl, rfl⟩ rfl rfl rfl rfl rfl (by kernel_rfl) Try.func5 (by kernel_rfl)
    (of_decide_eq_true (by kernel_rfl)) (by unfold Func.isWrapper; first | (rw [if_pos (by decide +kernel)]; kernel_rfl) | (rw [if_neg (by decide +kernel)]; exact ⟨rfl, rfl⟩))
    (fun os started H enc _ F => by rw [OpenClaim.pre_eq_preRow]; exact lifted os started H enc F)

end OrderLaw

theorem batchOrder_holds : Rows.BatchOrderSaid := OrderLaw.said
#print axioms batchOrder_holds
end Go.Proofs.Ytpdlbepkkfoadaa
