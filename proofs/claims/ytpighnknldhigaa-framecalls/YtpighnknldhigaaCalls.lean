/-
  For every frame, all bytes ahead of it, every row and every number FrameCalls returns true, and its arguments read as they did: frames are put together, and rows of bytes read, as the document says. Conditions: none.
-/
import Derived.Test.YtpighnknldhigaaPost
import Derived.Test.YtpighnknldhigaaCallsW
import Derived.Test.YtpighnknldhigaaOpenG
import Derived.LaidLaws
namespace Go.Proofs.Ytpighnknldhigaa
open Go.ChangeShapes Go.WideShapes Go.ChangeAt Go.RowKit
namespace CallsLaw

theorem calls_all (k : BitVec 8) (a : Option Addr) (n c : Nat) (body : List (BitVec 8)) (ab : Option Addr) (nb cb : Nat) (bb : List (BitVec 8)) (ar : Option Addr) (nr cr : Nat) (br : List (BitVec 8)) (z : Int) (w : World)
    (hbody : Bytes w (.slice a n c) body) (hbb : Bytes w (.slice ab nb cb) bb) (hbr : Bytes w (.slice ar nr cr) br) (hrc : nr ≤ cr) (hz1 : -9223372036854775808 ≤ z) (hz2 : z ≤ 9223372036854775807) :
    Calls Try.prog 4 #[.agg #[.int .u8 k.toNat, .slice a n c], .slice ab nb cb, .slice ar nr cr, .int .i64 z] w fun e w' => e = .returned (.bool true) ∧ Below w.heap.size w w' := by
  by_cases h : 4000 < n ∨ 4000 < nb ∨ 4000 < nr
  · exact calls_long k a n c ab nb cb ar nr cr z w h
  · exact calls_any k a n c body ab nb cb bb ar nr cr br z w hbody hbb hbr hrc hz1 hz2 (by omega) (by omega) (by omega)

theorem contract (H : Type) (enc : TypeId × Value → H) (W : World) (base : Nat) (args : Array Value) (ds gs : List (DataW H)) (before : List MemPlace)
    (hval : ∀ (j : Nat) t v, Try.f4.params[j]? = some t → args[j]? = some v → Value.okWide Try.prog W .any base t v)
    (hW : DataW.Whole enc Try.prog Try.f4.params.toList Rows.frameCallsSpec.vars false W args.toList ds gs before) (_hL : laidMetH Try.prog Rows.frameCallsRow.laid W) :
    Calls Try.prog 4 args W fun e W' => ∃ v, e = .returned v ∧ Rows.frameCallsSpec.post enc Try.prog Try.f4 false true false false W args v W' := by
  have hW' := hW
  obtain ⟨p, q, hA0, hV, rfl, hfz, hnd⟩ := hW
  have hA : DataW.TrodAll enc Try.prog W 0 (fun _ => true) true Try.f4.params.toList args.toList ds p := hA0
  rw [Try.params4] at hA hval
  obtain ⟨v0, vs0, d0, ds0, p0, q0, hargs, rfl, rfl, h0, r0⟩ := trodAll_cons hA
  obtain ⟨v1, vs1, d1, ds1, p1, q1, rfl, rfl, rfl, h1, r1⟩ := trodAll_cons r0
  obtain ⟨v2, vs2, d2, ds2, p2, q2, rfl, rfl, rfl, h2, r2⟩ := trodAll_cons r1
  obtain ⟨v3, vs3, d3, ds3, p3, q3, rfl, rfl, rfl, h3, r3⟩ := trodAll_cons r2
  obtain ⟨rfl, rfl, rfl⟩ := trodAll_nil r3
  obtain rfl : args = #[v0, v1, v2, v3] := by cases args; simp_all
  obtain ⟨k, a, n, c, body, rfl, hbody, _⟩ := open_frame (hval 0 27 v0 rfl rfl) h0
  obtain ⟨ab, nb, cb, bb, rfl, hbb, _⟩ := open_room (hval 1 22 v1 rfl rfl) h1
  obtain ⟨ar, nr, cr, br, rfl, hbr, hrc⟩ := open_room (hval 2 22 v2 rfl rfl) h2
  obtain ⟨z, rfl, lo, hi⟩ := open_i64 (hval 3 3 v3 rfl rfl) h3
  obtain ⟨rfl, rfl⟩ := trodVars_none hV
  clear hA0
  refine (calls_all k a n c body ab nb cb bb ar nr cr br z W hbody hbb hbr hrc lo hi).mono fun e W' ⟨he, hg⟩ => ?_
  subst he
  exact ⟨_, rfl, law_post hW' hg (by kernel_rfl) rfl rfl rfl rfl rfl⟩

theorem laid_met (os : Os) : laidMet Try.prog Rows.frameCallsRow.laid ((World.holding Try.prog os ⟨#[], #[], []⟩).forCall (fun _ _ => 0) ⟨#[], #[.agg #[.int .u8 0, .slice none 0 0], .slice none 0 0, .slice none 0 0, .int .i64 0], []⟩).memory :=
  laidMet_of_run' 40 (by kernel_rfl) (by kernel_rfl)
theorem reads (os : Os) {H : Type} (enc : TypeId × Value → H) : ∃ places, DataW.whole enc Try.prog ((World.holding Try.prog os ⟨#[], #[], []⟩).forCall (fun _ _ => 0) ⟨#[], #[.agg #[.int .u8 0, .slice none 0 0], .slice none 0 0, .slice none 0 0, .int .i64 0], []⟩).memory Try.f4.params.toList Rows.frameCallsSpec.vars false (#[.agg #[.int .u8 0, .slice none 0 0], .slice none 0 0, .slice none 0 0, .int .i64 0] : Array Value).toList 8 = some ([.agg [.lit (.int .u8 0), .nil], .nil, .nil, .lit (.int .i64 0)], [], places) :=
  ⟨[], by kernel_rfl⟩

set_option maxRecDepth 100000 in
theorem lifted (os : Os) (started : os.Started) (H : Type) (enc : TypeId × Value → H) (F : Stop.Interp) :
    ReturnsInHanded {} Try.checked os 4 .any ((OpenSpec.ofChange Rows.frameCallsSpec).preRow enc Try.prog Try.f4 Rows.frameCallsRow.domain false Rows.frameCallsRow.laid) (((OpenSpec.ofChange Rows.frameCallsSpec).at F).post enc Try.prog Try.f4 false true false false) := by
  obtain ⟨places, hx⟩ := reads os enc
  refine returnsInHanded_of_row (C := Try.checked) (s := OpenSpec.ofChange Rows.frameCallsSpec) own started (by kernel_rfl) Try.func4
    (witness_row_at (enc := enc) (C := Try.checked) false (World.holding Try.prog os ⟨#[], #[], []⟩) #[.agg #[.int .u8 0, .slice none 0 0], .slice none 0 0, .slice none 0 0, .int .i64 0] rfl (by kernel_rfl) (by kernel_rfl) (by kernel_rfl)
      (OpenSpec.preRow_of_cond 8 hx (by kernel_rfl) (fun k hk => by cases hk) (by kernel_rfl) (laid_met os))) ?_
  intro W base args ds gs before hval hW _ _ _ hL _ _
  exact contract H enc W base args ds gs before hval hW hL

theorem said : Rows.FrameCallsSaid :=
  OpenClaim.holds_of_cond 4 Try.f4 rfl rfl rfl rfl rfl rfl rfl ⟨rfl, rfl, rfl, rfl, rfl⟩ rfl rfl rfl rfl rfl (by kernel_rfl) Try.func4 (by kernel_rfl)
    (of_decide_eq_true (by kernel_rfl)) (by unfold Func.isWrapper; first | (rw [if_pos (by decide +kernel)]; kernel_rfl) | (rw [if_neg (by decide +kernel)]; exact ⟨rfl, rfl⟩))
    (fun os started H enc _ F => by rw [OpenClaim.pre_eq_preRow]; exact lifted os started H enc F)

end CallsLaw

theorem frameCalls_holds : Rows.FrameCallsSaid := CallsLaw.said
#print axioms frameCalls_holds
end Go.Proofs.Ytpighnknldhigaa
