/-
  lives.
-/
import Derived.Test.YtjnpendihdlgnaaLv
namespace Go.Proofs.Ytjnpendihdlgnaa
open Go.RowKit
set_option maxRecDepth 100000
set_option maxHeartbeats 8000000
theorem lives_any (w : World) : Calls Try.prog 11 #[] w fun e w' => e = .returned (.bool true) ∧ Below w.heap.size w w' := by
  go_enter Try.func11, Try.ntmps11
  go_wp2_with fail
  refine (put_a1x w).mono ?_
  rintro e w1 ⟨k1, kc1, v1, vc1, rfl, hk1, hv1, _, b1⟩
  have t1 := Turns.of_below b1 (fun _ => False)
  have t2 : Turns (fun _ => False) w1 (w1.alloc (.cells #[.slice k1 1 kc1, .int .u64 1, .int .i64 1, .slice v1 1 vc1] 25)) := (Turns.refl _ _).alloc _
  have n2 := heap_alloc_new w1 (.cells #[.slice k1 1 kc1, .int .u64 1, .int .i64 1, .slice v1 1 vc1] 25)
  have N2 := hide n2
  have K1 := hide (hk1.quiet t2)
  have V1 := hide (hv1.quiet t2)
  have T2 := hide (t1.trans t2)
  clear b1 t1 t2 hk1 hv1 n2
  go_wp2_with fail
  generalize w1.alloc (.cells #[.slice k1 1 kc1, .int .u64 1, .int .i64 1, .slice v1 1 vc1] 25) = w2 at *
  generalize w1.heap.size = g1 at *
  refine (put_a2y w2).mono ?_
  rintro e w3 ⟨k2, kc2, v2, vc2, rfl, hk2, hv2, _, b3⟩
  have t3 := Turns.of_below b3 (fun _ => False)
  have N3 := hide (t3.heap N2.out (fun x => x))
  have K2 := hide (K1.out.quiet t3)
  have V2 := hide (V1.out.quiet t3)
  have K3 := hide hk2
  have V3 := hide hv2
  have T3 := hide (T2.out.trans t3)
  clear b3 t3 hk2 hv2 K1 V1 N2 T2
  go_wp2_with fail
  refine (put_b1z w3).mono ?_
  rintro e w4 ⟨k3, kc3, v3, vc3, rfl, hk3, hv3, _, b4⟩
  have t4 := Turns.of_below b4 (fun _ => False)
  have ta : Turns (fun _ => False) w4 (w4.alloc (.cells #[.slice k2 1 kc2, .int .u64 2, .int .i64 1, .slice v2 1 vc2, .slice k3 1 kc3, .int .u64 1, .int .i64 1, .slice v3 1 vc3] 25)) := (Turns.refl _ _).alloc _
  have na := heap_alloc_new w4 (.cells #[.slice k2 1 kc2, .int .u64 2, .int .i64 1, .slice v2 1 vc2, .slice k3 1 kc3, .int .u64 1, .int .i64 1, .slice v3 1 vc3] 25)
  obtain ⟨w5, hw5⟩ : ∃ w5, w5 = w4.alloc (.cells #[.slice k2 1 kc2, .int .u64 2, .int .i64 1, .slice v2 1 vc2, .slice k3 1 kc3, .int .u64 1, .int .i64 1, .slice v3 1 vc3] 25) := ⟨_, rfl⟩
  rw [← hw5] at ta na
  have tb : Turns (fun _ => False) w5 (w5.alloc (.cells #[.slice (some ⟨g1, 0, none⟩) 1 1, .slice (some ⟨w4.heap.size, 0, none⟩) 2 2] 27)) := (Turns.refl _ _).alloc _
  have nb := heap_alloc_new w5 (.cells #[.slice (some ⟨g1, 0, none⟩) 1 1, .slice (some ⟨w4.heap.size, 0, none⟩) 2 2] 27)
  have tab := ta.trans tb
  have hE1 : Ents (w5.alloc (.cells #[.slice (some ⟨g1, 0, none⟩) 1 1, .slice (some ⟨w4.heap.size, 0, none⟩) 2 2] 27)) (some ⟨g1, 0, none⟩) [⟨k1, kc1, v1, vc1, eA1x⟩] := ents_one ((t4.trans tab).heap N3.out (fun x => x)) (K2.out.quiet (t4.trans tab)) (V2.out.quiet (t4.trans tab))
  have hE2 : Ents (w5.alloc (.cells #[.slice (some ⟨g1, 0, none⟩) 1 1, .slice (some ⟨w4.heap.size, 0, none⟩) 2 2] 27)) (some ⟨w4.heap.size, 0, none⟩) [⟨k2, kc2, v2, vc2, eA2y⟩, ⟨k3, kc3, v3, vc3, eB1z⟩] := ents_two (tb.heap na (fun x => x)) (K3.out.quiet (t4.trans tab)) (V3.out.quiet (t4.trans tab)) (hk3.quiet tab) (hv3.quiet tab)
  have AL := hide (all_ex1 w5.heap.size g1 w4.heap.size _ _ _ _ rfl rfl rfl (rows_two nb ⟨hE1, Nat.le_refl _, by simp⟩ ⟨hE2, Nat.le_refl _, by simp⟩))
  have hsz5 : w5.heap.size = w4.heap.size + 1 := by rw [hw5]; simp
  rw [hsz5] at AL
  have T5 := hide ((T3.out.trans t4).trans tab)
  have HW5 := hide hw5
  clear b4 t4 ta na tb nb tab hE1 hE2 hk3 hv3 hw5 hsz5 K2 V2 K3 V3 N3 T3
  go_wp2_with fail
  rw [← HW5.out]
  refine AL.out.mono ?_
  rintro e w6 ⟨q, c, rfl, hq1, hq5, b6⟩
  have t6 := Turns.of_below b6 (fun _ => False)
  have T6 := hide (T5.out.trans t6)
  have Q1 := hide hq1
  have Q5 := hide hq5
  clear AL b6 t6 hq1 hq5 T5 HW5
  generalize w5.alloc (.cells #[.slice (some ⟨g1, 0, none⟩) 1 1, .slice (some ⟨w4.heap.size, 0, none⟩) 2 2] 27) = w50 at *
  go_wp2_with fail
  refine (put_a1x w6).mono ?_
  rintro e w7 ⟨k4, kc4, v4, vc4, rfl, hk4, hv4, _, b7⟩
  have t7 := Turns.of_below b7 (fun _ => False)
  have ta : Turns (fun _ => False) w7 (w7.alloc (.cells #[.slice k4 1 kc4, .int .u64 1, .int .i64 1, .slice v4 1 vc4] 25)) := (Turns.refl _ _).alloc _
  have na := heap_alloc_new w7 (.cells #[.slice k4 1 kc4, .int .u64 1, .int .i64 1, .slice v4 1 vc4] 25)
  have N8 := hide na
  have K4 := hide (hk4.quiet ta)
  have V4 := hide (hv4.quiet ta)
  have T8 := hide (T6.out.trans (t7.trans ta))
  have U8 := hide (t7.trans ta)
  clear b7 t7 ta na hk4 hv4 T6
  go_wp2_with fail
  generalize w7.alloc (.cells #[.slice k4 1 kc4, .int .u64 1, .int .i64 1, .slice v4 1 vc4] 25) = w8 at *
  generalize w7.heap.size = g7 at *
  refine (put_a1y w8).mono ?_
  rintro e w9 ⟨k5, kc5, v5, vc5, rfl, hk5, hv5, _, b9⟩
  have t9 := Turns.of_below b9 (fun _ => False)
  have ta : Turns (fun _ => False) w9 (w9.alloc (.cells #[.slice k5 1 kc5, .int .u64 1, .int .i64 1, .slice v5 1 vc5] 25)) := (Turns.refl _ _).alloc _
  have na := heap_alloc_new w9 (.cells #[.slice k5 1 kc5, .int .u64 1, .int .i64 1, .slice v5 1 vc5] 25)
  obtain ⟨wa, hwa⟩ : ∃ wa, wa = w9.alloc (.cells #[.slice k5 1 kc5, .int .u64 1, .int .i64 1, .slice v5 1 vc5] 25) := ⟨_, rfl⟩
  rw [← hwa] at ta na
  have tb : Turns (fun _ => False) wa (wa.alloc (.cells #[.slice (some ⟨g7, 0, none⟩) 1 1, .slice (some ⟨w9.heap.size, 0, none⟩) 1 1] 27)) := (Turns.refl _ _).alloc _
  have nb := heap_alloc_new wa (.cells #[.slice (some ⟨g7, 0, none⟩) 1 1, .slice (some ⟨w9.heap.size, 0, none⟩) 1 1] 27)
  have tab := ta.trans tb
  have hE1 : Ents (wa.alloc (.cells #[.slice (some ⟨g7, 0, none⟩) 1 1, .slice (some ⟨w9.heap.size, 0, none⟩) 1 1] 27)) (some ⟨g7, 0, none⟩) [⟨k4, kc4, v4, vc4, eA1x⟩] := ents_one ((t9.trans tab).heap N8.out (fun x => x)) (K4.out.quiet (t9.trans tab)) (V4.out.quiet (t9.trans tab))
  have hE2 : Ents (wa.alloc (.cells #[.slice (some ⟨g7, 0, none⟩) 1 1, .slice (some ⟨w9.heap.size, 0, none⟩) 1 1] 27)) (some ⟨w9.heap.size, 0, none⟩) [⟨k5, kc5, v5, vc5, eA1y⟩] := ents_one (tb.heap na (fun x => x)) (hk5.quiet tab) (hv5.quiet tab)
  have AL := hide (all_ex2 wa.heap.size g7 w9.heap.size _ _ _ rfl rfl (rows_two nb ⟨hE1, Nat.le_refl _, by simp⟩ ⟨hE2, Nat.le_refl _, by simp⟩))
  have hsza : wa.heap.size = w9.heap.size + 1 := by rw [hwa]; simp
  rw [hsza] at AL
  have Tb := hide ((T8.out.trans t9).trans tab)
  have Ub := hide ((U8.out.trans t9).trans tab)
  have HWA := hide hwa
  clear b9 t9 ta na tb nb tab hE1 hE2 hk5 hv5 hwa hsza K4 V4 N8 T8 U8
  go_wp2_with fail
  rw [← HWA.out]
  refine AL.out.mono ?_
  rintro e wc ⟨q2, c2, va, vc, rfl, hq3, hby, bc⟩
  have tc := Turns.of_below bc (fun _ => False)
  have Tc := hide (Tb.out.trans tc)
  have hq1 := (Ub.out.trans tc).cell Q1.out (fun x => x)
  have hq5 := (Ub.out.trans tc).cell Q5.out (fun x => x)
  have hcv : (convert 22 9 (.slice va 1 vc)).run Try.prog wc = .ok (.string ⟨#[120]⟩) wc := conv_any hby
  clear AL bc tc Tb Ub HWA hby
  generalize wa.alloc (.cells #[.slice (some ⟨g7, 0, none⟩) 1 1, .slice (some ⟨w9.heap.size, 0, none⟩) 1 1] 27) = wb at *
  go_wp2_with fail
  go_ret
  exact ⟨rfl, Tc.out.below (Nat.le_refl _) (fun _ x => x.elim)⟩
end Go.Proofs.Ytjnpendihdlgnaa
