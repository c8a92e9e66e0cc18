/-
  The chapter's examples.
-/
import Derived.Test.YtolaaodhnhdadaaLv
namespace Go.Proofs.Ytolaaodhnhdadaa
open Go.RowKit
set_option maxRecDepth 100000
set_option maxHeartbeats 8000000
def eA0 : Ent := ⟨[97#8, 98#8], 1, 1, []⟩
def eB0 : Ent := ⟨[97#8, 99#8], 1, 1, []⟩
theorem append_none (w : World) : Calls Try.prog 6 #[.slice none 0 0, .slice none 0 0] w fun e w' => e = .returned (.tuple #[.slice none 0 0, .int .i64 2]) ∧ Below w.heap.size w w' :=
  append_bad none 0 0 [] w (fun k x hx => by simp at hx) rfl (by decide) (fun x hx => by simp at hx) (show chkL [] = 2 by decide)
theorem append_turned (g : Nat) (ka va kb vb : Option Addr) (kc vc kd vd : Nat) (w : World) (h : w.heap[g]? = some (.cells #[.slice ka 2 kc, .int .u64 1, .int .i64 1, .slice va 0 vc, .slice kb 2 kd, .int .u64 1, .int .i64 1, .slice vb 0 vd] 28 (0, 0))) (h1 : Bytes w (.slice ka 2 kc) [97#8, 99#8]) (h2 : Bytes w (.slice va 0 vc) []) (h3 : Bytes w (.slice kb 2 kd) [97#8, 98#8]) (h4 : Bytes w (.slice vb 0 vd) []) (hc : 2 ≤ kc) (hd : 2 ≤ kd) :
    Calls Try.prog 6 #[.slice none 0 0, .slice (some ⟨g, 0, none⟩) 2 2] w fun e w' => e = .returned (.tuple #[.slice none 0 0, .int .i64 2]) ∧ Below w.heap.size w w' := by
  have hE : Ents w (some ⟨g, 0, none⟩) [(⟨ka, kc, va, vc, eB0⟩ : Tow), ⟨kb, kd, vb, vd, eA0⟩] := ents_two h h1 h2 h3 h4
  refine append_bad (some ⟨g, 0, none⟩) 2 2 [(⟨ka, kc, va, vc, eB0⟩ : Tow), ⟨kb, kd, vb, vd, eA0⟩] w hE rfl (by decide) (fun x hx => ?_) (show chkL [eB0, eA0] = 2 by decide)
  simp only [List.mem_cons, List.not_mem_nil, or_false] at hx
  rcases hx with rfl | rfl
  · exact ⟨show chk1 eB0 = 0 by decide, hc⟩
  · exact ⟨show chk1 eA0 = 0 by decide, hd⟩
theorem size_none (w : World) : Calls Try.prog 10 #[.slice none 0 0] w fun e w' => e = .returned (.int .i64 4) ∧ Below w.heap.size w w' :=
  size_all none 0 0 [] w (fun k x hx => by simp at hx) rfl (by decide) (show wt [] ≤ 1000000 by decide) (fun x hx => by simp at hx)
theorem names_any (w : World) : Calls Try.prog 3 #[] w fun e w' => e = .returned (.bool true) ∧ Below w.heap.size w w' := by
  generalize hB : w.heap.size = B
  have HB := hide hB
  clear hB
  go_enter Try.func3, Try.ntmps3
  go_wp2_with fail
  refine (append_none w).mono ?_
  rintro e w1 ⟨rfl, b1⟩
  rw [HB.out] at b1
  have B1 := hide b1
  have hs1 : B ≤ w1.heap.size := by have := b1.size; have := HB.out; omega
  clear b1
  go_wp2_with fail
  refine (entry_ac0 w1).mono ?_
  rintro e w2 ⟨ka, kc, va, vc, rfl, k1, v1, hkc, b2⟩
  have K1 := hide k1
  have V1 := hide v1
  have B2 := hide (B1.out.trans (b2.mono hs1))
  have hs2 := Nat.le_trans hs1 b2.size
  clear k1 v1 b2
  go_wp2_with fail
  refine (entry_ab0 w2).mono ?_
  rintro e w3 ⟨kb, kd, vb, vd, rfl, k2, v2, hkd, b3⟩
  have hs3 := Nat.le_trans hs2 b3.size
  have ba := (Below.refl w3.heap.size w3).alloc (Nat.le_refl _) (.cells #[.slice ka 2 kc, .int .u64 1, .int .i64 1, .slice va 0 vc, .slice kb 2 kd, .int .u64 1, .int .i64 1, .slice vb 0 vd] 28)
  have HAP := hide (append_turned w3.heap.size ka va kb vb kc vc kd vd _ (heap_alloc_new w3 _) ((K1.out.below b3).below ba) ((V1.out.below b3).below ba) (k2.below ba) (v2.below ba) hkc hkd)
  have B3 := hide ((B2.out.trans (b3.mono hs2)).trans (ba.mono hs3))
  have hs4 := Nat.le_trans hs3 ba.size
  clear k2 v2 b3 ba K1 V1 B1 B2
  go_wp2_with fail
  generalize w3.alloc (.cells #[.slice ka 2 kc, .int .u64 1, .int .i64 1, .slice va 0 vc, .slice kb 2 kd, .int .u64 1, .int .i64 1, .slice vb 0 vd] 28) = w4 at *
  refine HAP.out.mono ?_
  rintro e w5 ⟨rfl, b5⟩
  have hs5 := Nat.le_trans hs4 b5.size
  have b6 := (Below.refl w5.heap.size w5).alloc (Nat.le_refl _) (.cells #[.int .u8 0, .int .u8 0, .int .u8 0, .int .u8 0] 5)
  have HPA := hide (Parse_any (some ⟨w5.heap.size, 0, none⟩) 4 4 [0#8, 0#8, 0#8, 0#8] _ (Bytes.new w5 #[.int .u8 0, .int .u8 0, .int .u8 0, .int .u8 0] 5 4 (0, 0) [0#8, 0#8, 0#8, 0#8] rfl) (by decide) (by decide))
  have B6 := hide ((B3.out.trans (b5.mono hs4)).trans (b6.mono hs5))
  have hs6 := Nat.le_trans hs5 b6.size
  clear HAP b5 b6 B3
  go_wp2_with fail
  generalize w5.alloc (.cells #[.int .u8 0, .int .u8 0, .int .u8 0, .int .u8 0] 5) = w6 at *
  refine HPA.out.mono ?_
  rintro e w7 ⟨hP, b7⟩
  have B7 := hide (B6.out.trans (b7.mono hs6))
  have hs7 := Nat.le_trans hs6 b7.size
  clear b7 HPA
  rcases hP with ⟨_, rfl⟩ | ⟨es, a, c, R, hk, _⟩
  · go_wp2_with fail
    refine (lives_any w7).mono ?_
    rintro e w8 ⟨rfl, b8⟩
    have B8 := hide (B7.out.trans (b8.mono hs7))
    have hs8 := Nat.le_trans hs7 b8.size
    clear b8
    go_wp2_with fail
    refine (size_none w8).mono ?_
    rintro e w9 ⟨rfl, b9⟩
    have B9 := hide (B8.out.trans (b9.mono hs8))
    clear b9
    go_wp2_with fail
    go_ret
    exact ⟨rfl, B9.out⟩
  · rw [zeros_bad] at hk
    cases hk
end Go.Proofs.Ytolaaodhnhdadaa
