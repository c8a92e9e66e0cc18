/-
  The chapter's first example: lives.
-/
import Derived.Test.YtolaaodhnhdadaaNw
import Derived.Test.YtolaaodhnhdadaaE2
namespace Go.Proofs.Ytolaaodhnhdadaa
open Go.RowKit
set_option maxRecDepth 100000
set_option maxHeartbeats 8000000
theorem entry_ab (w : World) : Calls Try.prog 7 #[.string ⟨#[97, 98]⟩, .int .u64 1, .string ⟨#[120]⟩] w fun e w' => ∃ ka kc va vc, e = .returned (.agg #[.slice ka 2 kc, .int .u64 1, .int .i64 1, .slice va 1 vc]) ∧ Bytes w' (.slice ka 2 kc) [97#8, 98#8] ∧ Bytes w' (.slice va 1 vc) [120#8] ∧ 2 ≤ kc ∧ Below w.heap.size w w' := entry_any ⟨#[97, 98]⟩ ⟨#[120]⟩ 1 w
theorem entry_ac (w : World) : Calls Try.prog 7 #[.string ⟨#[97, 99]⟩, .int .u64 1, .string ⟨#[121]⟩] w fun e w' => ∃ ka kc va vc, e = .returned (.agg #[.slice ka 2 kc, .int .u64 1, .int .i64 1, .slice va 1 vc]) ∧ Bytes w' (.slice ka 2 kc) [97#8, 99#8] ∧ Bytes w' (.slice va 1 vc) [121#8] ∧ 2 ≤ kc ∧ Below w.heap.size w w' := entry_any ⟨#[97, 99]⟩ ⟨#[121]⟩ 1 w
theorem entry_ac0 (w : World) : Calls Try.prog 7 #[.string ⟨#[97, 99]⟩, .int .u64 1, .string ⟨#[]⟩] w fun e w' => ∃ ka kc va vc, e = .returned (.agg #[.slice ka 2 kc, .int .u64 1, .int .i64 1, .slice va 0 vc]) ∧ Bytes w' (.slice ka 2 kc) [97#8, 99#8] ∧ Bytes w' (.slice va 0 vc) [] ∧ 2 ≤ kc ∧ Below w.heap.size w w' := entry_any ⟨#[97, 99]⟩ ⟨#[]⟩ 1 w
theorem entry_ab0 (w : World) : Calls Try.prog 7 #[.string ⟨#[97, 98]⟩, .int .u64 1, .string ⟨#[]⟩] w fun e w' => ∃ ka kc va vc, e = .returned (.agg #[.slice ka 2 kc, .int .u64 1, .int .i64 1, .slice va 0 vc]) ∧ Bytes w' (.slice ka 2 kc) [97#8, 98#8] ∧ Bytes w' (.slice va 0 vc) [] ∧ 2 ≤ kc ∧ Below w.heap.size w w' := entry_any ⟨#[97, 98]⟩ ⟨#[]⟩ 1 w
theorem append_ex (g : Nat) (ka va kb vb : Option Addr) (kc vc kd vd : Nat) (w : World) (h : w.heap[g]? = some (.cells #[.slice ka 2 kc, .int .u64 1, .int .i64 1, .slice va 1 vc, .slice kb 2 kd, .int .u64 1, .int .i64 1, .slice vb 1 vd] 28 (0, 0))) (h1 : Bytes w (.slice ka 2 kc) [97#8, 98#8]) (h2 : Bytes w (.slice va 1 vc) [120#8]) (h3 : Bytes w (.slice kb 2 kd) [97#8, 99#8]) (h4 : Bytes w (.slice vb 1 vd) [121#8]) (hc : 2 ≤ kc) (hd : 2 ≤ kd) :
    Calls Try.prog 6 #[.slice none 0 0, .slice (some ⟨g, 0, none⟩) 2 2] w fun e w' => (∃ gb cb, e = .returned (.tuple #[.slice (some ⟨gb, 0, none⟩) 21 cb, .int .i64 0]) ∧ 21 ≤ cb ∧ RowB w' gb cb (blkB [eA, eB])) ∧ Below w.heap.size w w' := by
  have hE : Ents w (some ⟨g, 0, none⟩) [(⟨ka, kc, va, vc, eA⟩ : Tow), ⟨kb, kd, vb, vd, eB⟩] := ents_two h h1 h2 h3 h4
  refine (append_ok (some ⟨g, 0, none⟩) 2 2 [(⟨ka, kc, va, vc, eA⟩ : Tow), ⟨kb, kd, vb, vd, eB⟩] w hE rfl (by decide) (show wt [eA, eB] ≤ 100000 by decide) (fun x hx => ?_) (show chkL [eA, eB] = 0 by decide)).mono ?_
  · simp only [List.mem_cons, List.not_mem_nil, or_false] at hx
    rcases hx with rfl | rfl
    · exact ⟨show chk1 eA = 0 by decide, hc⟩
    · exact ⟨show chk1 eB = 0 by decide, hd⟩
  · rintro e w' ⟨⟨gb, cb, he, _, hl, hr⟩, hb⟩
    have h21 : (blkB (ents [(⟨ka, kc, va, vc, eA⟩ : Tow), ⟨kb, kd, vb, vd, eB⟩])).length = 21 := by
      show (blkB [eA, eB]).length = 21
      rw [blk_ex]; rfl
    rw [h21] at he hl
    exact ⟨⟨gb, cb, he, hl, hr⟩, hb⟩
theorem seek_ac (gb cb : Nat) (ka : Option Addr) (kc : Nat) (w : World) (h : Bytes w (.slice (some ⟨gb, 0, none⟩) 21 cb) (blkB [eA, eB])) (hc : 21 ≤ cb) (hk : Bytes w (.slice ka 2 kc) [97#8, 99#8]) :
    Calls Try.prog 18 #[.slice (some ⟨gb, 0, none⟩) 21 cb, .slice ka 2 kc, .int .u64 9] w fun e w' => (∃ xa xc va vc, e = .returned (.tuple #[.agg #[.slice xa 2 xc, .int .u64 1, .int .i64 1, .slice va 1 vc], .int .i64 2, .int .i64 0]) ∧ Bytes w' (.slice va 1 vc) [121#8]) ∧ Below w.heap.size w w' := by
  refine (seek_any (some ⟨gb, 0, none⟩) 21 cb _ ka 2 kc [97#8, 99#8] 9 w h hc (by decide) hk [eA, eB] parse_ex 1 (by decide) ahead_ac).mono ?_
  rintro e w' ⟨⟨lo, looks, h1, h2, h3, h4⟩, hb⟩
  have hl : looks = 0 := by
    rw [cl_le1 (by decide)] at h1
    omega
  have h0 : lo = 0 := by omega
  subst hl h0
  rcases h4 with ⟨x, hx, rfl, _, hv⟩ | ⟨hx, _⟩
  · obtain ⟨xa, xc, va, vc, e⟩ := x
    obtain rfl : eB = e := by simpa using hx
    exact ⟨⟨xa, xc, va, vc, rfl, hv⟩, hb⟩
  · simp at hx
theorem seek_ad (gb cb : Nat) (ka : Option Addr) (kc : Nat) (w : World) (h : Bytes w (.slice (some ⟨gb, 0, none⟩) 21 cb) (blkB [eA, eB])) (hc : 21 ≤ cb) (hk : Bytes w (.slice ka 2 kc) [97#8, 100#8]) :
    Calls Try.prog 18 #[.slice (some ⟨gb, 0, none⟩) 21 cb, .slice ka 2 kc, .int .u64 1] w fun e w' => (∃ rd : Nat, e = .returned (.tuple #[.agg #[.slice none 0 0, .int .u64 0, .int .i64 0, .slice none 0 0], .int .i64 (rd : Nat), .int .i64 6])) ∧ Below w.heap.size w w' := by
  refine (seek_any (some ⟨gb, 0, none⟩) 21 cb _ ka 2 kc [97#8, 100#8] 1 w h hc (by decide) hk [eA, eB] parse_ex 2 (by decide) ahead_ad).mono ?_
  rintro e w' ⟨⟨lo, looks, h1, h2, h3, h4⟩, hb⟩
  rcases h4 with ⟨x, hx, _⟩ | ⟨_, hr⟩
  · simp at hx
  · exact ⟨hr, hb⟩
theorem lives_any (w : World) : Calls Try.prog 9 #[] w fun e w' => e = .returned (.bool true) ∧ Below w.heap.size w w' := by
  generalize hB : w.heap.size = B
  have HB := hide hB
  clear hB
  go_enter Try.func9, Try.ntmps9
  go_wp2_with fail
  refine (entry_ab w).mono ?_
  rintro e w1 ⟨ka, kc, va, vc, rfl, k1, v1, hkc, b1⟩
  rw [HB.out] at b1
  have K1 := hide k1
  have V1 := hide v1
  have B1 := hide b1
  clear k1 v1 b1
  go_wp2_with fail
  refine (entry_ac w1).mono ?_
  rintro e w2 ⟨kb, kd, vb, vd, rfl, k2, v2, hkd, b2⟩
  have hs1 : B ≤ w1.heap.size := by have := B1.out.size; have := HB.out; omega
  have ba := (Below.refl w2.heap.size w2).alloc (Nat.le_refl _) (.cells #[.slice ka 2 kc, .int .u64 1, .int .i64 1, .slice va 1 vc, .slice kb 2 kd, .int .u64 1, .int .i64 1, .slice vb 1 vd] 28)
  have hs2 : B ≤ w2.heap.size := Nat.le_trans hs1 b2.size
  have HAP := hide (append_ex w2.heap.size ka va kb vb kc vc kd vd _ (heap_alloc_new w2 _) ((K1.out.below b2).below ba) ((V1.out.below b2).below ba) (k2.below ba) (v2.below ba) hkc hkd)
  have B2 := hide ((B1.out.trans (b2.mono hs1)).trans (ba.mono hs2))
  have hs3 := Nat.le_trans hs2 ba.size
  clear k2 v2 b2 ba K1 V1 B1
  go_wp2_with fail
  generalize w2.alloc (.cells #[.slice ka 2 kc, .int .u64 1, .int .i64 1, .slice va 1 vc, .slice kb 2 kd, .int .u64 1, .int .i64 1, .slice vb 1 vd] 28) = w3 at *
  refine HAP.out.mono ?_
  rintro e w4 ⟨⟨gb, cb, rfl, hcb, hrow⟩, b4⟩
  have hs4 := Nat.le_trans hs3 b4.size
  have B4 := hide (B2.out.trans (b4.mono hs3))
  have hyb : Bytes w4 (.slice (some ⟨gb, 0, none⟩) 21 cb) (blkB [eA, eB]) := RowB.bytes hrow (by rw [blk_ex]; rfl)
  have HY := hide hyb
  have hcv := conv26 #[.int .u8 97, .int .u8 99] 2 2 w4
  have b5 := (Below.refl w4.heap.size w4).alloc (Nat.le_refl _) (.cells #[.int .u8 97, .int .u8 99] 5 (2, 3))
  have HSK := hide (seek_ac gb cb (some ⟨w4.heap.size, 0, none⟩) 2 _ (hyb.below b5) hcb (Bytes.new w4 #[.int .u8 97, .int .u8 99] 5 2 (2, 3) [97#8, 99#8] rfl))
  have HY5 := hide (hyb.below b5)
  have B5 := hide (B4.out.trans (b5.mono hs4))
  have hs5 := Nat.le_trans hs4 b5.size
  clear HAP b4 hrow hyb b5
  go_wp2_with fail
  refine HSK.out.mono ?_
  rintro e w6 ⟨⟨xa, xc, ya, yc, rfl, hv⟩, b6⟩
  generalize w4.alloc (.cells #[.int .u8 97, .int .u8 99] 5 (2, 3)) = w5 at *
  have hs6 := Nat.le_trans hs5 b6.size
  have b7 := (Below.refl w6.heap.size w6).alloc (Nat.le_refl _) (.cells #[.slice xa 2 xc, .int .u64 1, .int .i64 1, .slice ya 1 yc] 28)
  have n7 := heap_alloc_new w6 (.cells #[.slice xa 2 xc, .int .u64 1, .int .i64 1, .slice ya 1 yc] 28)
  have hcv2 := conv26 #[.int .u8 97, .int .u8 100] 2 2 (w6.alloc (.cells #[.slice xa 2 xc, .int .u64 1, .int .i64 1, .slice ya 1 yc] 28))
  have b8 := (Below.refl _ (w6.alloc (.cells #[.slice xa 2 xc, .int .u64 1, .int .i64 1, .slice ya 1 yc] 28))).alloc (Nat.le_refl _) (.cells #[.int .u8 97, .int .u8 100] 5 (2, 3))
  have HSK2 := hide (seek_ad gb cb (some ⟨(w6.alloc (.cells #[.slice xa 2 xc, .int .u64 1, .int .i64 1, .slice ya 1 yc] 28)).heap.size, 0, none⟩) 2 _ (((HY5.out.below b6).below b7).below b8) hcb (Bytes.new (w6.alloc (.cells #[.slice xa 2 xc, .int .u64 1, .int .i64 1, .slice ya 1 yc] 28)) #[.int .u8 97, .int .u8 100] 5 2 (2, 3) [97#8, 100#8] rfl))
  have HY8 := hide (((HY5.out.below b6).below b7).below b8)
  have HV8 := hide ((hv.below b7).below b8)
  have N8 := hide (heap_keep b8 n7)
  have hs7 := Nat.le_trans hs6 b7.size
  have B8 := hide (((B5.out.trans (b6.mono hs5)).trans (b7.mono hs6)).trans (b8.mono hs7))
  have hs8 := Nat.le_trans hs7 b8.size
  rw [World.size_alloc] at hcv2 HSK2
  clear HSK b6 hv b7 b8 n7 hcv HY HY5
  go_wp2_with fail
  generalize (w6.alloc (.cells #[.slice xa 2 xc, .int .u64 1, .int .i64 1, .slice ya 1 yc] 28)).alloc (.cells #[.int .u8 97, .int .u8 100] 5 (2, 3)) = w8 at *
  refine HSK2.out.mono ?_
  rintro e w9 ⟨⟨rd, rfl⟩, b9⟩
  have b10 := (Below.refl w9.heap.size w9).alloc (Nat.le_refl _) (.cells #[.slice none 0 0, .int .u64 0, .int .i64 0, .slice none 0 0] 28)
  have b11 := (Below.refl _ (w9.alloc (.cells #[.slice none 0 0, .int .u64 0, .int .i64 0, .slice none 0 0] 28))).alloc (Nat.le_refl _) (.cells #[.int .u8 0, .int .u8 2, .int .u8 5, .int .u8 1, .int .u8 97, .int .u8 98, .int .u8 120, .int .u8 1, .int .u8 1, .int .u8 5, .int .u8 1, .int .u8 99, .int .u8 121, .int .u8 0, .int .u8 0, .int .u8 0, .int .u8 0, .int .u8 1, .int .u8 0, .int .u8 0, .int .u8 0] 5)
  have hnew := Bytes.new (w9.alloc (.cells #[.slice none 0 0, .int .u64 0, .int .i64 0, .slice none 0 0] 28)) #[.int .u8 0, .int .u8 2, .int .u8 5, .int .u8 1, .int .u8 97, .int .u8 98, .int .u8 120, .int .u8 1, .int .u8 1, .int .u8 5, .int .u8 1, .int .u8 99, .int .u8 121, .int .u8 0, .int .u8 0, .int .u8 0, .int .u8 0, .int .u8 1, .int .u8 0, .int .u8 0, .int .u8 0] 5 21 (0, 0) (blkB [eA, eB]) (by rw [blk_ex]; rfl)
  have hL21 : (blkB [eA, eB]).length = 21 := by rw [blk_ex]; rfl
  rw [hL21] at hnew
  have HBY := hide (bytes_any (some ⟨gb, 0, none⟩) _ 21 21 cb 21 _ _ _ (((HY8.out.below b9).below b10).below b11) hnew (by decide))
  have HV11 := hide (((HV8.out.below b9).below b10).below b11)
  have N11 := hide (heap_keep b11 (heap_keep b10 (heap_keep b9 N8.out)))
  have hs9 := Nat.le_trans hs8 b9.size
  have hs10 := Nat.le_trans hs9 b10.size
  have B11 := hide (((B8.out.trans (b9.mono hs8)).trans (b10.mono hs9)).trans (b11.mono hs10))
  rw [World.size_alloc] at HBY
  clear HSK2 b9 b10 b11 hnew hcv2 HY8 HV8 hL21
  go_wp2_with fail
  generalize (w9.alloc (.cells #[.slice none 0 0, .int .u64 0, .int .i64 0, .slice none 0 0] 28)).alloc (.cells #[.int .u8 0, .int .u8 2, .int .u8 5, .int .u8 1, .int .u8 97, .int .u8 98, .int .u8 120, .int .u8 1, .int .u8 1, .int .u8 5, .int .u8 1, .int .u8 99, .int .u8 121, .int .u8 0, .int .u8 0, .int .u8 0, .int .u8 0, .int .u8 1, .int .u8 0, .int .u8 0, .int .u8 0] 5) = w11 at *
  refine HBY.out.mono ?_
  rintro e w12 ⟨rfl, m12, rfl⟩
  have f3 : (w11.drewN m12).cell? ⟨w6.heap.size, 3, none⟩ = some (.slice ya 1 yc) := cell_of_row w11 w6.heap.size 3 _ 28 (0, 0) N11.out
  have cvs : (convert 22 9 (.slice ya 1 yc)).run Try.prog (w11.drewN m12) = .ok (.string ⟨#[121]⟩) (w11.drewN m12) := conv_any (HV11.out.drewN m12)
  have B12 := hide (belowN B11.out m12)
  generalize w11.drewN m12 = w12 at *
  clear HBY
  go_wp2_with fail
  go_ret
  exact ⟨rfl, B12.out⟩
end Go.Proofs.Ytolaaodhnhdadaa
