/-
  The chapter's examples, all of them.
-/
import Derived.Test.YtppikddjdjmakaaLv
namespace Go.Proofs.Ytppikddjdjmakaa
open Go.RowKit
set_option maxRecDepth 100000
set_option maxHeartbeats 4000000
theorem bits_neg (w : World) : Calls Try.prog 6 #[.int .i64 (-1), .int .i64 10] w fun e w' => e = .returned (.tuple #[.int .i64 0, .int .i64 0, .int .i64 2]) ∧ w' = w := bits_arg (-1) 10 (.inl (by decide)) w
theorem bits_big (w : World) : Calls Try.prog 6 #[.int .i64 8388608, .int .i64 10] w fun e w' => e = .returned (.tuple #[.int .i64 0, .int .i64 0, .int .i64 3]) ∧ w' = w := bits_long 8388608 10 (by decide) (by decide) (by decide) (by decide) w
theorem has_nil (w : World) : Calls Try.prog 9 #[.slice none 0 0, .slice none 0 0] w fun e w' => e = .returned (.bool true) ∧ Below w.heap.size w w' := has_short none none 0 0 0 0 w (.inl (by decide))
theorem has_odd (w : World) (a : Option Addr) (c : Nat) (h : Bytes w (.slice a 2 c) [0#8, 31#8]) : Calls Try.prog 9 #[.slice a 2 c, .slice none 0 0] w fun e w' => e = .returned (.bool true) ∧ Below w.heap.size w w' := by
  have h1 := has_any a none 2 c 0 0 [0#8, 31#8] [] w h (Bytes.empty w) (by decide)
  rw [show hasB [0#8, 31#8] [] = true by kernel_rfl] at h1
  exact h1
theorem names_any (w : World) : Calls Try.prog 3 #[] w fun e w' => e = .returned (.bool true) ∧ Below w.heap.size w w' := by
  have cv1 := conv25 #[.int .u8 97] 1 1 w
  have x1 := bytes_new w #[.int .u8 97] (1, 2) 1 1 [97#8] rfl rfl
  have b1 := (Below.refl w.heap.size w).alloc (Nat.le_refl _) (.cells #[.int .u8 97] 5 (1, 2))
  have n3 := heap_alloc_new (w.alloc (.cells #[.int .u8 97] 5 (1, 2))) (.cells #[.slice (some ⟨w.heap.size, 0, none⟩) 1 1] 25)
  have b3 := (Below.refl _ (w.alloc (.cells #[.int .u8 97] 5 (1, 2)))).alloc (Nat.le_refl _) (.cells #[.slice (some ⟨w.heap.size, 0, none⟩) 1 1] 25)
  have HMK := hide (make_a _ _ _ 1 n3 (x1.below b3))
  simp only [World.size_alloc] at HMK
  have BB := hide (b1.trans (b3.mono b1.size))
  clear n3 x1 b3 b1
  go_enter Try.func3, Try.ntmps3
  go_wp2_with fail
  refine (bits_neg _).mono ?_
  rintro e w1 ⟨rfl, rfl⟩
  go_wp2_with fail
  refine (bits_big _).mono ?_
  rintro e w2 ⟨rfl, rfl⟩
  go_wp2_with fail
  refine HMK.out.mono ?_
  rintro e w3 ⟨rfl, hrow, b3⟩
  have HROW := hide hrow
  have hb3 := BB.out.trans (b3.mono (by omega))
  have B3 := hide hb3
  have hs3 := hb3.size
  clear HMK hrow b3 hb3 cv1 BB
  go_wp2_with fail
  refine (lives_any _).mono ?_
  rintro e w4 ⟨rfl, b4⟩
  have F4 := hide (show FRow w4 (w2.heap.size + 1 + 1) (filt [[97#8]] 10) from heap_keep b4 HROW.out)
  have B4 := hide (B3.out.trans (b4.mono hs3))
  have hs4 := B4.out.size
  clear b4 HROW B3
  have cv5 := conv25 #[.int .u8 122, .int .u8 122, .int .u8 122] 3 3 w4
  have x5 := bytes_new w4 #[.int .u8 122, .int .u8 122, .int .u8 122] (3, 4) 3 3 [122#8, 122#8, 122#8] rfl rfl
  have b5 := (Below.refl w4.heap.size w4).alloc (Nat.le_refl _) (.cells #[.int .u8 122, .int .u8 122, .int .u8 122] 5 (3, 4))
  have HHS := hide (has_any (some ⟨w2.heap.size + 1 + 1, 0, none⟩) (some ⟨w4.heap.size, 0, none⟩) 9 9 3 3 (filt [[97#8]] 10) [122#8, 122#8, 122#8] _ ((frow_bytes F4.out (by rw [filt_length]; rfl)).below b5) x5 (by decide))
  rw [show hasB (filt [[97#8]] 10) [122#8, 122#8, 122#8] = false by kernel_rfl] at HHS
  have B5 := hide (B4.out.trans (b5.mono hs4))
  have hs5 := B5.out.size
  clear x5 b5
  go_wp2_with fail
  refine HHS.out.mono ?_
  rintro e w6 ⟨rfl, b6⟩
  have B6 := hide (B5.out.trans (b6.mono hs5))
  have hs6 := B6.out.size
  clear b6 HHS cv5
  go_wp2_with fail
  refine (has_nil _).mono ?_
  rintro e w7 ⟨rfl, b7⟩
  have B7 := hide (B6.out.trans (b7.mono hs6))
  have hs7 := B7.out.size
  have x8 := bytes_new w7 #[.int .u8 0, .int .u8 31] (0, 0) 2 2 [0#8, 31#8] rfl rfl
  have b8 := (Below.refl w7.heap.size w7).alloc (Nat.le_refl _) (.cells #[.int .u8 0, .int .u8 31] 5)
  have HHO := hide (has_odd _ _ _ x8)
  have B8 := hide (B7.out.trans (b8.mono hs7))
  have hs8 := B8.out.size
  clear b7 x8 b8
  go_wp2_with fail
  refine HHO.out.mono ?_
  rintro e w9 ⟨rfl, b9⟩
  have B9 := hide (B8.out.trans (b9.mono hs8))
  clear b9 HHO
  go_wp2_with fail
  go_ret
  exact ⟨rfl, B9.out⟩
end Go.Proofs.Ytppikddjdjmakaa
