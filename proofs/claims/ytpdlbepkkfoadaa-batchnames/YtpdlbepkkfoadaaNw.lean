/-
  The chapter's examples, all of them.
-/
import Derived.Test.YtpdlbepkkfoadaaLv
namespace Go.Proofs.Ytpdlbepkkfoadaa
open Go.RowKit
set_option maxRecDepth 100000
set_option maxHeartbeats 4000000
def zeros : List (BitVec 8) := List.replicate 4097 0#8
theorem make4097 (w : World) : ∃ cs : Array Value, (Instr.makeSlice 22 (.int .i64 4097) (.int .i64 4097)).run Try.prog w = .ok (.slice (some ⟨w.heap.size, 0, none⟩) 4097 4097) (w.alloc (.cells cs 5)) ∧ Bytes (w.alloc (.cells cs 5)) (.slice (some ⟨w.heap.size, 0, none⟩) 4097 4097) zeros := by
  have hr := run_make (P := Try.prog) w 22 5 Try.t5 (.int .u8 0) Try.underlying22 info5 zero5 .i64 .i64 4097 4097 (by decide) (by decide) (by rw [bytes5]; decide) (by decide)
  rw [sz5] at hr
  refine ⟨_, hr, _, 4097, by rw [zeros, List.length_replicate], fun k hk => ⟨w.heap.size, 0, rfl, ?_⟩⟩
  have hk' : k < 4097 := by rw [zeros, List.length_replicate] at hk; exact hk
  rw [Nat.zero_add, cell_of_row _ _ k _ 5 (0, 0) (heap_alloc_new w _)]
  have h1 : (zeros.getD k 0).toNat = 0 := by
    simp only [zeros, List.getD, List.getElem?_replicate, if_pos hk', Option.getD_some]
    rfl
  rw [h1]
  have h2 : k < (madeCells (Value.int .u8 0).cells (Int.toNat 4097 * 1)).size := by rw [size_madeCells]; exact hk'
  rw [Array.getElem?_eq_getElem h2]
  simp only [madeCells, Array.getElem_map, Array.getElem_range]
  have h3 : (Value.int .u8 0).cells = #[Value.int .u8 0] := rfl
  rw [h3]
  have h4 : k % (#[Value.int .u8 0] : Array Value).size = 0 := by show k % 1 = 0; omega
  rw [h4]
  rfl
theorem long_smol : Smol [(1, zeros, [])] := ⟨by decide, by simp only [tot, zeros, List.map_cons, List.map_nil, List.sum_cons, List.sum_nil, List.length_replicate, List.length_nil]; decide⟩
theorem long_chk : chk 1 [(1, zeros, [])] = 3 := by
  have hl : zeros.length = 4097 := List.length_replicate ..
  simp [chk, wrongW, longW, hl]
theorem big_smol : Smol [((1 : Int), [97#8], [])] := ⟨by decide, by decide⟩
theorem big_chk : chk 72057594037927936 [((1 : Int), [97#8], [])] = 3 := by decide
theorem odd_smol : Smol [((3 : Int), [97#8], [])] := ⟨by decide, by decide⟩
theorem odd_chk : chk 1 [((3 : Int), [97#8], [])] = 2 := by decide
theorem names_any (w : World) : Calls Try.prog 3 #[] w fun e w' => e = .returned (.bool true) ∧ Below w.heap.size w w' := by
  have hcv := conv22
  obtain ⟨cs, hmk, hz⟩ := make4097 w
  have hb : Below w.heap.size w (w.alloc (.cells cs 5)) := (Below.refl _ _).alloc (Nat.le_refl _) _
  have n1 := heap_alloc_new (w.alloc (.cells cs 5)) (.cells #[.int .i64 1, .slice (some ⟨w.heap.size, 0, none⟩) 4097 4097, .slice none 0 0] 24)
  rw [World.size_alloc] at n1
  have b1 := hb.alloc hb.size (.cells #[.int .i64 1, .slice (some ⟨w.heap.size, 0, none⟩) 4097 4097, .slice none 0 0] 24)
  have hz1 := hz.below ((Below.refl _ _).alloc (Nat.le_refl _) (.cells #[.int .i64 1, .slice (some ⟨w.heap.size, 0, none⟩) 4097 4097, .slice none 0 0] 24))
  have N1 := hide n1
  have B1 := hide b1
  have Z1 := hide hz1
  clear hb n1 b1 hz1 hz
  go_enter Try.func3, Try.ntmps3
  go_wp2_with fail
  generalize (w.alloc (.cells cs 5)).alloc (.cells #[.int .i64 1, .slice (some ⟨w.heap.size, 0, none⟩) 4097 4097, .slice none 0 0] 24) = w1 at *
  clear hmk
  refine (lives_any w1).mono ?_
  rintro e w2 ⟨rfl, b2⟩
  have n2 := heap_keep b2 N1.out
  have c0 := cell_of_row w2 _ 0 _ 24 (0, 0) n2
  have c1 := cell_of_row w2 _ 1 _ 24 (0, 0) n2
  have c2 := cell_of_row w2 _ 2 _ 24 (0, 0) n2
  simp at c0 c1 c2
  have n3 := heap_alloc_new w2 (.cells #[.int .i64 1, .slice (some ⟨w.heap.size, 0, none⟩) 4097 4097, .slice none 0 0] 24)
  have b3 := (Below.refl w2.heap.size w2).alloc (Nat.le_refl _) (.cells #[.int .i64 1, .slice (some ⟨w.heap.size, 0, none⟩) 4097 4097, .slice none 0 0] 24)
  have HW3 := hide (wrs_one (c := 1) n3 ((Z1.out.below b2).below b3) (Bytes.empty _))
  have B3 := hide ((B1.out.trans (b2.mono B1.out.size)).trans (b3.mono (Nat.le_trans B1.out.size b2.size)))
  clear n2 n3 b2 b3 N1 B1 Z1
  go_wp2_with fail
  refine (check_any 1 (by decide) _ 1 1 [(1, zeros, [])] _ HW3.out long_smol).mono ?_
  rintro e w4 ⟨rfl, b4⟩
  rw [long_chk]
  have B4 := hide (B3.out.trans (b4.mono B3.out.size))
  clear b4 HW3 B3 c0 c1 c2
  go_wp2_with fail
  have b5 := (Below.refl w4.heap.size w4).alloc (Nat.le_refl _) (.cells #[.int .u8 97] 5 (1, 2))
  have k5 : Bytes (w4.alloc (.cells #[.int .u8 97] 5 (1, 2))) (.slice (some ⟨w4.heap.size, 0, none⟩) 1 1) [97#8] := Bytes.new w4 #[.int .u8 97] 5 1 (1, 2) [97#8] rfl
  refine (checkEntry_any 72057594037927936 (by decide) 1 _ none 1 1 0 0 [97#8] [] _ k5 (Bytes.empty _) big_smol).mono ?_
  rintro e w6 ⟨rfl, b6⟩
  rw [big_chk]
  have B6 := hide ((B4.out.trans (b5.mono B4.out.size)).trans (b6.mono (Nat.le_trans B4.out.size b5.size)))
  clear b5 b6 k5 B4
  go_wp2_with fail
  have b7 := (Below.refl w6.heap.size w6).alloc (Nat.le_refl _) (.cells #[.int .u8 97] 5 (1, 2))
  have k7 : Bytes (w6.alloc (.cells #[.int .u8 97] 5 (1, 2))) (.slice (some ⟨w6.heap.size, 0, none⟩) 1 1) [97#8] := Bytes.new w6 #[.int .u8 97] 5 1 (1, 2) [97#8] rfl
  refine (checkEntry_any 1 (by decide) 3 _ none 1 1 0 0 [97#8] [] _ k7 (Bytes.empty _) odd_smol).mono ?_
  rintro e w8 ⟨rfl, b8⟩
  rw [odd_chk]
  have B8 := hide ((B6.out.trans (b7.mono B6.out.size)).trans (b8.mono (Nat.le_trans B6.out.size b7.size)))
  clear b7 b8 k7 B6
  go_wp2_with fail
  refine (put_any _ _ _).mono ?_
  rintro e w9 ⟨ka, kc, va, vc, rfl, _, _, b9⟩
  have B9 := hide (B8.out.trans (b9.mono B8.out.size))
  clear b9 B8
  go_wp2_with fail
  refine (put_any _ _ _).mono ?_
  rintro e w10 ⟨kb, kc', vb, vc', rfl, _, _, b10⟩
  have B10 := hide (B9.out.trans (b10.mono B9.out.size))
  clear b10 B9
  go_wp2_with fail
  refine (last_any 9 _ 2 2 _).mono ?_
  rintro e w11 ⟨rfl, b11⟩
  have B11 := hide ((B10.out.alloc B10.out.size _).trans (b11.mono (Nat.le_trans B10.out.size (by simp))))
  clear b11 B10
  go_wp2_with fail
  go_ret
  exact ⟨rfl, B11.out⟩
end Go.Proofs.Ytpdlbepkkfoadaa
