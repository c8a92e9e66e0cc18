/-
  The examples of rows that are cut or turned, and of a frame that is too long.
-/
import Derived.Test.YtpighnknldhigaaLives
namespace Go.Proofs.Ytpighnknldhigaa
open Go.RowKit

def bx : List (BitVec 8) := [120#8]
def byz : List (BitVec 8) := [121#8, 122#8]
theorem tornYz : Fr.fault (Crc32.turn (Fr.frameB 2#8 byz) 66) = 4 := by decide +kernel
theorem rowNames : Fr.row (Crc32.turn (Fr.frameB 1#8 bx ++ Fr.frameB 2#8 byz) 170) = ([(1#8, bx)], 13, 4) := by
  rw [Fr.turn_right _ _ _ (by decide), show 170 - 8 * (Fr.frameB 1#8 bx).length = 66 from rfl, Fr.row_frame 1#8 bx _ (by decide), Fr.row_torn (by rw [Crc32.turn_length]; decide) (by rw [tornYz]; decide), tornYz]
  rfl
theorem makeBig : ∃ cs : Array Value, ∀ w : World, (Instr.makeSlice 22 (.int .i64 1048577) (.int .i64 1048577)).run Try.prog w = .ok (.slice (some ⟨w.heap.size, 0, Option.none⟩) 1048577 1048577) (w.alloc (.cells cs 5)) :=
  ⟨_, fun w => run_make (P := Try.prog) w 22 5 Try.t5 (.int .u8 0) Try.underlying22 info5 zero5 .i64 .i64 1048577 1048577 (by decide) (by decide) (by rw [bytes5]; decide) (by decide)⟩
theorem RowB.set {w : World} {g c : Nat} {bs : List (BitVec 8)} (h : RowB w g c bs) (p : Nat) (hp : p / 8 < bs.length) : RowB (w.setCell ⟨g, p / 8, Option.none⟩ (.int .u8 ((bs.getD (p / 8) 0 ^^^ 1#8 <<< (p % 8)).toNat : Int))) g c (Crc32.turn bs p) := by
  obtain ⟨cs, h1, h2, h3⟩ := h
  refine ⟨_, heap_setCell_same w g _ cs 5 _ h1, by simpa using h2, fun k hk => ?_⟩
  have hk' : k < bs.length := by simpa [cellsOf, Crc32.turn] using hk
  have hs : k < cs.size := by
    have := h3 k (by simpa [cellsOf] using hk')
    rcases Nat.lt_or_ge k cs.size with h | h
    · exact h
    · rw [Array.getElem?_eq_none h] at this; simp [cellsOf, hk'] at this
  rw [Array.getElem?_setIfInBounds]
  by_cases e : p / 8 = k
  · subst e
    rw [if_pos rfl, if_pos hs]
    simp [cellsOf, Crc32.turn, hp, List.getD]
  · rw [if_neg e, h3 k (by simpa [cellsOf] using hk')]
    simp [cellsOf, Crc32.turn, e]

set_option maxRecDepth 100000 in
set_option maxHeartbeats 2000000 in
theorem names_any (w : World) :
    Calls Try.prog 3 #[] w fun e w' => e = .returned (.bool true) ∧ Below w.heap.size w w' := by
  have hcv := conv22
  go_enter Try.func3, Try.ntmps3
  go_wp2_with fail
  have b0 : Below w.heap.size w (w.alloc (.cells #[.int .u8 120] 5 (1, 2))) := (Below.refl _ _).alloc (Nat.le_refl _) _
  refine (append_any (.slice Option.none 0 0) [] 1#8 _ 1 1 bx _ (Bytes.none _) (Bytes.new w _ 5 1 _ bx rfl) (by decide) (by decide)).mono ?_
  rintro e w1 ⟨g, cp, m, rfl, hm, hg, hcp, hrow, b1⟩
  rw [List.nil_append] at hm hrow
  have hm13 : m = 13 := hm
  subst hm13
  have B1 := hide (then_below b0 b1 (Nat.le_refl _))
  have R1 := hide hrow
  clear hm b0 b1 hrow
  go_wp2_with fail
  refine (own_any _ (Fr.frameB 1#8 bx) _ (RowB.bytes R1.out rfl) (by decide)).mono ?_
  rintro e w2 ⟨g2, c2, rfl, hg2, hc2, r2, b2⟩
  rw [show (Fr.frameB 1#8 bx).length = 13 from rfl]
  have B2 := hide (then_below B1.out b2 (Nat.le_refl _))
  have R2 := hide r2
  have R1b := hide (RowC.below R1.out b2)
  clear b2 r2
  go_wp2_with fail
  have b3 : Below w2.heap.size w2 (w2.alloc (.cells #[.int .u8 121, .int .u8 122] 5 (2, 3))) := (Below.refl _ _).alloc (Nat.le_refl _) _
  refine (append_any (.slice (some ⟨g2, 0, Option.none⟩) 13 c2) (Fr.frameB 1#8 bx) 2#8 _ 2 2 byz _ (RowB.bytes (RowC.below R2.out b3) rfl) (Bytes.new w2 _ 5 2 _ byz rfl) (by decide) (by decide)).mono ?_
  rintro e w3 ⟨g3, c3, m, rfl, hm, hg3, hc3, hrow, b4⟩
  have hm27 : m = 27 := hm
  subst hm27
  have B3 := hide (then_below (then_below B2.out b3 (Nat.le_refl _)) b4 (Nat.le_refl _))
  have R3 := hide hrow
  have R1c := hide (RowC.below (RowC.below R1b.out b3) b4)
  have hg3w : w.heap.size ≤ g3 := Nat.le_trans (Nat.le_trans B2.out.size b3.size) hg3
  have hgg : g ≠ g3 := by
    have h1 := lt_of_heap (R1b.out.choose_spec.1)
    have h2 := b3.size
    omega
  have hcell : w3.cell? ⟨g3, 21, Option.none⟩ = some (.int .u8 121) := by
    have := (RowB.bytes (c' := c3) hrow rfl).at 21 (by decide)
    simpa [Fr.frameB, Fr.headB, Fr.plain, Fr.msum, Fr.four, bx, byz] using this
  have hfrz : w3.frozen? ⟨g3, 21, Option.none⟩ = false := frozen_of_row w3 g3 21 _ 5 (hrow.choose_spec.1)
  have hxor : bits .xor .u8 121 4 = 125 := by decide +kernel
  clear hm b3 b4 hrow
  go_wp2_with fail
  have hgd : (Fr.frameB 1#8 bx ++ Fr.frameB 2#8 byz).getD 21 0 = 121#8 := by simp [Fr.frameB, Fr.headB, Fr.plain, Fr.msum, Fr.four, bx, byz]
  have R4 : RowB (w3.setCell ⟨g3, 21, Option.none⟩ (.int .u8 125)) g3 c3 (Crc32.turn (Fr.frameB 1#8 bx ++ Fr.frameB 2#8 byz) 170) := by
    have := RowB.set R3.out 170 (by decide)
    rw [show 170 / 8 = 21 from rfl, hgd] at this
    exact this
  have R1d : RowB (w3.setCell ⟨g3, 21, Option.none⟩ (.int .u8 125)) g cp (Fr.frameB 1#8 bx) := by
    obtain ⟨cs, h1, h2, h3⟩ := R1c.out
    exact ⟨cs, (heap_setCell_other _ _ _ _ (by exact hgg)).trans h1, h2, h3⟩
  have B4 := hide (B3.out.setCell (p := ⟨g3, 21, Option.none⟩) hg3w (.int .u8 125))
  refine (row_any _ 27 c3 _ _ (RowB.bytes R4 (by rw [Crc32.turn_length]; rfl)) hc3 (by rw [Crc32.turn_length]; decide)).mono ?_
  rintro e w4 ⟨lv, rfl, hl, b5⟩
  rw [rowNames] at hl ⊢
  rcases hl with ⟨h, _⟩ | ⟨gl, cl, ps, rfl, _⟩
  · cases h
  have B5 := hide (then_below B4.out b5 (Nat.le_refl _))
  have R5 := hide (RowC.below R1d b5)
  clear b5 R4 R1d hgd hcell hfrz
  go_wp2_with fail
  have hcut : Fr.fault ((Fr.frameB 1#8 bx).take 12) = 12 := Fr.fault_cut 1#8 bx (by decide) 12 (by decide)
  have h12 : Bytes w4 (.slice (some ⟨g, 0, Option.none⟩) 12 cp) ((Fr.frameB 1#8 bx).take 12) := by
    have := (RowB.bytes (c' := cp) R5.out rfl).part 0 12 cp (by decide)
    rwa [List.drop_zero] at this
  refine (read_torn _ 12 cp _ _ h12 (by omega) (by decide) (by rw [hcut]; decide)).mono ?_
  rintro e w5 ⟨rfl, b6⟩
  rw [hcut]
  have B6 := hide (then_below B5.out b6 (Nat.le_refl _))
  clear b6 h12 hcut
  obtain ⟨cs, hbig⟩ := makeBig
  go_wp2_with fail
  have b7 : Below w5.heap.size w5 ((w5.alloc (.cells #[.int .u8 0, .slice Option.none 0 0] 27)).alloc (.cells cs 5)) := ((Below.refl _ _).alloc (Nat.le_refl _) _).alloc (by simp) _
  have B7 := hide (then_below B6.out b7 (Nat.le_refl _))
  refine (append_long (.slice Option.none 0 0) 0#8 _ 1048577 1048577 (by decide) _).mono ?_
  rintro e w6 ⟨rfl, b8⟩
  have B8 := hide (then_below B7.out b8 (Nat.le_refl _))
  clear b7 b8 hbig
  go_wp2_with fail
  refine (lives_any _).mono ?_
  rintro e w7 ⟨rfl, b9⟩
  have B9 := hide (then_below B8.out b9 (Nat.le_refl _))
  clear b9
  go_wp2_with fail
  go_ret
  exact ⟨rfl, B9.out⟩
end Go.Proofs.Ytpighnknldhigaa
