/-
  The chapter's examples come out as it tells.
-/
import Derived.Test.YtpighnknldhigaaRowOf
import Derived.Test.YtpighnknldhigaaAppend
import Derived.Lib.SlBytesConst
import Derived.Laws.IdiomStrings
namespace Go.Proofs.Ytpighnknldhigaa
open Go.RowKit

/-- Bytes in a new row. -/
theorem Bytes.new (w : World) (cs : Array Value) (t c : Nat) (fr : Nat × Nat) (bs : List (BitVec 8)) (h : cs = (bs.map fun b => Value.int .u8 (b.toNat : Int)).toArray) :
    Bytes (w.alloc (.cells cs t fr)) (.slice (some ⟨w.heap.size, 0, Option.none⟩) bs.length c) bs :=
  ⟨_, c, rfl, fun k hk => ⟨w.heap.size, 0, rfl, by
    rw [Nat.zero_add, cell_of_row _ _ k cs t fr (heap_alloc_new w _), h]
    simp [hk]⟩⟩
theorem Bytes.none (w : World) : Bytes w (.slice Option.none 0 0) [] := ⟨_, 0, rfl, fun k hk => by simp at hk⟩
theorem conv22 (C : Array Value) (n c : Nat) (w : World) : (convert 22 22 (.slice (some ⟨w.heap.size, 0, Option.none⟩) n c)).run Try.prog (w.alloc (.cells C 5)) = .ok (.slice (some ⟨w.heap.size, 0, Option.none⟩) n c) (w.alloc (.cells C 5 (C.size, C.size + 1))) :=
  Lib.run_convert_bytes_const w 22 5 C n c Try.underlying22 Try.underlying5

def hello : List (BitVec 8) := [104#8, 101#8, 108#8, 108#8, 111#8]
def zero7 : List (BitVec 8) := List.replicate 7 0#8
def zeros8 : List (BitVec 8) := List.replicate 8 0#8
theorem fault7 : Fr.fault zero7 = 12 := by decide +kernel
theorem fault8 : Fr.fault zeros8 = 4 := by decide +kernel
theorem make7 (w : World) : (Instr.makeSlice 22 (.int .i64 7) (.int .i64 7)).run Try.prog w = .ok (.slice (some ⟨w.heap.size, 0, Option.none⟩) 7 7) (w.alloc (.cells #[.int .u8 0, .int .u8 0, .int .u8 0, .int .u8 0, .int .u8 0, .int .u8 0, .int .u8 0] 5)) := by kernel_rfl
theorem make8 (w : World) : (Instr.makeSlice 22 (.int .i64 8) (.int .i64 8)).run Try.prog w = .ok (.slice (some ⟨w.heap.size, 0, Option.none⟩) 8 8) (w.alloc (.cells #[.int .u8 0, .int .u8 0, .int .u8 0, .int .u8 0, .int .u8 0, .int .u8 0, .int .u8 0, .int .u8 0] 5)) := by kernel_rfl

set_option maxRecDepth 100000 in
set_option maxHeartbeats 2000000 in
theorem lives_any (w : World) :
    Calls Try.prog 11 #[] w fun e w' => e = .returned (.bool true) ∧ Below w.heap.size w w' := by
  have hcv := conv22
  go_enter Try.func11, Try.ntmps11
  go_wp2_with fail
  have b0 : Below w.heap.size w (w.alloc (.cells #[.int .u8 104, .int .u8 101, .int .u8 108, .int .u8 108, .int .u8 111] 5 (5, 6))) := (Below.refl _ _).alloc (Nat.le_refl _) _
  refine (append_any (.slice Option.none 0 0) [] 7#8 _ 5 5 hello _ (Bytes.none _) (Bytes.new w _ 5 5 _ hello rfl) (by decide) (by decide)).mono ?_
  rintro e w1 ⟨g, cp, m, rfl, hm, hg, hcp, hrow, b1⟩
  rw [List.nil_append] at hm hrow
  have hm17 : m = 17 := hm
  subst hm17
  have B1 := hide (then_below b0 b1 (Nat.le_refl _))
  have R1 := hide hrow
  clear hm b0 b1 hrow
  have hfl : (Fr.frameB 7#8 hello).length = 17 := rfl
  have hf0 : Fr.fault (Fr.frameB 7#8 hello ++ [1#8]) = 0 := Fr.fault_frame 7#8 hello [1#8] (by decide)
  have hln : Fr.lenOf (Fr.frameB 7#8 hello ++ [1#8]) = 5 := Fr.frame_len 7#8 hello [1#8] (by decide)
  have hbd : Fr.bodyOf (Fr.frameB 7#8 hello ++ [1#8]) = hello := Fr.frame_body 7#8 hello [1#8] (by decide)
  have hk0 : (Fr.frameB 7#8 hello ++ [1#8]).getD 0 0 = 7#8 := rfl
  have HFL := hide hfl
  have HF0 := hide hf0
  have HLN := hide hln
  have HBD := hide hbd
  have HK0 := hide hk0
  clear hfl hf0 hln hbd hk0
  generalize hFB : Fr.frameB 7#8 hello = fb at *
  clear hFB
  go_wp2_with fail
  refine (own_any _ fb _ (RowB.bytes R1.out HFL.out.symm) (by rw [HFL.out]; decide)).mono ?_
  rintro e w2 ⟨g2, c2, rfl, hg2, hc2, r2, b2⟩
  rw [HFL.out] at hc2 ⊢
  have B2 := hide (then_below B1.out b2 (Nat.le_refl _))
  have R2 := hide r2
  have hg2w : w.heap.size ≤ g2 := Nat.le_trans B1.out.size hg2
  have bA : Below w2.heap.size w2 (w2.alloc (.cells #[.int .u8 1] 5)) := (Below.refl _ _).alloc (Nat.le_refl _) _
  obtain ⟨g3, c3, w3, hr3, hg3, r3, b3, hc3, _⟩ := append_bytes (w2.alloc (.cells #[.int .u8 1] 5)) w.heap.size (some ⟨g2, 0, Option.none⟩) 17 c2 fb HFL.out.symm (.slice (some ⟨w2.heap.size, 0, Option.none⟩) 1 1) [1#8] 1 rfl (Bytes.new w2 _ 5 1 _ [1#8] rfl) (Nat.le_trans B2.out.size bA.size) (.inr ⟨g2, rfl, hg2w, hc2, RowC.below R2.out bA⟩) (by decide)
  have B3 := hide ((B2.out.trans (bA.mono B2.out.size)).trans b3)
  have R3 := hide r3
  have HR3 := hide hr3
  have hfl18 : (fb ++ [1#8]).length = 18 := by rw [List.length_append, HFL.out]; rfl
  have H18 := hide hfl18
  clear r2 b2 bA r3 b3 hr3 hfl18
  go_wp2_with (at_builtin; refine wpList_append_run rfl _ _ 22 rfl _ _ rfl rfl _ _ (HR3.out _) ?_; clear HR3)
  refine (read_whole g3 0 (17 + 1) c3 (fb ++ [1#8]) _ (RowB.bytes R3.out H18.out.symm) hc3 (by rw [H18.out]; decide) HF0.out).mono ?_
  rintro e w4 ⟨g4, c4, rfl, hg4, hc4, r4, b4⟩
  rw [HLN.out, HK0.out]
  rw [HLN.out] at hc4
  rw [HBD.out] at r4
  have B4 := hide (then_below B3.out b4 (Nat.le_refl _))
  have R4 := hide r4
  clear r4 b4
  have hmk7 := make7
  go_wp2_with fail
  have b5 : Below w4.heap.size w4 ((w4.alloc (.cells #[.int .u8 7, .slice (some ⟨g4, 0, Option.none⟩) 5 c4] 27)).alloc (.cells #[.int .u8 0, .int .u8 0, .int .u8 0, .int .u8 0, .int .u8 0, .int .u8 0, .int .u8 0] 5)) := ((Below.refl _ _).alloc (Nat.le_refl _) _).alloc (by simp) _
  have hF5 : ((w4.alloc (.cells #[.int .u8 7, .slice (some ⟨g4, 0, Option.none⟩) 5 c4] 27)).alloc (.cells #[.int .u8 0, .int .u8 0, .int .u8 0, .int .u8 0, .int .u8 0, .int .u8 0, .int .u8 0] 5)).heap[w4.heap.size]? = some (.cells #[.int .u8 7, .slice (some ⟨g4, 0, Option.none⟩) 5 c4] 27 (0, 0)) := (heap_alloc_old _ _ (by simp)).trans (heap_alloc_new w4 _)
  have hv7 := Bytes.new (w4.alloc (.cells #[.int .u8 7, .slice (some ⟨g4, 0, Option.none⟩) 5 c4] 27)) #[.int .u8 0, .int .u8 0, .int .u8 0, .int .u8 0, .int .u8 0, .int .u8 0, .int .u8 0] 5 7 (0, 0) zero7 rfl
  rw [show (w4.alloc (.cells #[.int .u8 7, .slice (some ⟨g4, 0, Option.none⟩) 5 c4] 27)).heap.size = w4.heap.size + 1 by simp] at hv7
  refine (read_torn _ 7 7 zero7 _ hv7 (Nat.le_refl _) (by decide) (by rw [fault7]; decide)).mono ?_
  rintro e w5 ⟨rfl, b6⟩
  rw [fault7]
  have B5 := hide (then_below (then_below B4.out b5 (Nat.le_refl _)) b6 (Nat.le_refl _))
  have F5 := hide (heap_keep b6 hF5)
  have R5 := hide (RowC.below (RowC.below R4.out b5) b6)
  clear b5 b6 hF5 hv7 hmk7
  have hmk8 := make8
  go_wp2_with fail
  have b5 : Below w5.heap.size w5 ((w5.alloc (.cells #[.int .u8 0, .slice Option.none 0 0] 27)).alloc (.cells #[.int .u8 0, .int .u8 0, .int .u8 0, .int .u8 0, .int .u8 0, .int .u8 0, .int .u8 0, .int .u8 0] 5)) := ((Below.refl _ _).alloc (Nat.le_refl _) _).alloc (by simp) _
  have hv8 := Bytes.new (w5.alloc (.cells #[.int .u8 0, .slice Option.none 0 0] 27)) #[.int .u8 0, .int .u8 0, .int .u8 0, .int .u8 0, .int .u8 0, .int .u8 0, .int .u8 0, .int .u8 0] 5 8 (0, 0) zeros8 rfl
  rw [show (w5.alloc (.cells #[.int .u8 0, .slice Option.none 0 0] 27)).heap.size = w5.heap.size + 1 by simp] at hv8
  refine (read_torn _ 8 8 zeros8 _ hv8 (Nat.le_refl _) (by decide) (by rw [fault8]; decide)).mono ?_
  rintro e w6 ⟨rfl, b6⟩
  rw [fault8]
  have B6 := hide (then_below (then_below B5.out b5 (Nat.le_refl _)) b6 (Nat.le_refl _))
  have F6 := hide (heap_keep b6 (heap_keep b5 F5.out))
  have R6 := hide (RowC.below (RowC.below R5.out b5) b6)
  clear b5 b6 hv8 hmk8
  have bz : Below w6.heap.size w6 (w6.alloc (.cells #[.int .u8 0, .slice Option.none 0 0] 27)) := (Below.refl _ _).alloc (Nat.le_refl _) _
  have F7 := heap_keep bz F6.out
  have R7 := RowC.below R6.out bz
  have B7 := hide (then_below B6.out bz (Nat.le_refl _))
  go_wp2_with fail
  generalize w6.alloc (.cells #[.int .u8 0, .slice Option.none 0 0] 27) = w7 at *
  have hb7 : Bytes w7 (.slice (some ⟨g4, 0, Option.none⟩) 5 c4) hello := RowB.bytes R7 rfl
  have k0 : w7.cell? ⟨g4, 0, Option.none⟩ = some (.int .u8 104) := hb7.at 0 (by decide)
  have k1 : w7.cell? ⟨g4, 1, Option.none⟩ = some (.int .u8 101) := by have := hb7.at 1 (by decide); simpa [hello] using this
  have k2 : w7.cell? ⟨g4, 2, Option.none⟩ = some (.int .u8 108) := by have := hb7.at 2 (by decide); simpa [hello] using this
  have k3 : w7.cell? ⟨g4, 3, Option.none⟩ = some (.int .u8 108) := by have := hb7.at 3 (by decide); simpa [hello] using this
  have k4 : w7.cell? ⟨g4, 4, Option.none⟩ = some (.int .u8 111) := by have := hb7.at 4 (by decide); simpa [hello] using this
  have f0 : w7.cell? ⟨w4.heap.size, 0, Option.none⟩ = some (.int .u8 7) := cell_of_row w7 _ 0 _ 27 (0, 0) F7
  have f1 : w7.cell? ⟨w4.heap.size, 1, Option.none⟩ = some (.slice (some ⟨g4, 0, Option.none⟩) 5 c4) := cell_of_row w7 _ 1 _ 27 (0, 0) F7
  have hcs : (convert 22 9 (.slice (some ⟨g4, 0, Option.none⟩) 5 c4)).run Try.prog w7 = .ok (.string ⟨#[104, 101, 108, 108, 111]⟩) w7 := by
    have := run_convert_bytes_back (P := Try.prog) w7 22 9 5 ⟨g4, 0, Option.none⟩ c4 [104, 101, 108, 108, 111] Try.underlying22 Try.underlying5 Try.underlying9 (fun j hj => by
      have : j = 0 ∨ j = 1 ∨ j = 2 ∨ j = 3 ∨ j = 4 := by simp at hj; omega
      rw [Go.WideShapes.add_plain, Nat.zero_add]
      rcases this with rfl | rfl | rfl | rfl | rfl
      · exact k0
      · exact k1
      · exact k2
      · exact k3
      · exact k4)
    exact this
  clear F7 R7 hb7 bz
  refine (size_any 5 _ (by decide) (by decide)).mono ?_
  rintro e w8 ⟨rfl, hw⟩
  subst hw
  rw [show max (5 : Int) 0 + 12 = 17 by decide]
  go_wp2_with fail
  refine (size_any 0 _ (by decide) (by decide)).mono ?_
  rintro e w9 ⟨rfl, hw⟩
  subst hw
  rw [show max (0 : Int) 0 + 12 = 12 by decide]
  go_wp2_with fail
  go_ret
  exact ⟨rfl, B7.out⟩
end Go.Proofs.Ytpighnknldhigaa
