/-
  The chapter's examples come out as it tells.
-/
import Derived.Test.YtmhahapmjpbocaaDoorJoin
import Derived.Lib.SlBytesConst
namespace Go.Proofs.YtmhahapmjpbocaaDoor
open Go.RowKit

/-- Bytes in a new row. -/
theorem Bytes.new (w : World) (cs : Array Value) (t c : Nat) (fr : Nat × Nat) (bs : List (BitVec 8)) (h : cs = (bs.map fun b => Value.int .u8 (b.toNat : Int)).toArray) :
    Bytes (w.alloc (.cells cs t fr)) (.slice (some ⟨w.heap.size, 0, Option.none⟩) bs.length c) bs :=
  ⟨_, c, rfl, fun k hk => ⟨w.heap.size, 0, rfl, by
    rw [Nat.zero_add, cell_of_row _ _ k cs t fr (heap_alloc_new w _), h]
    simp [hk]⟩⟩
theorem Bytes.none (w : World) : Bytes w (.slice Option.none 0 0) [] := ⟨_, 0, rfl, fun k hk => by simp at hk⟩

def zerosB : Array Value := Array.replicate 32 (.int .u8 0)
theorem make32 (w : World) : (Instr.makeSlice 27 (.int .i64 32) (.int .i64 32)).run Tryd.prog w = .ok (.slice (some ⟨w.heap.size, 0, Option.none⟩) 32 32) (w.alloc (.cells zerosB 5)) := by kernel_rfl

def b4 : List (BitVec 8) := [49#8, 50#8, 51#8, 52#8]
def b5 : List (BitVec 8) := [53#8, 54#8, 55#8, 56#8, 57#8]
def b9 : List (BitVec 8) := [49#8, 50#8, 51#8, 52#8, 53#8, 54#8, 55#8, 56#8, 57#8]
def b32 : List (BitVec 8) := List.replicate 32 0#8
theorem sum9 : Crc32.sum b9 = 3808858755#32 := by decide +kernel
theorem sum0 : Crc32.sum [] = 0#32 := by decide +kernel
theorem sum32 : Crc32.sum b32 = 2324772522#32 := by decide +kernel
theorem join9 : Crc32.join (Crc32.sum b4) (Crc32.sum b5) 5 = 3808858755#32 := by decide +kernel
theorem mask0 : mask 0#32 = 2726488792#32 := by decide +kernel
theorem unmask0 : unmask 2726488792#32 = 0#32 := by decide +kernel

theorem conv27 (C : Array Value) (n c : Nat) (w : World) : (convert 27 27 (.slice (some ⟨w.heap.size, 0, Option.none⟩) n c)).run Tryd.prog (w.alloc (.cells C 5)) = .ok (.slice (some ⟨w.heap.size, 0, Option.none⟩) n c) (w.alloc (.cells C 5 (C.size, C.size + 1))) :=
  Lib.run_convert_bytes_const w 27 5 C n c Tryd.underlying27 Tryd.underlying5

set_option maxRecDepth 100000 in
set_option maxHeartbeats 1000000 in
theorem lives_any (w : World) (hw : Tab w) :
    Calls Tryd.prog 8 #[] w fun e w' => e = .returned (.bool true) ∧ Below w.heap.size w w' := by
  have HW := hide hw
  clear hw
  have hcv := conv27
  have hmk := make32
  go_enter Tryd.func8, Tryd.ntmps8
  go_wp2_with fail
  refine (sum_any _ b4 _ (Bytes.new w _ 5 4 _ b4 rfl) (by decide)).mono ?_
  rintro e w1 ⟨rfl, b1⟩
  have B1 := hide (((Below.refl w.heap.size w).alloc (Nat.le_refl _) _).trans (b1.mono (by simp)))
  clear b1
  go_wp2_with fail
  refine (sum_any _ b5 _ (Bytes.new w1 _ 5 5 _ b5 rfl) (by decide)).mono ?_
  rintro e w2 ⟨rfl, b2⟩
  have B2 := hide ((B1.out.alloc B1.out.size _).trans (b2.mono (by have := B1.out.size; simp; omega)))
  clear b2
  go_wp2_with fail
  refine (join_any (Crc32.sum b4) (Crc32.sum b5) 5 _ (by decide) (HW.out.below B2.out)).mono ?_
  rintro e w3 ⟨rfl, b3⟩
  have B3 := hide (B2.out.trans (b3.mono B2.out.size))
  clear b3
  rw [join9]
  go_wp2_with fail
  refine (sum_any _ b9 _ (Bytes.new w3 _ 5 9 _ b9 rfl) (by decide)).mono ?_
  rintro e w4 ⟨rfl, b4'⟩
  have B4 := hide ((B3.out.alloc B3.out.size _).trans (b4'.mono (by have := B3.out.size; simp; omega)))
  clear b4'
  rw [sum9]
  go_wp2_with fail
  refine (sum_any _ [] _ (Bytes.none _) (by decide)).mono ?_
  rintro e w5 ⟨rfl, b5'⟩
  have B5 := hide (B4.out.trans (b5'.mono B4.out.size))
  clear b5'
  rw [sum0]
  go_wp2_with fail
  refine (sum_any _ b32 _ (Bytes.new w5 _ 5 32 _ b32 rfl) (by decide)).mono ?_
  rintro e w6 ⟨rfl, b6⟩
  have B6 := hide ((B5.out.alloc B5.out.size _).trans (b6.mono (by have := B5.out.size; simp; omega)))
  clear b6
  rw [sum32]
  go_wp2_with fail
  refine (mask_any 0#32 _).mono ?_
  rintro e w7 ⟨rfl, hw⟩
  subst hw
  rw [mask0]
  go_wp2_with fail
  refine (unmask_any 2726488792#32 _).mono ?_
  rintro e w8 ⟨rfl, hw⟩
  subst hw
  rw [unmask0]
  go_wp2_with fail
  go_ret
  exact ⟨rfl, B6.out⟩

set_option maxRecDepth 100000 in
set_option maxHeartbeats 1000000 in
theorem names_any (w : World) (hw : Tab w) :
    Calls Tryd.prog 3 #[] w fun e w' => e = .returned (.bool true) ∧ Below w.heap.size w w' := by
  have HW := hide hw
  clear hw
  go_enter Tryd.func3, Tryd.ntmps3
  go_wp2_with fail
  refine (join_bad 1#32 2#32 (-1) _ (by decide)).mono ?_
  rintro e w1 ⟨rfl, hw⟩
  subst hw
  go_wp2_with fail
  refine (join_bad 1#32 2#32 1099511627777 _ (by decide)).mono ?_
  rintro e w2 ⟨rfl, hw⟩
  subst hw
  go_wp2_with fail
  refine (lives_any _ HW.out).mono ?_
  rintro e w3 ⟨rfl, b⟩
  go_wp2_with fail
  go_ret
  exact ⟨rfl, b⟩
end Go.Proofs.YtmhahapmjpbocaaDoor
