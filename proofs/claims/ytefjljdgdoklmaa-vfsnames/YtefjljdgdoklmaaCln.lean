/-
  A copy of a directory.
-/
import Derived.Test.YtefjljdgdoklmaaRd
import Derived.Shelf.SlMaps.Clone
namespace Go.Proofs.Ytefjljdgdoklmaa
open Go.RowKit Go.Maps

theorem map_eql (b : Nat) (w : World) : (binOp .eql 53 (.map (some b)) (.map none)).run Try.prog w = .ok (.bool false) w := by kernel_rfl
theorem assert53 (v : Value) (w : World) : (Instr.typeAssert (.iface 53 v) 20 53 false).run Try.prog w = .ok v w := by kernel_rfl
set_option maxRecDepth 100000 in
set_option maxHeartbeats 1000000 in
theorem mapclone_any (b n : Nat) (D : DataW Unit) (w : World) (hd : Dir w b n D) :
    Calls Try.prog 44 #[.map (some b)] w fun e w' => e = .returned (.map (some w.heap.size)) ∧ Dir w' w.heap.size n D ∧ Turns (fun _ => False) w w' := by
  obtain ⟨es, clock, hb, F, hs, hD⟩ := hd
  have he := fun w => map_eql b w
  have hcf : (callFunc 74 #[.iface 53 (.map (some b))]).run Try.prog w = .ok (.value (.iface 53 (.map (some w.heap.size)))) (w.alloc (.map es clock)) := by
    rw [run_callFunc_extern Try.func74 (by kernel_rfl) (by kernel_rfl) (by kernel_rfl) (e := Extern.MapsClone.clone) (by kernel_rfl), run_maps_clone_sl w 53 hb]
    rfl
  have hta := fun v w => assert53 v w
  have FIN : Hid (Dir (w.alloc (.map es clock)) w.heap.size n D ∧ Turns (fun _ => False) w (w.alloc (.map es clock))) := ⟨⟨es, clock, heap_alloc_new w _, F, hs, hD⟩, (Turns.refl _ w).alloc _⟩
  clear hb F hs hD
  go_enter Try.func44, Try.ntmps44
  go_wp2_with fail
  go_ret
  exact ⟨rfl, FIN.out⟩

end Go.Proofs.Ytefjljdgdoklmaa
