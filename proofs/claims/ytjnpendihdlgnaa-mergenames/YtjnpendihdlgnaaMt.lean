/-
  The methods of heads that are called through an interface's value.
-/
import Derived.Test.YtjnpendihdlgnaaHb
namespace Go.Proofs.Ytjnpendihdlgnaa
open Go.RowKit
set_option maxRecDepth 100000
set_option maxHeartbeats 4000000
theorem ti82 (w : World) : (typeInfo 82).run Try.prog w = .ok Try.t82 w := by kernel_rfl
theorem wrap82 (nm : String) (p o : Nat) (w : World) : (Builtin.ssaWrapNilChk_ #[82] 82 #[.pointer (some ⟨p, o, none⟩), strVal "", strVal nm]).run Try.prog w = .ok (.pointer (some ⟨p, o, none⟩)) w := by kernel_rfl
theorem isAgg50 (w : World) : (isAgg 50).run Try.prog w = .ok false w := by kernel_rfl
theorem isEmpty_nil : ((#[] : Array FieldStep).isEmpty = true) = True := by simp
theorem method_val (nm : String) (sig f : Nat) (hm : Try.t82.methods.find? (·.name == nm) = some ⟨nm, sig, #[], some (f, false)⟩) (p o n c : Nat) (a : Option Addr) (w : World) (h : w.cell? ⟨p, o, none⟩ = some (.slice a n c)) : (method 215 82 (.pointer (some ⟨p, o, none⟩)) nm).run Try.prog w = .ok (f, .slice a n c) w := by
  unfold method
  simp only [Sem.run_bind, ti82, Result.andThen_ok, hm, follow, receiverAt, Sem.run_pure, run_underlying Try.underlying82 w, isEmpty_nil, if_true, Place.get, wrap82, asAddr, loadVar, isAgg50, Bool.false_eq_true, if_false, run_load, h]
theorem method_len (p o n c : Nat) (a : Option Addr) (w : World) (h : w.cell? ⟨p, o, none⟩ = some (.slice a n c)) : (method 215 82 (.pointer (some ⟨p, o, none⟩)) "Len").run Try.prog w = .ok (85, .slice a n c) w :=
  method_val "Len" 47 85 (by kernel_rfl) p o n c a w h
theorem method_less (p o n c : Nat) (a : Option Addr) (w : World) (h : w.cell? ⟨p, o, none⟩ = some (.slice a n c)) : (method 215 82 (.pointer (some ⟨p, o, none⟩)) "Less").run Try.prog w = .ok (86, .slice a n c) w :=
  method_val "Less" 95 86 (by kernel_rfl) p o n c a w h
theorem method_swap (p o n c : Nat) (a : Option Addr) (w : World) (h : w.cell? ⟨p, o, none⟩ = some (.slice a n c)) : (method 215 82 (.pointer (some ⟨p, o, none⟩)) "Swap").run Try.prog w = .ok (87, .slice a n c) w :=
  method_val "Swap" 96 87 (by kernel_rfl) p o n c a w h
end Go.Proofs.Ytjnpendihdlgnaa
