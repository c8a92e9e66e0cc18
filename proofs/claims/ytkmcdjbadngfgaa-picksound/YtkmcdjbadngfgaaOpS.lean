/-
  A setup that came in.
-/
import Derived.Test.YtkmcdjbadngfgaaXo
import Derived.Test.YtkmcdjbadngfgaaPa
namespace Go.Proofs.Ytkmcdjbadngfgaa
open Go.ChangeShapes Go.WideShapes Go.ChangeAt Go.RowKit
set_option maxRecDepth 100000
theorem xcellsS : Try.prog.cellsOf 35 = 3 := by kernel_rfl
/-- A setup that came in, opened. -/
theorem open_setup {H : Type} {enc : TypeId × Value → H} {W : World} {r : Reach} {b0 : Nat} {v : Value} {d : DataW H} {p : List MemPlace} (hval : Value.okWide Try.prog W r b0 35 v) (h : DataW.Trod enc Try.prog W 0 (fun _ => true) true 35 v d p) : ∃ t b f : Int, v = setAgg t b f := by
  obtain ⟨fuel, h⟩ := h
  obtain ⟨cs, rfl, h2⟩ := okWide_struct Try.underlying35 hval
  rw [xcellsS] at h2
  obtain ⟨l⟩ := cs
  match l, h2 with
  | [c0, c1, c2], _ =>
    have h' : DataW.trod enc Try.prog W 0 (fun _ => true) true fuel 35 [c0, c1, c2] = some (d, p) := h
    obtain ⟨xs, n, _, hx, _, hlen, hf⟩ := DataW.trod_struct Try.underlying35 h'
    match xs, hlen with
    | [y0, y1, y2], _ =>
      have t0 : DataW.trod enc Try.prog W 0 (fun _ => true) true n 3 [c0] = some y0 := by simpa [xcells3] using hf 0 _ rfl
      have t1 : DataW.trod enc Try.prog W 0 (fun _ => true) true n 3 [c1] = some y1 := by simpa [xcells3] using hf 1 _ rfl
      have t2 : DataW.trod enc Try.prog W 0 (fun _ => true) true n 3 [c2] = some y2 := by simpa [xcells3] using hf 2 _ rfl
      obtain ⟨t, rfl⟩ := i64_cell Try.underlying3 t0
      obtain ⟨b, rfl⟩ := i64_cell Try.underlying3 t1
      obtain ⟨f, rfl⟩ := i64_cell Try.underlying3 t2
      exact ⟨t, b, f, rfl⟩
end Go.Proofs.Ytkmcdjbadngfgaa
