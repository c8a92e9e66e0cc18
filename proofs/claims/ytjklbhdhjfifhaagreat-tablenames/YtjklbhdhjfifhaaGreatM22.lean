import Derived.Test.YtjklbhdhjfifhaaGreatM21
import Derived.SizedLaws
/-
  A call that came in, opened.
-/
namespace Go.Proofs.YtjklbhdhjfifhaaGreat
open Go.ChangeShapes Go.WideShapes Go.ChangeAt Go.RowKit
set_option maxRecDepth 100000
theorem cells3 : Tryz.prog.cellsOf 3 = 1 := by kernel_rfl
theorem cells27 : Tryz.prog.cellsOf 33 = 1 := by kernel_rfl
theorem cells26 : Tryz.prog.cellsOf 28 = 1 := by kernel_rfl
theorem slice_cell {H : Type} {enc : TypeId × Value → H} {W : World} {n t e : Nat} {v : Value} {x : DataW H × List MemPlace} (ht : Tryz.prog.underlying t = some (.slice e)) (h : DataW.trod enc Tryz.prog W 0 (fun _ => true) true n t [v] = some x) :
    ∃ (a : Option Addr) (m c : Nat), v = .slice a m c := by
  rcases DataW.trod_slice ht h with ⟨hv, _⟩ | ⟨a, len, cap, _, _, _, _, hv, _⟩
  · exact ⟨none, 0, 0, by simpa using hv⟩
  · exact ⟨some a, len, cap, by simpa using hv⟩
theorem u64_cell {H : Type} {enc : TypeId × Value → H} {W : World} {n t : Nat} {v : Value} {x : DataW H × List MemPlace} (ht : Tryz.prog.underlying t = some (.int .u64)) (h : DataW.trod enc Tryz.prog W 0 (fun _ => true) true n t [v] = some x) :
    ∃ s : Nat, v = .int .u64 (s : Int) ∧ s < 18446744073709551616 := by
  obtain ⟨z, hz, _, hwf⟩ := DataW.trod_int ht h
  have hb := bounds_u64 hwf
  refine ⟨z.toNat, ?_, by omega⟩
  rw [show ((z.toNat : Nat) : Int) = z by omega]
  simpa using hz
theorem i64_cell {H : Type} {enc : TypeId × Value → H} {W : World} {n t : Nat} {v : Value} {x : DataW H × List MemPlace} (ht : Tryz.prog.underlying t = some (.int .i64)) (h : DataW.trod enc Tryz.prog W 0 (fun _ => true) true n t [v] = some x) :
    ∃ z : Int, v = .int .i64 z := by
  obtain ⟨z, hz, _⟩ := DataW.trod_int ht h
  exact ⟨z, by simpa using hz⟩
end Go.Proofs.YtjklbhdhjfifhaaGreat

/-
  A call of a table that came in, opened.
-/
namespace Go.Proofs.YtjklbhdhjfifhaaGreat
open Go.ChangeShapes Go.WideShapes Go.ChangeAt Go.RowKit
set_option maxRecDepth 100000
theorem cells50 : Tryz.prog.cellsOf 50 = 5 := by kernel_rfl
theorem open_actT {H : Type} {enc : TypeId × Value → H} {W : World} {r : Reach} {b0 : Nat} {v : Value} {d : DataW H} {p : List MemPlace} (hval : Value.okWide Tryz.prog W r b0 50 v) (h : DataW.Trod enc Tryz.prog W 0 (fun _ => true) true 50 v d p) :
    ∃ (z0 z4 n : Int) (ka : Option Addr) (kn kc q : Nat), v = .agg #[.int .i64 z0, .slice ka kn kc, .int .u64 (q : Nat), .int .i64 n, .int .i64 z4] := by
  obtain ⟨fuel, h⟩ := h
  obtain ⟨cs, rfl, h2⟩ := okWide_struct Tryz.underlying50 hval
  rw [cells50] at h2
  obtain ⟨l⟩ := cs
  match l, h2 with
  | [c0, c1, c2, c3, c4], _ =>
    have h' : DataW.trod enc Tryz.prog W 0 (fun _ => true) true fuel 50 [c0, c1, c2, c3, c4] = some (d, p) := h
    obtain ⟨xs, n, _, _, _, hlen, hf⟩ := DataW.trod_struct Tryz.underlying50 h'
    match xs, hlen with
    | [y0, y1, y2, y3, y4], _ =>
      have t0 : DataW.trod enc Tryz.prog W 0 (fun _ => true) true n 3 [c0] = some y0 := by simpa [cells3] using hf 0 _ rfl
      have t1 : DataW.trod enc Tryz.prog W 0 (fun _ => true) true n 28 [c1] = some y1 := by simpa [cells26] using hf 1 _ rfl
      have t2 : DataW.trod enc Tryz.prog W 0 (fun _ => true) true n 33 [c2] = some y2 := by simpa [cells27] using hf 2 _ rfl
      have t3 : DataW.trod enc Tryz.prog W 0 (fun _ => true) true n 3 [c3] = some y3 := by simpa [cells3] using hf 3 _ rfl
      have t4 : DataW.trod enc Tryz.prog W 0 (fun _ => true) true n 3 [c4] = some y4 := by simpa [cells3] using hf 4 _ rfl
      obtain ⟨z0, rfl⟩ := i64_cell Tryz.underlying3 t0
      obtain ⟨ka, kn, kc, rfl⟩ := slice_cell Tryz.underlying28 t1
      obtain ⟨sq, rfl, _⟩ := u64_cell Tryz.underlying33 t2
      obtain ⟨N, rfl⟩ := i64_cell Tryz.underlying3 t3
      obtain ⟨z4, rfl⟩ := i64_cell Tryz.underlying3 t4
      exact ⟨z0, z4, N, ka, kn, kc, sq, rfl⟩
end Go.Proofs.YtjklbhdhjfifhaaGreat
