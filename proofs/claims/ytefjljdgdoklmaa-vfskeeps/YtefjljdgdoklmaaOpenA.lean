/-
  A call of a file system that came in, opened.
-/
import Derived.Test.YtefjljdgdoklmaaPost
namespace Go.Proofs.Ytefjljdgdoklmaa
open Go.ChangeShapes Go.WideShapes Go.ChangeAt Go.RowKit

theorem cells49 : Try.prog.cellsOf 49 = 8 := by kernel_rfl
theorem cells3 : Try.prog.cellsOf 3 = 1 := by kernel_rfl
theorem cells9 : Try.prog.cellsOf 9 = 1 := by kernel_rfl
theorem cells28 : Try.prog.cellsOf 28 = 1 := by kernel_rfl
theorem cells23 : Try.prog.cellsOf 23 = 1 := by kernel_rfl
theorem cells47 : Try.prog.cellsOf 47 = 1 := by kernel_rfl
theorem slice_cell {H : Type} {enc : TypeId × Value → H} {W : World} {n t e : Nat} {v : Value} {x : DataW H × List MemPlace} (ht : Try.prog.underlying t = some (.slice e)) (h : DataW.trod enc Try.prog W 0 (fun _ => true) true n t [v] = some x) :
    ∃ (a : Option Addr) (m c : Nat), v = .slice a m c := by
  rcases DataW.trod_slice ht h with ⟨hv, _⟩ | ⟨a, len, cap, _, _, _, _, hv, _⟩
  · exact ⟨none, 0, 0, by simpa using hv⟩
  · exact ⟨some a, len, cap, by simpa using hv⟩
theorem int_cell {H : Type} {enc : TypeId × Value → H} {W : World} {n t : Nat} {v : Value} {x : DataW H × List MemPlace} (ht : Try.prog.underlying t = some (.int .i64)) (h : DataW.trod enc Try.prog W 0 (fun _ => true) true n t [v] = some x) :
    ∃ z : Int, v = .int .i64 z := by
  obtain ⟨z, hz, _⟩ := DataW.trod_int ht h
  exact ⟨z, by simpa using hz⟩
theorem text_cell {H : Type} {enc : TypeId × Value → H} {W : World} {n t : Nat} {v : Value} {x : DataW H × List MemPlace} (ht : Try.prog.underlying t = some .string) (h : DataW.trod enc Try.prog W 0 (fun _ => true) true n t [v] = some x) :
    ∃ s : ByteArray, v = .string s := by
  obtain ⟨z, hz, _⟩ := DataW.trod_string ht h
  exact ⟨z, by simpa using hz⟩

set_option maxRecDepth 100000 in
theorem open_act {H : Type} {enc : TypeId × Value → H} {W : World} {r : Reach} {b0 : Nat} {v : Value} {d : DataW H} {p : List MemPlace} (hval : Value.okWide Try.prog W r b0 49 v) (h : DataW.Trod enc Try.prog W 0 (fun _ => true) true 49 v d p) :
    ∃ (kind N M E : Int) (A C : ByteArray) (ba ka : Option Addr) (bn bc kn kc : Nat), v = .agg #[.int .i64 kind, .string A, .string C, .slice ba bn bc, .int .i64 N, .int .i64 M, .int .i64 E, .slice ka kn kc] := by
  obtain ⟨fuel, h⟩ := h
  obtain ⟨cs, rfl, h2⟩ := okWide_struct Try.underlying49 hval
  rw [cells49] at h2
  obtain ⟨l⟩ := cs
  match l, h2 with
  | [c0, c1, c2, c3, c4, c5, c6, c7], _ =>
    have h' : DataW.trod enc Try.prog W 0 (fun _ => true) true fuel 49 [c0, c1, c2, c3, c4, c5, c6, c7] = some (d, p) := h
    obtain ⟨xs, n, _, _, _, hlen, hf⟩ := DataW.trod_struct Try.underlying49 h'
    match xs, hlen with
    | [y0, y1, y2, y3, y4, y5, y6, y7], _ =>
      have t0 : DataW.trod enc Try.prog W 0 (fun _ => true) true n 3 [c0] = some y0 := by simpa [cells3] using hf 0 _ rfl
      have t1 : DataW.trod enc Try.prog W 0 (fun _ => true) true n 9 [c1] = some y1 := by simpa [cells9] using hf 1 _ rfl
      have t2 : DataW.trod enc Try.prog W 0 (fun _ => true) true n 9 [c2] = some y2 := by simpa [cells9] using hf 2 _ rfl
      have t3 : DataW.trod enc Try.prog W 0 (fun _ => true) true n 28 [c3] = some y3 := by simpa [cells28] using hf 3 _ rfl
      have t4 : DataW.trod enc Try.prog W 0 (fun _ => true) true n 3 [c4] = some y4 := by simpa [cells3] using hf 4 _ rfl
      have t5 : DataW.trod enc Try.prog W 0 (fun _ => true) true n 3 [c5] = some y5 := by simpa [cells3] using hf 5 _ rfl
      have t6 : DataW.trod enc Try.prog W 0 (fun _ => true) true n 23 [c6] = some y6 := by simpa [cells23] using hf 6 _ rfl
      have t7 : DataW.trod enc Try.prog W 0 (fun _ => true) true n 47 [c7] = some y7 := by simpa [cells47] using hf 7 _ rfl
      obtain ⟨kind, rfl⟩ := int_cell Try.underlying3 t0
      obtain ⟨A, rfl⟩ := text_cell Try.underlying9 t1
      obtain ⟨C, rfl⟩ := text_cell Try.underlying9 t2
      obtain ⟨ba, bn, bc, rfl⟩ := slice_cell Try.underlying28 t3
      obtain ⟨N, rfl⟩ := int_cell Try.underlying3 t4
      obtain ⟨M, rfl⟩ := int_cell Try.underlying3 t5
      obtain ⟨E, rfl⟩ := int_cell Try.underlying23 t6
      obtain ⟨ka, kn, kc, rfl⟩ := slice_cell Try.underlying47 t7
      exact ⟨kind, N, M, E, A, C, ba, ka, bn, bc, kn, kc, rfl⟩
end Go.Proofs.Ytefjljdgdoklmaa
