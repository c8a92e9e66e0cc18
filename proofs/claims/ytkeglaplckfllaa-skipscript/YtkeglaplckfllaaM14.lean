import Derived.Test.YtkeglaplckfllaaM13
import Derived.SizedLaws
/-
  A call that came in, opened.
-/
namespace Go.Proofs.Ytkeglaplckfllaa
open Go.ChangeShapes Go.WideShapes Go.ChangeAt Go.RowKit
set_option maxRecDepth 100000
theorem cells42 : Try.prog.cellsOf 42 = 8 := by kernel_rfl
theorem cells29 : Try.prog.cellsOf 29 = 4 := by kernel_rfl
theorem cells3 : Try.prog.cellsOf 3 = 1 := by kernel_rfl
theorem cells27 : Try.prog.cellsOf 27 = 1 := by kernel_rfl
theorem cells26 : Try.prog.cellsOf 26 = 1 := by kernel_rfl
theorem slice_cell {H : Type} {enc : TypeId × Value → H} {W : World} {n t e : Nat} {v : Value} {x : DataW H × List MemPlace} (ht : Try.prog.underlying t = some (.slice e)) (h : DataW.trod enc Try.prog W 0 (fun _ => true) true n t [v] = some x) :
    ∃ (a : Option Addr) (m c : Nat), v = .slice a m c := by
  rcases DataW.trod_slice ht h with ⟨hv, _⟩ | ⟨a, len, cap, _, _, _, _, hv, _⟩
  · exact ⟨none, 0, 0, by simpa using hv⟩
  · exact ⟨some a, len, cap, by simpa using hv⟩
theorem u64_cell {H : Type} {enc : TypeId × Value → H} {W : World} {n t : Nat} {v : Value} {x : DataW H × List MemPlace} (ht : Try.prog.underlying t = some (.int .u64)) (h : DataW.trod enc Try.prog W 0 (fun _ => true) true n t [v] = some x) :
    ∃ s : Nat, v = .int .u64 (s : Int) ∧ s < 18446744073709551616 := by
  obtain ⟨z, hz, _, hwf⟩ := DataW.trod_int ht h
  have hb := bounds_u64 hwf
  refine ⟨z.toNat, ?_, by omega⟩
  rw [show ((z.toNat : Nat) : Int) = z by omega]
  simpa using hz
theorem i64_cell {H : Type} {enc : TypeId × Value → H} {W : World} {n t : Nat} {v : Value} {x : DataW H × List MemPlace} (ht : Try.prog.underlying t = some (.int .i64)) (h : DataW.trod enc Try.prog W 0 (fun _ => true) true n t [v] = some x) :
    ∃ z : Int, v = .int .i64 z := by
  obtain ⟨z, hz, _⟩ := DataW.trod_int ht h
  exact ⟨z, by simpa using hz⟩
theorem open_act {H : Type} {enc : TypeId × Value → H} {W : World} {r : Reach} {b0 : Nat} {v : Value} {d : DataW H} {p : List MemPlace} (hval : Value.okWide Try.prog W r b0 42 v) (h : DataW.Trod enc Try.prog W 0 (fun _ => true) true 42 v d p) :
    ∃ (ka va ka2 : Option Addr) (kn kc vn vc kn2 kc2 sq At : Nat) (kind H N : Int), v = .agg #[.slice ka kn kc, .int .u64 (sq : Nat), .int .i64 kind, .slice va vn vc, .int .i64 H, .slice ka2 kn2 kc2, .int .u64 (At : Nat), .int .i64 N] := by
  obtain ⟨fuel, h⟩ := h
  obtain ⟨cs, rfl, h2⟩ := okWide_struct Try.underlying42 hval
  rw [cells42] at h2
  obtain ⟨l⟩ := cs
  match l, h2 with
  | [c0, c1, c2, c3, c4, c5, c6, c7], _ =>
    have h' : DataW.trod enc Try.prog W 0 (fun _ => true) true fuel 42 [c0, c1, c2, c3, c4, c5, c6, c7] = some (d, p) := h
    obtain ⟨xs, n, _, _, _, hlen, hf⟩ := DataW.trod_struct Try.underlying42 h'
    match xs, hlen with
    | [y0, y1, y2, y3, y4], _ =>
      have t0 : DataW.trod enc Try.prog W 0 (fun _ => true) true n 29 [c0, c1, c2, c3] = some y0 := by simpa [cells29] using hf 0 _ rfl
      have t1 : DataW.trod enc Try.prog W 0 (fun _ => true) true n 3 [c4] = some y1 := by simpa [cells3] using hf 1 _ rfl
      have t2 : DataW.trod enc Try.prog W 0 (fun _ => true) true n 26 [c5] = some y2 := by simpa [cells26] using hf 2 _ rfl
      have t3 : DataW.trod enc Try.prog W 0 (fun _ => true) true n 27 [c6] = some y3 := by simpa [cells27] using hf 3 _ rfl
      have t4 : DataW.trod enc Try.prog W 0 (fun _ => true) true n 3 [c7] = some y4 := by simpa [cells3] using hf 4 _ rfl
      obtain ⟨zs, m, _, _, _, zlen, zf⟩ := DataW.trod_struct Try.underlying29 t0
      match zs, zlen with
      | [z0, z1, z2, z3], _ =>
        have s0 : DataW.trod enc Try.prog W 0 (fun _ => true) true m 26 [c0] = some z0 := by simpa [cells26] using zf 0 _ rfl
        have s1 : DataW.trod enc Try.prog W 0 (fun _ => true) true m 27 [c1] = some z1 := by simpa [cells27] using zf 1 _ rfl
        have s2 : DataW.trod enc Try.prog W 0 (fun _ => true) true m 3 [c2] = some z2 := by simpa [cells3] using zf 2 _ rfl
        have s3 : DataW.trod enc Try.prog W 0 (fun _ => true) true m 26 [c3] = some z3 := by simpa [cells26] using zf 3 _ rfl
        obtain ⟨ka, kn, kc, rfl⟩ := slice_cell Try.underlying26 s0
        obtain ⟨sq, rfl, _⟩ := u64_cell Try.underlying27 s1
        obtain ⟨kind, rfl⟩ := i64_cell Try.underlying3 s2
        obtain ⟨va, vn, vc, rfl⟩ := slice_cell Try.underlying26 s3
        obtain ⟨H, rfl⟩ := i64_cell Try.underlying3 t1
        obtain ⟨ka2, kn2, kc2, rfl⟩ := slice_cell Try.underlying26 t2
        obtain ⟨At, rfl, _⟩ := u64_cell Try.underlying27 t3
        obtain ⟨N, rfl⟩ := i64_cell Try.underlying3 t4
        exact ⟨ka, va, ka2, kn, kc, vn, vc, kn2, kc2, sq, At, kind, H, N, rfl⟩
end Go.Proofs.Ytkeglaplckfllaa
