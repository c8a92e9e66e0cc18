import Derived.Test.YtpgligfolecieaaM18
import Derived.Test.YtpgligfolecieaaM16
/-
  Numbers that came in.
-/
namespace Go.Proofs.Ytpgligfolecieaa
open Go.ChangeShapes Go.WideShapes Go.ChangeAt Go.RowKit
set_option maxRecDepth 100000
theorem cells27u : Try.prog.cellsOf 27 = 1 := by kernel_rfl
theorem bytesOf27u : Try.prog.bytesOf 27 = 8 := by kernel_rfl
theorem open_u64s_cell {H : Type} {enc : TypeId × Value → H} {W : World} {n : Nat} {v : Value} {x : DataW H × List MemPlace} (h : DataW.trod enc Try.prog W 0 (fun _ => true) true n 35 [v] = some x) (hw : ∀ n ∈ x.1.weights Try.prog 35, n ≤ reachBytes) :
    ∃ (a : Option Addr) (m c : Nat) (ks : List Nat), v = .slice a m c ∧ U64s W a ks ∧ m = ks.length ∧ m ≤ c ∧ m ≤ reachBytes := by
  rcases open_ints Try.underlying35 Try.underlying27 cells27u h with ⟨hv, _⟩ | ⟨a, len, cap, zs, hv, _, hlc, hcap, hlen, hx, hcell, hwf⟩
  · obtain rfl : v = .slice none 0 0 := by simpa using hv
    exact ⟨none, 0, 0, [], rfl, fun k s hk => by simp at hk, rfl, Nat.le_refl _, Nat.zero_le _⟩
  · obtain rfl : v = .slice (some a) len cap := by simpa using hv
    have hz : zs.length = cap := by simpa using hlen
    refine ⟨some a, len, cap, (zs.take len).map Int.toNat, rfl, fun k s hk => ?_, by simp; omega, hlc, ?_⟩
    · simp only [List.getElem?_map, Option.map_eq_some_iff] at hk
      obtain ⟨z, hz2, rfl⟩ := hk
      rw [List.getElem?_take] at hz2
      split at hz2
      · next hkl =>
        obtain ⟨b, off, rfl, hc⟩ := ints_at hcell (by omega)
        have hb := bounds_u64 (hwf z (List.mem_of_getElem? hz2))
        refine ⟨⟨b, off, rfl, ?_⟩, by omega⟩
        rw [hc k (by omega), List.getD, hz2]
        simp only [Option.getD_some]
        rw [show ((z.toNat : Nat) : Int) = z by omega]
      · cases hz2
    · subst hx
      have hw1 : ((lits .u64 (zs.take len) : List (DataW H)).length + (lits .u64 (zs.drop len) : List (DataW H)).length) * Try.prog.bytesOf 27 ≤ reachBytes := hw _ (by simp [DataW.weights, Try.underlying35])
      simp only [lits, List.length_map, List.length_take, List.length_drop, bytesOf27u] at hw1
      omega
end Go.Proofs.Ytpgligfolecieaa
