/-
  What both sides answer, said alike.
-/
import Derived.Test.YtppikddjdjmakaaKb
namespace Go.Proofs.Ytppikddjdjmakaa
open Go.RowKit
set_option maxRecDepth 100000
theorem IntsAt.below {w w' : World} {v : Value} {l : List Nat} (h : IntsAt w v l) (hb : Below w.heap.size w w') : IntsAt w' v l := h.turns (Turns.of_below hb (fun _ => False)) (fun _ _ _ _ x => x)
/-- A filter, or none, with an error's number. -/
def Told (bs : List (BitVec 8)) (er : Int) (W : World) (e : Ending) (w' : World) : Prop := ∃ a n c, e = .returned (.tuple #[.slice a n c, .int .i64 er]) ∧ Bytes w' (.slice a n c) bs ∧ Below W.heap.size W w'
theorem make_both (a : Option Addr) (m c' : Nat) (ks : List (List (BitVec 8))) (c : Int) (w : World) (hk : Keys w (.slice a m c') ks) (hm : m ≤ 200) (hw : wtK ks ≤ 20000) :
    ∃ bs er, bs.length ≤ 10000 ∧ (∀ W, Below w.heap.size w W → Calls Try.prog 7 #[.slice a m c', .int .i64 c] W (Told bs er W)) ∧ (∀ W, Below w.heap.size w W → Calls Try.prog 11 #[.slice a m c', .int .i64 c] W (Told bs er W)) := by
  by_cases h3 : c < 1 ∨ 64 < c
  · refine ⟨[], 2, by decide, fun W _ => (make_bad a m c' c W h3).mono ?_, fun W _ => (rmake_bad a m c' c W h3).mono ?_⟩
    · rintro e w' ⟨rfl, rfl⟩
      exact ⟨none, 0, 0, rfl, Bytes.empty _, Below.refl _ _⟩
    · rintro e w' ⟨rfl, rfl⟩
      exact ⟨none, 0, 0, rfl, Bytes.empty _, Below.refl _ _⟩
  · obtain ⟨n, rfl⟩ : ∃ n : Nat, c = (n : Nat) := ⟨c.toNat, by omega⟩
    have hl := hk.len
    have hxl : ∀ x, x ∈ ks → x.length ≤ 1000000000 := fun x hx => by have := wtK_mem hx; omega
    have hmc0 : ks.length * n ≤ 200 * 64 := Nat.mul_le_mul (by omega) (by omega)
    have hmc : ks.length * n ≤ 8388608 := by omega
    have hN : nBits ks.length n ≤ 12808 := by unfold nBits; omega
    refine ⟨filt ks n, 0, by rw [filt_length]; omega, fun W hb => (make_ok a m c' ks n W (hk.below hb) hxl (by omega) (by omega) hmc).mono ?_, fun W hb => (rmake_ok a m c' ks n W (hk.below hb) hxl (by omega) (by omega) hmc).mono ?_⟩
    · rintro e w' ⟨rfl, hrow, hb'⟩
      exact ⟨_, _, _, rfl, frow_bytes hrow (by rw [filt_length]), hb'⟩
    · rintro e w' ⟨g, c2, n2, rfl, _, hby, hb'⟩
      exact ⟨_, _, _, rfl, hby, hb'⟩
theorem bits_both (m c : Int) : ∃ x y u : Int, (∀ W, Calls Try.prog 6 #[.int .i64 m, .int .i64 c] W fun e w' => e = .returned (.tuple #[.int .i64 x, .int .i64 y, .int .i64 u]) ∧ w' = W) ∧ (∀ W, Calls Try.prog 12 #[.int .i64 m, .int .i64 c] W fun e w' => e = .returned (.tuple #[.int .i64 x, .int .i64 y, .int .i64 u]) ∧ w' = W) := by
  by_cases h1 : m < 0 ∨ c < 1 ∨ 64 < c
  · exact ⟨0, 0, 2, bits_arg m c h1, rbits_arg m c h1⟩
  · by_cases h2 : 8388608 < m * c
    · exact ⟨0, 0, 3, bits_long m c (by omega) (by omega) (by omega) h2, rbits_long m c (by omega) (by omega) (by omega) h2⟩
    · obtain ⟨m', rfl⟩ : ∃ n : Nat, m = (n : Nat) := ⟨m.toNat, by omega⟩
      obtain ⟨c', rfl⟩ : ∃ n : Nat, c = (n : Nat) := ⟨c.toNat, by omega⟩
      have h3 : m' * c' ≤ 8388608 := by omega
      exact ⟨_, _, _, bits_ok m' c' (by omega) (by omega) h3, rbits_ok m' c' (by omega) (by omega) h3⟩
/-- Numbers, or none, with an error's number. -/
def ToldN (l : List Nat) (er : Int) (W : World) (e : Ending) (w' : World) : Prop := ∃ a n c, e = .returned (.tuple #[.slice a n c, .int .i64 er]) ∧ IntsAt w' (.slice a n c) l ∧ Below W.heap.size W w'
theorem ints_none (w : World) : IntsAt w (.slice none 0 0) [] := ⟨none, 0, rfl, fun k x hx => by simp at hx⟩
theorem probes_both (h : Nat) (n k : Int) (hh : h < 18446744073709551616) : ∃ l er, l.length ≤ 30 ∧ (∀ W, Calls Try.prog 13 #[.int .u64 (h : Nat), .int .i64 n, .int .i64 k] W (ToldN l er W)) ∧ (∀ W, Calls Try.prog 14 #[.int .u64 (h : Nat), .int .i64 n, .int .i64 k] W (ToldN l er W)) := by
  by_cases h1 : n < 1 ∨ 8388608 < n ∨ k < 1 ∨ 30 < k
  · have h2 : n < 1 ∨ 8388608 < n ∨ mayB k = false := by
      rcases h1 with h | h | h
      · exact .inl h
      · exact .inr (.inl h)
      · exact .inr (.inr (decide_eq_false (by omega)))
    refine ⟨[], 2, by decide, fun W => (probes_bad h n k W h2).mono ?_, fun W => (rprobes_bad h n k W h1).mono ?_⟩
    · rintro e w' ⟨rfl, rfl⟩
      exact ⟨none, 0, 0, rfl, ints_none _, Below.refl _ _⟩
    · rintro e w' ⟨rfl, rfl⟩
      exact ⟨none, 0, 0, rfl, ints_none _, Below.refl _ _⟩
  · obtain ⟨N, rfl⟩ : ∃ m : Nat, n = (m : Nat) := ⟨n.toNat, by omega⟩
    obtain ⟨K, rfl⟩ : ∃ m : Nat, k = (m : Nat) := ⟨k.toNat, by omega⟩
    refine ⟨probes h N K, 0, by rw [probes_length]; omega, fun W => (probes_ok h N K W hh (by omega) (by omega) (by omega) (by omega)).mono ?_, fun W => (rprobes_ok h N K W hh (by omega) (by omega) (by omega) (by omega)).mono ?_⟩
    · rintro e w' ⟨rfl, ⟨cs, g1, g2, g3⟩, hb⟩
      refine ⟨_, _, _, rfl, ⟨_, K, by rw [probes_length], fun j x hx => ⟨W.heap.size, 0, rfl, ?_⟩⟩, hb⟩
      have hj := (List.getElem?_eq_some_iff.1 hx).1
      rw [Nat.zero_add, cell_of_row w' _ j cs 3 (0, 0) g1, g3 j (by simpa [intCells] using hj)]
      simp [intCells, hx]
    · rintro e w' ⟨v, rfl, hir, hb⟩
      obtain ⟨va, vc, hv⟩ := hir.len
      subst hv
      exact ⟨_, _, _, rfl, hir.at, hb⟩
end Go.Proofs.Ytppikddjdjmakaa
