/-
  What is small: the bounds.
-/
import Derived.Test.YtkmcdjbadngfgaaWt
import Derived.Test.YtkmcdjbadngfgaaXo
namespace Go.Proofs.Ytkmcdjbadngfgaa
open Go.RowKit
set_option maxRecDepth 100000
theorem byts_levN (L : List Lv) : byts L = levN L := by
  unfold byts levN keysN fls
  congr 1
  refine List.map_congr_left fun x _ => ?_
  rw [List.map_map]
  rfl
theorem sum_le_mul {α : Type} (f : α → Nat) (M : Nat) : ∀ l : List α, (∀ x ∈ l, f x ≤ M) → (l.map f).sum ≤ l.length * M
  | [], _ => by simp
  | x :: r, h => by
    have h1 := sum_le_mul f M r fun y hy => h y (List.mem_cons_of_mem _ hy)
    have h2 := h x (by simp)
    simp only [List.map_cons, List.sum_cons, List.length_cons, Nat.add_mul]
    omega
theorem small_fin {L : List Lv} (hf : ∀ x ∈ L, x.l.length ≤ reachBytes ∧ ∀ f ∈ x.l, FitF f) (h1 : L.length ≤ 10) (h2 : w64 (cnt L : Nat) ≤ 100) (h3 : w64 (levN L : Nat) ≤ 10000) : cnt L ≤ 100 ∧ byts L ≤ 10000 := by
  have g1 : cnt L ≤ L.length * reachBytes := sum_le_mul _ _ L fun x hx => (hf x hx).1
  have g2 : cnt L ≤ 10 * reachBytes := Nat.le_trans g1 (Nat.mul_le_mul_right _ h1)
  unfold reachBytes at g2
  rw [w64_small _ (by omega) (by omega)] at h2
  have g3 : levN L ≤ cnt L * (2 * reachBytes) := by
    unfold levN cnt
    clear h1 h2 h3 g1 g2
    induction L with
    | nil => simp
    | cons x r ih =>
      have h4 := ih fun y hy => hf y (List.mem_cons_of_mem _ hy)
      have h5 : keysN (fls x.l) ≤ x.l.length * (2 * reachBytes) := by
        unfold keysN fls
        rw [List.map_map]
        exact sum_le_mul _ _ x.l fun y hy => by have := ((hf x (by simp)).2 y hy).2.2; simp only [Function.comp]; omega
      simp only [List.map_cons, List.sum_cons, Nat.add_mul]
      omega
  have g4 : levN L ≤ 100 * (2 * reachBytes) := Nat.le_trans g3 (Nat.mul_le_mul_right _ (by omega))
  unfold reachBytes at g4
  rw [w64_small _ (by omega) (by omega)] at h3
  rw [byts_levN]
  omega
theorem verIn_small {w : World} {a : Option Addr} {n next seq log : Nat} {L : List Lv} (hL : Levs w a L) (hn : n = L.length) (hf : ∀ x ∈ L, x.l.length ≤ reachBytes ∧ ∀ f ∈ x.l, FitF f) (hc : cnt L ≤ 100) (hb : byts L ≤ 10000) (b1 : next < 18446744073709551616) (b2 : seq < 18446744073709551616) (b3 : log < 18446744073709551616) : VerIn w a n L next seq log :=
  ⟨hL, hn, by omega, by omega, fun x hx y hy => ((hf x hx).2 y hy).1, b1, b2, b3⟩
end Go.Proofs.Ytkmcdjbadngfgaa
