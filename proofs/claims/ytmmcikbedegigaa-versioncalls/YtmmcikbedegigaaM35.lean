import Derived.Test.YtmmcikbedegigaaM29
import Derived.Test.YtmmcikbedegigaaM30
import Derived.Test.YtmmcikbedegigaaM34
/-
  What is small: the bounds.
-/
namespace Go.Proofs.Ytmmcikbedegigaa
open Go.RowKit
set_option maxRecDepth 100000
theorem byts_levN (L : List Lv) : byts L = levN L := by
  unfold byts levN keysN fls
  congr 1
  refine List.map_congr_left fun x _ => ?_
  rw [List.map_map]
  rfl
theorem sum_le_mul {α : Type} (f : α → Nat) (M : Nat) : ∀ l : List α, (∀ x ∈ l, f x ≤ M) → (l.map f).sum ≤ l.length * M
  | [], _ => by simp
  | x :: r, h => by
    have h1 := sum_le_mul f M r fun y hy => h y (List.mem_cons_of_mem _ hy)
    have h2 := h x (by simp)
    simp only [List.map_cons, List.sum_cons, List.length_cons, Nat.add_mul]
    omega
theorem small_fin {L : List Lv} (hf : ∀ x ∈ L, x.l.length ≤ reachBytes ∧ ∀ f ∈ x.l, FitF f) (h1 : L.length ≤ 10) (h2 : w64 (cnt L : Nat) ≤ 100) (h3 : w64 (levN L : Nat) ≤ 10000) : cnt L ≤ 100 ∧ byts L ≤ 10000 := by
  have g1 : cnt L ≤ L.length * reachBytes := sum_le_mul _ _ L fun x hx => (hf x hx).1
  have g2 : cnt L ≤ 10 * reachBytes := Nat.le_trans g1 (Nat.mul_le_mul_right _ h1)
  unfold reachBytes at g2
  rw [w64_small _ (by omega) (by omega)] at h2
  have g3 : levN L ≤ cnt L * (2 * reachBytes) := by
    unfold levN cnt
    clear h1 h2 h3 g1 g2
    induction L with
    | nil => simp
    | cons x r ih =>
      have h4 := ih fun y hy => hf y (List.mem_cons_of_mem _ hy)
      have h5 : keysN (fls x.l) ≤ x.l.length * (2 * reachBytes) := by
        unfold keysN fls
        rw [List.map_map]
        exact sum_le_mul _ _ x.l fun y hy => by have := ((hf x (by simp)).2 y hy).2.2; simp only [Function.comp]; omega
      simp only [List.map_cons, List.sum_cons, Nat.add_mul]
      omega
  have g4 : levN L ≤ 100 * (2 * reachBytes) := Nat.le_trans g3 (Nat.mul_le_mul_right _ (by omega))
  unfold reachBytes at g4
  rw [w64_small _ (by omega) (by omega)] at h3
  rw [byts_levN]
  omega
theorem smallE_fin {A : List (Int × Tf)} (hf : ∀ d ∈ A, FitF d.2) (h1 : A.length ≤ 100) (h3 : w64 (addsN A : Nat) ≤ 10000) : addsN A ≤ 10000 := by
  have g3 : addsN A ≤ A.length * (2 * reachBytes) := by
    unfold addsN keysN
    rw [List.map_map]
    exact sum_le_mul _ _ A fun y hy => by have := (hf y hy).2.2; simp only [Function.comp]; omega
  have g4 : addsN A ≤ 100 * (2 * reachBytes) := Nat.le_trans g3 (Nat.mul_le_mul_right _ h1)
  unfold reachBytes at g4
  rw [w64_small _ (by omega) (by omega)] at h3
  omega
theorem addsN_key (A : List (Int × Tf)) : ((fA A).map fun d => keyF d.2).sum = addsN A := by
  unfold fA addsN keysN
  rw [List.map_map, List.map_map]
  rfl
theorem verIn_small {w : World} {a : Option Addr} {n next seq log : Nat} {L : List Lv} (hL : Levs w a L) (hn : n = L.length) (hf : ∀ x ∈ L, x.l.length ≤ reachBytes ∧ ∀ f ∈ x.l, FitF f) (hc : cnt L ≤ 100) (hb : byts L ≤ 10000) (b1 : next < 18446744073709551616) (b2 : seq < 18446744073709551616) (b3 : log < 18446744073709551616) : VerIn w a n L next seq log :=
  ⟨hL, hn, by omega, by omega, fun x hx y hy => ((hf x hx).2 y hy).1, b1, b2, b3⟩
theorem len_le_sum {α : Type} (f : α → Nat) : ∀ (l : List α) (x : α), x ∈ l → f x ≤ (l.map f).sum
  | y :: r, x, h => by
    simp only [List.map_cons, List.sum_cons]
    rcases List.mem_cons.1 h with rfl | h
    · omega
    · have := len_le_sum f r x h; omega
theorem edIn_small {w : World} {da aa : Option Addr} {dn an en es el : Nat} {D : List (Int × Nat)} {A : List (Int × Tf)} (hD : Drops w da D) (hdn : dn = D.length) (hA : Adds w aa A) (han : an = A.length) (hf : ∀ d ∈ A, FitF d.2) (h1 : an ≤ 100) (h2 : dn ≤ 100) (h3 : addsN A ≤ 10000) (b1 : en < 18446744073709551616) (b2 : es < 18446744073709551616) (b3 : el < 18446744073709551616) : EdIn w da dn aa an D A en es el :=
  ⟨hD, hdn, by omega, hA, han, by omega, fun d hd => by
    have h4 := len_le_sum (fun d : Int × Tf => d.2.f.least.length + d.2.f.most.length) A d hd
    have h5 : (A.map fun d : Int × Tf => d.2.f.least.length + d.2.f.most.length).sum = addsN A := by unfold addsN keysN; rw [List.map_map]; rfl
    exact ⟨(hf d hd).1, by omega, by omega⟩, b1, b2, b3⟩
theorem keyOk_small {L : List Lv} (hb : byts L ≤ 600000) : ∀ l ∈ flL L, KeyOk l := fun l hl f hf => by
  obtain ⟨x, hx, rfl⟩ := List.mem_map.1 hl
  obtain ⟨y, hy, rfl⟩ := List.mem_map.1 hf
  have h1 := len_le_sum keyB x.l y hy
  have h2 := len_le_sum (fun x : Lv => (x.l.map keyB).sum) L x hx
  have h3 : keyB y = y.f.least.length + y.f.most.length := rfl
  have h4 : (L.map fun x => (x.l.map keyB).sum).sum = byts L := rfl
  omega
end Go.Proofs.Ytmmcikbedegigaa
