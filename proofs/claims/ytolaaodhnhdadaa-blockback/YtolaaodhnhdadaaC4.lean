/-
  The next entry of a block's reader.
-/
import Derived.Test.YtolaaodhnhdadaaC3
namespace Go.Proofs.Ytolaaodhnhdadaa
open Go.RowKit
set_option maxRecDepth 100000
set_option maxHeartbeats 8000000
theorem takeR_any (q r : Nat) (p : List (BitVec 8)) (i n : Nat) (z : Int) (w : World) (hq : w.cell? ⟨q, 0, none⟩ = some (.pointer (some ⟨r, 0, none⟩))) (h : Rdr w r p i z) (hp : p.length ≤ 100000) (hi : i ≤ p.length) (hn : n < 18446744073709551616) :
    Calls Try.prog 57 #[.pointer (some ⟨q, 0, none⟩), .int .u64 (n : Nat)] w fun e w' => FixOk r p i n z w e w' ∧ Turns (fun j => j = r) w w' := by
  have hfin : ∀ e w', FixOk r p i (min n 262145) z w e w' → FixOk r p i n z w e w' := fun e w' hx => by
    rcases hx with ⟨h1, h2, h3⟩ | ⟨h1, h2⟩
    · rw [show min n 262145 = n by omega] at h3
      exact .inl ⟨h1, by omega, h3⟩
    · exact .inr ⟨fun k => h1 ⟨k.1, by omega⟩, h2⟩
  have HFIN := hide hfin
  have HQ := hide (fixed_all r p i (min n 262145) z w h (by omega) hi)
  have hm : ((min n 262145 : Nat) : Int) = min (n : Int) 262145 := by omega
  rw [hm] at HQ
  have hmr : min (n : Int) 262145 ≤ 262145 := by omega
  have hmr0 : 0 ≤ min (n : Int) 262145 := by omega
  clear h hfin hm
  go_enter Try.func57, Try.ntmps57
  go_wp2_with fail
  refine HQ.out.mono ?_
  rintro e w1 ⟨h1, t1⟩
  have H1 := hide h1
  have T1 := hide t1
  clear h1 t1
  have hv : ∃ v, e = .returned v := by
    rcases H1.out with ⟨_, _, a', c', e1, _⟩ | ⟨_, e1, _⟩ <;> exact ⟨_, e1⟩
  obtain ⟨v, rfl⟩ := hv
  go_wp2_with fail
  go_ret
  exact ⟨HFIN.out _ _ H1.out, T1.out⟩
/-- Four numbers, read by a reader. -/
theorem num4 {p : List (BitVec 8)} {i s m x v i1 i2 i3 i4 : Nat} {z1 z2 z3 z4 : Int} (h1 : numR p i 0 = (s, i1, z1)) (h2 : numR p i1 z1 = (m, i2, z2)) (h3 : numR p i2 z2 = (x, i3, z3)) (h4 : numR p i3 z3 = (v, i4, z4)) :
    (z4 = 0 → rd4 (p.drop i) = some (s, m, x, v, p.drop i4)) ∧ (z4 ≠ 0 → rd4 (p.drop i) = none) := by
  have err : ∀ {j : Nat} {l : Nat × Nat × Int} {z : Int}, z ≠ 0 → numR p j z = l → l = (0, j, z) := fun hz e => by rw [← e, numR, if_neg hz]
  have eOk : ∀ {j : Nat} {a b : Nat} {z : Int}, numR p j 0 = (a, b, z) → (z = 0 ∧ ∃ k, rdShort (p.drop j) = .ok (a, k) ∧ b = j + k) ∨ (z ≠ 0 ∧ ∃ y, rdShort (p.drop j) = .error y) := fun {j a b z} e => by
    rw [numR, if_pos rfl] at e
    split at e
    · rename_i y hq
      simp only [Prod.mk.injEq] at e
      have := rdShort_err hq
      exact .inr ⟨by omega, _, hq⟩
    · rename_i a' k hq
      simp only [Prod.mk.injEq] at e
      obtain ⟨rfl, rfl, rfl⟩ := e
      exact .inl ⟨rfl, k, hq, rfl⟩
  have fin : ∀ {j : Nat} {a b : Nat} {y z : Int}, y ≠ 0 → numR p j y = (a, b, z) → z = y := fun hy e => by
    have := err hy e
    simp only [Prod.mk.injEq] at this
    exact this.2.2
  unfold rd4
  rcases eOk h1 with ⟨rfl, k1, e1, rfl⟩ | ⟨q1, y, e1⟩
  · rw [e1]
    simp only [List.drop_drop]
    rcases eOk h2 with ⟨rfl, k2, e2, rfl⟩ | ⟨q2, y, e2⟩
    · rw [e2]
      simp only
      rcases eOk h3 with ⟨rfl, k3, e3, rfl⟩ | ⟨q3, y, e3⟩
      · rw [e3]
        simp only
        rcases eOk h4 with ⟨rfl, k4, e4, rfl⟩ | ⟨q4, y, e4⟩
        · rw [e4]
          exact ⟨fun _ => rfl, fun q => absurd rfl q⟩
        · rw [e4]
          exact ⟨fun q => absurd q q4, fun _ => rfl⟩
      · rw [e3]
        have := fin q3 h4
        exact ⟨fun q => absurd (this ▸ q) q3, fun _ => rfl⟩
    · rw [e2]
      have a1 := fin q2 h3
      subst a1
      have a2 := fin q2 h4
      exact ⟨fun q => absurd (a2 ▸ q) q2, fun _ => rfl⟩
  · rw [e1]
    have a1 := fin q1 h2
    subst a1
    have a2 := fin q1 h3
    subst a2
    have a3 := fin q1 h4
    exact ⟨fun q => absurd (a3 ▸ q) q1, fun _ => rfl⟩
end Go.Proofs.Ytolaaodhnhdadaa
