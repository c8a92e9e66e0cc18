/-
  Keys, bytes and numbers that came in, opened.
-/
import Derived.Test.YtppikddjdjmakaaPost
import Derived.Test.YtppikddjdjmakaaFr
import Derived.SizedLaws
import Derived.Deep.Slices
namespace Go.Proofs.Ytppikddjdjmakaa
open Go.ChangeShapes Go.WideShapes Go.ChangeAt Go.RowKit
set_option maxRecDepth 100000
theorem cells5 : Try.prog.cellsOf 5 = 1 := by kernel_rfl
theorem bytesOf5 : Try.prog.bytesOf 5 = 1 := by kernel_rfl
theorem cells3 : Try.prog.cellsOf 3 = 1 := by kernel_rfl
theorem cells25 : Try.prog.cellsOf 25 = 1 := by kernel_rfl
theorem bytesOf25 : Try.prog.bytesOf 25 = 24 := by kernel_rfl
theorem bytes_none1 (w : World) : Bytes w (.slice none 0 0) [] := ⟨none, 0, rfl, fun k hk => by simp at hk⟩
theorem open_bytes_cell {H : Type} {enc : TypeId × Value → H} {W : World} {n : Nat} {v : Value} {x : DataW H × List MemPlace} (h : DataW.trod enc Try.prog W 0 (fun _ => true) true n 25 [v] = some x) (hw : ∀ n ∈ x.1.weights Try.prog 25, n ≤ reachBytes) :
    ∃ (a : Option Addr) (m c : Nat) (bs : List (BitVec 8)), v = .slice a m c ∧ Bytes W v bs ∧ m ≤ reachBytes := by
  rcases open_ints Try.underlying25 Try.underlying5 cells5 h with ⟨hv, _⟩ | ⟨a, len, cap, zs, hv, _, hlc, hcap, hlen, hx, hcell, hwf⟩
  · obtain rfl : v = .slice none 0 0 := by simpa using hv
    exact ⟨none, 0, 0, [], rfl, bytes_none1 W, by decide⟩
  · obtain rfl : v = .slice (some a) len cap := by simpa using hv
    have hz : zs.length = cap := by simpa using hlen
    subst hx
    have hw1 : ((lits .u8 (zs.take len) : List (DataW H)).length + (lits .u8 (zs.drop len) : List (DataW H)).length) * Try.prog.bytesOf 5 ≤ reachBytes := hw _ (by simp [DataW.weights, Try.underlying25])
    have hw2 : len ≤ reachBytes := by
      simp only [lits, List.length_map, List.length_take, List.length_drop, bytesOf5] at hw1
      omega
    refine ⟨some a, len, cap, (zs.take len).map fun z => BitVec.ofNat 8 z.toNat, rfl, ⟨some a, cap, by simp; omega, fun k hk => ?_⟩, hw2⟩
    have hkl : k < len := by simp at hk; omega
    obtain ⟨b, off, rfl, hc⟩ := ints_at hcell (by omega)
    refine ⟨b, off, rfl, ?_⟩
    rw [hc k (by omega)]
    have hk' : k < zs.length := by omega
    have hb := bounds_u8 (hwf zs[k] (List.getElem_mem hk'))
    congr 2
    simp [List.getD, hkl, hk']
    omega
theorem weights_in {H : Type} {e : TypeId} : ∀ {l : List (DataW H)} {d : DataW H}, d ∈ l → ∀ n ∈ d.weights Try.prog e, n ∈ DataW.weightsAll Try.prog e l
  | d' :: r, d, hd, n, hn => by
    simp only [DataW.weightsAll, List.mem_append]
    rcases List.mem_cons.1 hd with rfl | h
    · exact Or.inl hn
    · exact Or.inr (weights_in h n hn)
theorem open_keys_cell {H : Type} {enc : TypeId × Value → H} {W : World} {fuel : Nat} {v : Value} {x : DataW H × List MemPlace} (h : DataW.trod enc Try.prog W 0 (fun _ => true) true fuel 28 [v] = some x) (hw : ∀ q ∈ x.1.weights Try.prog 28, q ≤ reachBytes) :
    ∃ (a : Option Addr) (m c : Nat) (ks : List (List (BitVec 8))), v = .slice a m c ∧ Keys W v ks ∧ m ≤ reachBytes ∧ ∀ f ∈ ks, f.length ≤ reachBytes := by
  rcases Go.Deep.open_slice Try.underlying28 h with ⟨hv, _⟩ | ⟨a, len, cap, m, n, D, Pl, hv, _, hlc, hcap, hm, hx, hcells⟩
  · obtain rfl : v = .slice none 0 0 := by simpa using hv
    exact ⟨none, 0, 0, [], rfl, ⟨none, 0, rfl, fun k f hf => by simp at hf⟩, by decide, fun f hf => by simp at hf⟩
  · obtain rfl : v = .slice (some a) len cap := by simpa using hv
    have hm' : m = cap := by simpa using hm
    subst hm'
    subst hx
    have hcw : len ≤ reachBytes := by
      have hw1 := hw _ (by simp only [DataW.weights, Try.underlying28]; exact List.mem_cons_self ..)
      simp only [List.length_map, List.length_range, bytesOf25] at hw1
      omega
    have each : ∀ i, i < len → ∃ f : Option Addr × Nat × List (BitVec 8), W.cell? (a.add i) = some (.slice f.1 f.2.2.length f.2.1) ∧ Bytes W (.slice f.1 f.2.2.length f.2.1) f.2.2 ∧ f.2.2.length ≤ reachBytes := by
      intro i hi
      obtain ⟨cs', h1, h2⟩ := hcells i (by omega)
      rw [cells25] at h1
      obtain ⟨_, hlen, hcell⟩ := World.cells?_some h1
      match cs', hlen with
      | [v0], _ =>
        have hin : ∀ q ∈ (D i).weights Try.prog 25, q ≤ reachBytes := fun q hq => hw q (by
          simp only [DataW.weights, Try.underlying28, List.mem_cons, List.mem_append]
          exact Or.inr (Or.inl (weights_in (d := D i) (List.mem_map.2 ⟨i, List.mem_range.2 hi, rfl⟩) q hq)))
        obtain ⟨ka, kn, kc, key, rfl, hk, hkn⟩ := open_bytes_cell h2 hin
        have l1 := hk.len
        subst l1
        refine ⟨(ka, kc, key), ?_, hk, hkn⟩
        have e0 := hcell 0 (by omega)
        rw [Go.Deep.add_add] at e0
        simpa using e0
    obtain ⟨q, hq⟩ := Go.Deep.choose_lt each
    refine ⟨some a, len, m, (List.range len).map fun i => (q i).2.2, rfl, ⟨some a, m, by simp, fun k f hf => ?_⟩, hcw, fun f hf => ?_⟩
    · have hk : k < len := by
        rcases Nat.lt_or_ge k len with h | h
        · exact h
        · rw [List.getElem?_eq_none (by simpa using h)] at hf; cases hf
      obtain rfl : (q k).2.2 = f := by simpa [hk] using hf
      have hq0 := (hq 0 (by omega)).1
      obtain ⟨b, off, spot⟩ := a
      have hspot : spot = none := by simpa [Addr.add] using World.cell?_spot hq0
      subst hspot
      have h1 := (hq k hk).1
      rw [Go.WideShapes.add_plain] at h1
      exact ⟨b, off, (q k).1, (q k).2.1, rfl, h1, (hq k hk).2.1⟩
    · obtain ⟨i, hi, rfl⟩ := List.mem_map.1 hf
      exact (hq i (by simpa using hi)).2.2
/-- Numbers, one behind the other. -/
def Ints (w : World) (a : Option Addr) (n : Nat) : Prop := ∀ k, k < n → ∃ b off z, a = some ⟨b, off, none⟩ ∧ w.cell? ⟨b, off + k, none⟩ = some (.int .i64 z)
theorem open_ints_cell {H : Type} {enc : TypeId × Value → H} {W : World} {n : Nat} {v : Value} {x : DataW H × List MemPlace} (h : DataW.trod enc Try.prog W 0 (fun _ => true) true n 33 [v] = some x) :
    ∃ (a : Option Addr) (m c : Nat), v = .slice a m c ∧ Ints W a m := by
  rcases open_ints Try.underlying33 Try.underlying3 cells3 h with ⟨hv, _⟩ | ⟨a, len, cap, zs, hv, _, hlc, hcap, hlen, _, hcell, hwf⟩
  · obtain rfl : v = .slice none 0 0 := by simpa using hv
    exact ⟨none, 0, 0, rfl, fun k hk => by omega⟩
  · obtain rfl : v = .slice (some a) len cap := by simpa using hv
    have hz : zs.length = cap := by simpa using hlen
    refine ⟨some a, len, cap, rfl, fun k hk => ?_⟩
    obtain ⟨b, off, rfl, hc⟩ := ints_at hcell (by omega)
    exact ⟨b, off, _, rfl, hc k (by omega)⟩
section
variable {H : Type} {enc : TypeId × Value → H} {W : World} {r : Reach} {b0 : Nat} {v : Value} {d : DataW H} {p : List MemPlace}
theorem open_keys (hval : Value.okWide Try.prog W r b0 28 v) (h : DataW.Trod enc Try.prog W 0 (fun _ => true) true 28 v d p) (hw : ∀ n ∈ d.weights Try.prog 28, n ≤ reachBytes) :
    ∃ (a : Option Addr) (m c : Nat) (ks : List (List (BitVec 8))), v = .slice a m c ∧ Keys W v ks ∧ m ≤ reachBytes ∧ ∀ f ∈ ks, f.length ≤ reachBytes := by
  obtain ⟨fuel, h⟩ := h
  obtain ⟨a0, len0, cap0, rfl⟩ := okWide_slice Try.underlying28 hval
  exact open_keys_cell h hw
theorem open_bytes (hval : Value.okWide Try.prog W r b0 25 v) (h : DataW.Trod enc Try.prog W 0 (fun _ => true) true 25 v d p) (hw : ∀ n ∈ d.weights Try.prog 25, n ≤ reachBytes) :
    ∃ (a : Option Addr) (m c : Nat) (bs : List (BitVec 8)), v = .slice a m c ∧ Bytes W v bs ∧ m ≤ reachBytes := by
  obtain ⟨fuel, h⟩ := h
  obtain ⟨a0, len0, cap0, rfl⟩ := okWide_slice Try.underlying25 hval
  exact open_bytes_cell h hw
theorem open_nums (hval : Value.okWide Try.prog W r b0 33 v) (h : DataW.Trod enc Try.prog W 0 (fun _ => true) true 33 v d p) :
    ∃ (a : Option Addr) (m c : Nat), v = .slice a m c ∧ Ints W a m := by
  obtain ⟨fuel, h⟩ := h
  obtain ⟨a0, len0, cap0, rfl⟩ := okWide_slice Try.underlying33 hval
  exact open_ints_cell h
theorem open_i64 (hval : Value.okWide Try.prog W r b0 3 v) (h : DataW.Trod enc Try.prog W 0 (fun _ => true) true 3 v d p) :
    ∃ n : Int, v = .int .i64 n ∧ -9223372036854775808 ≤ n ∧ n ≤ 9223372036854775807 := by
  obtain ⟨n, rfl, _, _, hw⟩ := open_int Try.underlying3 hval h
  have hb := bounds_i64 hw
  exact ⟨n, rfl, by omega, by omega⟩
theorem open_u64 (hval : Value.okWide Try.prog W r b0 31 v) (h : DataW.Trod enc Try.prog W 0 (fun _ => true) true 31 v d p) :
    ∃ n : Nat, v = .int .u64 (n : Nat) ∧ n < 18446744073709551616 := by
  obtain ⟨n, rfl, _, _, hw⟩ := open_int Try.underlying31 hval h
  have hb := bounds_u64 hw
  exact ⟨n.toNat, by rw [show ((n.toNat : Nat) : Int) = n by omega], by omega⟩
end
end Go.Proofs.Ytppikddjdjmakaa
