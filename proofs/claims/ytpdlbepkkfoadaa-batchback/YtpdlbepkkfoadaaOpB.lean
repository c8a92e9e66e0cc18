/-
  A batch that came in, opened.
-/
import Derived.Test.YtpdlbepkkfoadaaOpE
import Derived.Test.YtpdlbepkkfoadaaMw
import Derived.Deep.Slices
namespace Go.Proofs.Ytpdlbepkkfoadaa
open Go.ChangeShapes Go.WideShapes Go.ChangeAt Go.RowKit
set_option maxRecDepth 100000
theorem cells24 : Try.prog.cellsOf 24 = 3 := by kernel_rfl
theorem cells29 : Try.prog.cellsOf 29 = 1 := by kernel_rfl
theorem cells31 : Try.prog.cellsOf 31 = 2 := by kernel_rfl
theorem bytesOf24 : Try.prog.bytesOf 24 = 56 := by kernel_rfl
theorem weights_in {H : Type} {e : TypeId} : ∀ {l : List (DataW H)} {d : DataW H}, d ∈ l → ∀ n ∈ d.weights Try.prog e, n ∈ DataW.weightsAll Try.prog e l
  | d' :: r, d, hd, n, hn => by
    simp only [DataW.weightsAll, List.mem_append]
    rcases List.mem_cons.1 hd with rfl | h
    · exact Or.inl hn
    · exact Or.inr (weights_in h n hn)
theorem open_writes_cell {H : Type} {enc : TypeId × Value → H} {W : World} {fuel : Nat} {v : Value} {x : DataW H × List MemPlace} (h : DataW.trod enc Try.prog W 0 (fun _ => true) true fuel 29 [v] = some x) (hw : ∀ q ∈ x.1.weights Try.prog 29, q ≤ reachBytes) :
    ∃ (a : Option Addr) (m c : Nat) (xs : List Wr), v = .slice a m c ∧ Wrs W v xs ∧ m ≤ reachBytes ∧ ∀ f ∈ xs, f.2.1.length ≤ reachBytes ∧ f.2.2.length ≤ reachBytes := by
  rcases Go.Deep.open_slice Try.underlying29 h with ⟨hv, _⟩ | ⟨a, len, cap, m, n, D, Pl, hv, _, hlc, hcap, hm, hx, hcells⟩
  · obtain rfl : v = .slice none 0 0 := by simpa using hv
    exact ⟨none, 0, 0, [], rfl, ⟨none, 0, rfl, fun k f hf => by simp at hf⟩, by decide, fun f hf => by simp at hf⟩
  · obtain rfl : v = .slice (some a) len cap := by simpa using hv
    have hm' : m = cap := by simpa using hm
    subst hm'
    subst hx
    have hcw : len ≤ reachBytes := by
      have hw1 := hw _ (by simp only [DataW.weights, Try.underlying29]; exact List.mem_cons_self ..)
      simp only [List.length_map, List.length_range, bytesOf24] at hw1
      omega
    have each : ∀ i, i < len → ∃ f : Wr, W.cell? (a.add (i * 3)) = some (.int .i64 f.1) ∧ (∃ (ka : Option Addr) (kc : Nat) (va : Option Addr) (vc : Nat), W.cell? (a.add (i * 3 + 1)) = some (.slice ka f.2.1.length kc) ∧ W.cell? (a.add (i * 3 + 2)) = some (.slice va f.2.2.length vc) ∧ Bytes W (.slice ka f.2.1.length kc) f.2.1 ∧ Bytes W (.slice va f.2.2.length vc) f.2.2) ∧ f.2.1.length ≤ reachBytes ∧ f.2.2.length ≤ reachBytes := by
      intro i hi
      obtain ⟨cs', h1, h2⟩ := hcells i (by omega)
      rw [cells24] at h1
      obtain ⟨_, hlen, hcell⟩ := World.cells?_some h1
      obtain ⟨xs, k, _, hxy, _, hxl, hf⟩ := DataW.trod_struct Try.underlying24 h2
      match xs, hxl, cs', hlen with
      | [y0, y1, y2], _, [v0, v1, v2], _ =>
        have t0 : DataW.trod enc Try.prog W 0 (fun _ => true) true k 3 [v0] = some y0 := by simpa [cells3] using hf 0 _ rfl
        have t1 : DataW.trod enc Try.prog W 0 (fun _ => true) true k 22 [v1] = some y1 := by simpa [cells22] using hf 1 _ rfl
        have t2 : DataW.trod enc Try.prog W 0 (fun _ => true) true k 22 [v2] = some y2 := by simpa [cells22] using hf 2 _ rfl
        have e0 := hcell 0 (by omega)
        have e1 := hcell 1 (by omega)
        have e2 := hcell 2 (by omega)
        rw [Go.Deep.add_add] at e0 e1 e2
        have hD : D i = .agg [y0.1, y1.1, y2.1] := by
          have := congrArg Prod.fst hxy
          simpa using this
        have hin : ∀ q ∈ (DataW.agg [y0.1, y1.1, y2.1] : DataW H).weights Try.prog 24, q ≤ reachBytes := fun q hq => hw q (by
          simp only [DataW.weights, Try.underlying29, List.mem_cons, List.mem_append]
          refine Or.inr (Or.inl (weights_in (d := D i) (List.mem_map.2 ⟨i, List.mem_range.2 hi, rfl⟩) q ?_))
          rw [hD]
          exact hq)
        have hw1 : ∀ q ∈ y1.1.weights Try.prog 22, q ≤ reachBytes := fun q hq => hin q (by
          simp only [DataW.weights, Try.underlying24, DataW.weightsEach, List.map_cons, List.map_nil, List.mem_append]
          exact Or.inr (Or.inl hq))
        have hw2 : ∀ q ∈ y2.1.weights Try.prog 22, q ≤ reachBytes := fun q hq => hin q (by
          simp only [DataW.weights, Try.underlying24, DataW.weightsEach, List.map_cons, List.map_nil, List.mem_append]
          exact Or.inr (Or.inr (Or.inl hq)))
        obtain ⟨z, rfl⟩ := i64_cell Try.underlying3 t0
        obtain ⟨ka, kn, kc, key, rfl, hk, hkn⟩ := open_bytes_cell t1 hw1
        obtain ⟨va, vn, vc, val, rfl, hv2, hvn⟩ := open_bytes_cell t2 hw2
        have l1 := hk.len
        have l2 := hv2.len
        subst l1 l2
        exact ⟨(z, key, val), by simpa using e0, ⟨ka, kc, va, vc, by simpa using e1, by simpa using e2, hk, hv2⟩, hkn, hvn⟩
    obtain ⟨q, hq⟩ := Go.Deep.choose_lt each
    refine ⟨some a, len, m, (List.range len).map q, rfl, ⟨some a, m, by simp, fun k f hf => ?_⟩, hcw, fun f hf => ?_⟩
    · have hk : k < len := by
        rcases Nat.lt_or_ge k len with h | h
        · exact h
        · rw [List.getElem?_eq_none (by simpa using h)] at hf; cases hf
      obtain rfl : q k = f := by simpa [hk] using hf
      obtain ⟨y0, ⟨ka, kc, va, vc, y1, y2, y3, y4⟩, _⟩ := hq k hk
      obtain ⟨b, off, spot⟩ := a
      have hspot : spot = none := by simpa [Addr.add] using World.cell?_spot (hq 0 (by omega)).1
      subst hspot
      rw [Go.WideShapes.add_plain] at y0 y1 y2
      exact ⟨b, off, rfl, y0, ka, kc, va, vc, y1, y2, y3, y4⟩
    · obtain ⟨i, hi, rfl⟩ := List.mem_map.1 hf
      exact (hq i (by simpa using hi)).2.2
theorem open_batch {H : Type} {enc : TypeId × Value → H} {W : World} {r : Reach} {b0 : Nat} {v : Value} {d : DataW H} {p : List MemPlace} (hval : Value.okWide Try.prog W r b0 31 v) (h : DataW.Trod enc Try.prog W 0 (fun _ => true) true 31 v d p) (hw : ∀ n ∈ d.weights Try.prog 31, n ≤ reachBytes) :
    ∃ (s : Nat) (a : Option Addr) (n c : Nat) (xs : List Wr), v = .agg #[.int .u64 (s : Int), .slice a n c] ∧ s < 18446744073709551616 ∧ Wrs W (.slice a n c) xs ∧ n ≤ reachBytes ∧ ∀ f ∈ xs, f.2.1.length ≤ reachBytes ∧ f.2.2.length ≤ reachBytes := by
  obtain ⟨fuel, h⟩ := h
  obtain ⟨cs, rfl, h2⟩ := okWide_struct Try.underlying31 hval
  rw [cells31] at h2
  obtain ⟨l⟩ := cs
  match l, h2 with
  | [c0, c1], _ =>
    have h' : DataW.trod enc Try.prog W 0 (fun _ => true) true fuel 31 [c0, c1] = some (d, p) := h
    obtain ⟨xs, n, _, hx, _, hlen, hf⟩ := DataW.trod_struct Try.underlying31 h'
    match xs, hlen with
    | [y0, y1], _ =>
      obtain ⟨hd, _⟩ := Prod.mk.inj hx
      have t0 : DataW.trod enc Try.prog W 0 (fun _ => true) true n 28 [c0] = some y0 := by simpa [cells28] using hf 0 _ rfl
      have t1 : DataW.trod enc Try.prog W 0 (fun _ => true) true n 29 [c1] = some y1 := by simpa [cells29] using hf 1 _ rfl
      have hw1 : ∀ q ∈ y1.1.weights Try.prog 29, q ≤ reachBytes := fun q hq => hw q (by
        rw [hd]
        simp only [DataW.weights, Try.underlying31, DataW.weightsEach, List.map_cons, List.map_nil, List.mem_append]
        exact Or.inr (Or.inl hq))
      obtain ⟨s, rfl, hs⟩ := u64_cell Try.underlying28 t0
      obtain ⟨a, m, c, ws, rfl, hws, hm, hb⟩ := open_writes_cell t1 hw1
      exact ⟨s, a, m, c, ws, rfl, hs, hws, hm, hb⟩
end Go.Proofs.Ytpdlbepkkfoadaa
