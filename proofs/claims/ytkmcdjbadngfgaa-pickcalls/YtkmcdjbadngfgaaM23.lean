import Derived.Test.YtkmcdjbadngfgaaM22
import Derived.Test.YtkmcdjbadngfgaaM16
import Derived.SizedLaws
import Derived.Deep.Slices
import Derived.Test.YtkmcdjbadngfgaaM12
/-
  Versions and edits that came in, opened.
-/
namespace Go.Proofs.Ytkmcdjbadngfgaa
open Go.ChangeShapes Go.WideShapes Go.ChangeAt Go.RowKit
set_option maxRecDepth 100000
theorem xcells37 : Try.prog.cellsOf 29 = 6 := by kernel_rfl
theorem xcells25 : Try.prog.cellsOf 25 = 4 := by kernel_rfl
theorem xcells3 : Try.prog.cellsOf 3 = 1 := by kernel_rfl
theorem xcells23 : Try.prog.cellsOf 23 = 1 := by kernel_rfl
theorem xcells35 : Try.prog.cellsOf 27 = 1 := by kernel_rfl
theorem xcells50 : Try.prog.cellsOf 31 = 1 := by kernel_rfl
theorem xcells22 : Try.prog.cellsOf 22 = 1 := by kernel_rfl
theorem xcells5 : Try.prog.cellsOf 5 = 1 := by kernel_rfl
theorem xbytes5 : Try.prog.bytesOf 5 = 1 := by kernel_rfl
theorem xbytes37 : Try.prog.bytesOf 29 = 80 := by kernel_rfl
theorem xbytes50 : Try.prog.bytesOf 31 = 24 := by kernel_rfl
theorem u64_cell {H : Type} {enc : TypeId × Value → H} {W : World} {n t : Nat} {v : Value} {x : DataW H × List MemPlace} (ht : Try.prog.underlying t = some (.int .u64)) (h : DataW.trod enc Try.prog W 0 (fun _ => true) true n t [v] = some x) :
    ∃ s : Nat, v = .int .u64 (s : Int) ∧ s < 18446744073709551616 := by
  obtain ⟨z, hz, _, hwf⟩ := DataW.trod_int ht h
  have hb := bounds_u64 hwf
  refine ⟨z.toNat, ?_, by omega⟩
  rw [show ((z.toNat : Nat) : Int) = z by omega]
  simpa using hz
theorem i64_cell {H : Type} {enc : TypeId × Value → H} {W : World} {n t : Nat} {v : Value} {x : DataW H × List MemPlace} (ht : Try.prog.underlying t = some (.int .i64)) (h : DataW.trod enc Try.prog W 0 (fun _ => true) true n t [v] = some x) :
    ∃ z : Int, v = .int .i64 z := by
  obtain ⟨z, hz, _⟩ := DataW.trod_int ht h
  exact ⟨z, by simpa using hz⟩
theorem bytes_none1 (w : World) : Bytes w (.slice none 0 0) [] := ⟨none, 0, rfl, fun k hk => by simp at hk⟩
theorem open_bytes_cell {H : Type} {enc : TypeId × Value → H} {W : World} {n : Nat} {v : Value} {x : DataW H × List MemPlace} (h : DataW.trod enc Try.prog W 0 (fun _ => true) true n 27 [v] = some x) (hw : ∀ n ∈ x.1.weights Try.prog 27, n ≤ reachBytes) :
    ∃ (a : Option Addr) (m c : Nat) (bs : List (BitVec 8)), v = .slice a m c ∧ Bytes W v bs ∧ m ≤ reachBytes := by
  rcases open_ints Try.underlying27 Try.underlying5 xcells5 h with ⟨hv, _⟩ | ⟨a, len, cap, zs, hv, _, hlc, hcap, hlen, hx, hcell, hwf⟩
  · obtain rfl : v = .slice none 0 0 := by simpa using hv
    exact ⟨none, 0, 0, [], rfl, bytes_none1 W, by decide⟩
  · obtain rfl : v = .slice (some a) len cap := by simpa using hv
    have hz : zs.length = cap := by simpa using hlen
    subst hx
    have hw1 : ((lits .u8 (zs.take len) : List (DataW H)).length + (lits .u8 (zs.drop len) : List (DataW H)).length) * Try.prog.bytesOf 5 ≤ reachBytes := hw _ (by simp [DataW.weights, Try.underlying27])
    have hw2 : len ≤ reachBytes := by
      simp only [lits, List.length_map, List.length_take, List.length_drop, xbytes5] at hw1
      omega
    refine ⟨some a, len, cap, (zs.take len).map fun z => BitVec.ofNat 8 z.toNat, rfl, ⟨some a, cap, by simp; omega, fun k hk => ?_⟩, hw2⟩
    have hkl : k < len := by simp at hk; omega
    obtain ⟨b, off, rfl, hc⟩ := ints_at hcell (by omega)
    refine ⟨b, off, rfl, ?_⟩
    rw [hc k (by omega)]
    have hk' : k < zs.length := by omega
    have hb := bounds_u8 (hwf zs[k] (List.getElem_mem hk'))
    congr 2
    simp [List.getD, hkl, hk']
    omega
theorem weights_in {H : Type} {e : TypeId} : ∀ {l : List (DataW H)} {d : DataW H}, d ∈ l → ∀ n ∈ d.weights Try.prog e, n ∈ DataW.weightsAll Try.prog e l
  | d' :: r, d, hd, n, hn => by
    simp only [DataW.weightsAll, List.mem_append]
    rcases List.mem_cons.1 hd with rfl | h
    · exact Or.inl hn
    · exact Or.inr (weights_in h n hn)
/-- The numbers of a file have room, and its keys are no longer than memory. -/
def FitF (y : Tf) : Prop := y.f.no < 18446744073709551616 ∧ y.f.seq < 18446744073709551616 ∧ y.f.least.length ≤ reachBytes ∧ y.f.most.length ≤ reachBytes
/-- A file's six values, opened. -/
theorem open_file {H : Type} {enc : TypeId × Value → H} {W : World} {fuel : Nat} {v0 v1 v2 v3 v4 v5 : Value} {x : DataW H × List MemPlace} (h : DataW.trod enc Try.prog W 0 (fun _ => true) true fuel 29 [v0, v1, v2, v3, v4, v5] = some x) (hw : ∀ q ∈ x.1.weights Try.prog 29, q ≤ reachBytes) :
    ∃ y : Tf, y.cells = [v0, v1, v2, v3, v4, v5] ∧ FB W y ∧ FitF y := by
  obtain ⟨xs, k, _, hxy, _, hxl, hf⟩ := DataW.trod_struct Try.underlying29 h
  match xs, hxl with
  | [y0, y1, y2, y3, y4, y5], _ =>
    have t0 : DataW.trod enc Try.prog W 0 (fun _ => true) true k 23 [v0] = some y0 := by simpa [xcells23] using hf 0 _ rfl
    have t1 : DataW.trod enc Try.prog W 0 (fun _ => true) true k 3 [v1] = some y1 := by simpa [xcells3] using hf 1 _ rfl
    have t2 : DataW.trod enc Try.prog W 0 (fun _ => true) true k 27 [v2] = some y2 := by simpa [xcells35] using hf 2 _ rfl
    have t3 : DataW.trod enc Try.prog W 0 (fun _ => true) true k 27 [v3] = some y3 := by simpa [xcells35] using hf 3 _ rfl
    have t4 : DataW.trod enc Try.prog W 0 (fun _ => true) true k 3 [v4] = some y4 := by simpa [xcells3] using hf 4 _ rfl
    have t5 : DataW.trod enc Try.prog W 0 (fun _ => true) true k 23 [v5] = some y5 := by simpa [xcells23] using hf 5 _ rfl
    have hD : x.1 = .agg [y0.1, y1.1, y2.1, y3.1, y4.1, y5.1] := by
      have := congrArg Prod.fst hxy
      simpa using this
    rw [hD] at hw
    have hw2 : ∀ q ∈ y2.1.weights Try.prog 27, q ≤ reachBytes := fun q hq => hw q (by
      simp only [DataW.weights, Try.underlying29, DataW.weightsEach, List.map_cons, List.map_nil, List.mem_append]
      exact Or.inr (Or.inr (Or.inl hq)))
    have hw3 : ∀ q ∈ y3.1.weights Try.prog 27, q ≤ reachBytes := fun q hq => hw q (by
      simp only [DataW.weights, Try.underlying29, DataW.weightsEach, List.map_cons, List.map_nil, List.mem_append]
      exact Or.inr (Or.inr (Or.inr (Or.inl hq))))
    obtain ⟨no, rfl, hno⟩ := u64_cell Try.underlying23 t0
    obtain ⟨sz, rfl⟩ := i64_cell Try.underlying3 t1
    obtain ⟨la, ln, lc, ls, rfl, hl, hln⟩ := open_bytes_cell t2 hw2
    obtain ⟨ma, mn, mc, ms, rfl, hm, hmn⟩ := open_bytes_cell t3 hw3
    obtain ⟨en, rfl⟩ := i64_cell Try.underlying3 t4
    obtain ⟨sq, rfl, hsq⟩ := u64_cell Try.underlying23 t5
    have l1 := hl.len
    have l2 := hm.len
    subst l1 l2
    exact ⟨⟨la, lc, ma, mc, ⟨no, sz, ls, ms, en, sq⟩⟩, rfl, ⟨hl, hm⟩, hno, hsq, hln, hmn⟩
theorem open_files {H : Type} {enc : TypeId × Value → H} {W : World} {fuel : Nat} {v : Value} {x : DataW H × List MemPlace} (h : DataW.trod enc Try.prog W 0 (fun _ => true) true fuel 31 [v] = some x) (hw : ∀ q ∈ x.1.weights Try.prog 31, q ≤ reachBytes) :
    ∃ (a : Option Addr) (m c : Nat) (l : List Tf), v = .slice a m c ∧ m = l.length ∧ Fils W a l ∧ m ≤ reachBytes ∧ ∀ f ∈ l, FitF f := by
  rcases Go.Deep.open_slice Try.underlying31 h with ⟨hv, _⟩ | ⟨a, len, cap, m, n, D, Pl, hv, _, hlc, hcap, hm, hx, hcells⟩
  · obtain rfl : v = .slice none 0 0 := by simpa using hv
    exact ⟨none, 0, 0, [], rfl, rfl, fun k f hf => by simp at hf, by decide, fun f hf => by simp at hf⟩
  · obtain rfl : v = .slice (some a) len cap := by simpa using hv
    have hm' : m = cap := by simpa using hm
    subst hm'
    subst hx
    have hcw : len ≤ reachBytes := by
      have hw1 := hw _ (by simp only [DataW.weights, Try.underlying31]; exact List.mem_cons_self ..)
      simp only [List.length_map, List.length_range, xbytes37] at hw1
      omega
    have each : ∀ i, i < len → ∃ f : Tf, (∀ j u, f.cells[j]? = some u → W.cell? (a.add (i * 6 + j)) = some u) ∧ FB W f ∧ FitF f := by
      intro i hi
      obtain ⟨cs', h1, h2⟩ := hcells i (by omega)
      rw [xcells37] at h1
      obtain ⟨_, hlen, hcell⟩ := World.cells?_some h1
      match cs', hlen with
      | [v0, v1, v2, v3, v4, v5], _ =>
        have hin : ∀ q ∈ (D i).weights Try.prog 29, q ≤ reachBytes := fun q hq => hw q (by
          simp only [DataW.weights, Try.underlying31, List.mem_cons, List.mem_append]
          exact Or.inr (Or.inl (weights_in (d := D i) (List.mem_map.2 ⟨i, List.mem_range.2 hi, rfl⟩) q hq)))
        obtain ⟨y, hy, hfb, hfit⟩ := open_file h2 hin
        refine ⟨y, fun j u hu => ?_, hfb, hfit⟩
        have hj : j < 6 := (List.getElem?_eq_some_iff.1 hu).1
        have e0 := hcell j (by omega)
        rw [Go.Deep.add_add] at e0
        rw [e0, ← hy]
        exact hu
    obtain ⟨q, hq⟩ := Classical.skolem.1 (fun i : Nat => show ∃ f : Tf, i < len → (∀ j u, f.cells[j]? = some u → W.cell? (a.add (i * 6 + j)) = some u) ∧ FB W f ∧ FitF f from by
      by_cases hi : i < len
      · obtain ⟨f, hf⟩ := each i hi
        exact ⟨f, fun _ => hf⟩
      · exact ⟨⟨none, 0, none, 0, ⟨0, 0, [], [], 0, 0⟩⟩, fun h => absurd h hi⟩)
    refine ⟨some a, len, m, (List.range len).map q, rfl, by simp, fun k f hf => ?_, hcw, fun f hf => ?_⟩
    · have hk : k < len := by
        rcases Nat.lt_or_ge k len with h | h
        · exact h
        · rw [List.getElem?_eq_none (by simpa using h)] at hf; cases hf
      obtain rfl : q k = f := by simpa [hk] using hf
      have hq0 := (hq 0 (by omega)).1 0 _ rfl
      obtain ⟨b, off, spot⟩ := a
      have hspot : spot = none := by simpa [Addr.add] using World.cell?_spot hq0
      subst hspot
      refine ⟨⟨b, off, rfl, fun j u hu => ?_⟩, (hq k hk).2.1⟩
      have := (hq k hk).1 j u hu
      rw [Go.WideShapes.add_plain] at this
      rw [Nat.add_assoc]
      exact this
    · obtain ⟨i, hi, rfl⟩ := List.mem_map.1 hf
      exact (hq i (by simpa using hi)).2.2
theorem open_levs {H : Type} {enc : TypeId × Value → H} {W : World} {fuel : Nat} {v : Value} {x : DataW H × List MemPlace} (h : DataW.trod enc Try.prog W 0 (fun _ => true) true fuel 22 [v] = some x) (hw : ∀ q ∈ x.1.weights Try.prog 22, q ≤ reachBytes) :
    ∃ (a : Option Addr) (m c : Nat) (L : List Lv), v = .slice a m c ∧ m = L.length ∧ Levs W a L ∧ m ≤ reachBytes ∧ ∀ x ∈ L, x.l.length ≤ reachBytes ∧ ∀ f ∈ x.l, FitF f := by
  rcases Go.Deep.open_slice Try.underlying22 h with ⟨hv, _⟩ | ⟨a, len, cap, m, n, D, Pl, hv, _, hlc, hcap, hm, hx, hcells⟩
  · obtain rfl : v = .slice none 0 0 := by simpa using hv
    exact ⟨none, 0, 0, [], rfl, rfl, fun k f hf => by simp at hf, by decide, fun f hf => by simp at hf⟩
  · obtain rfl : v = .slice (some a) len cap := by simpa using hv
    have hm' : m = cap := by simpa using hm
    subst hm'
    subst hx
    have hcw : len ≤ reachBytes := by
      have hw1 := hw _ (by simp only [DataW.weights, Try.underlying22]; exact List.mem_cons_self ..)
      simp only [List.length_map, List.length_range, xbytes50] at hw1
      omega
    have each : ∀ i, ∃ f : Lv, i < len → W.cell? (a.add i) = some (.slice f.a f.l.length f.c) ∧ Fils W f.a f.l ∧ f.l.length ≤ reachBytes ∧ ∀ y ∈ f.l, FitF y := by
      intro i
      by_cases hi : i < len
      · obtain ⟨cs', h1, h2⟩ := hcells i (by omega)
        rw [xcells50] at h1
        obtain ⟨_, hlen, hcell⟩ := World.cells?_some h1
        match cs', hlen with
        | [v0], _ =>
          have hin : ∀ q ∈ (D i).weights Try.prog 31, q ≤ reachBytes := fun q hq => hw q (by
            simp only [DataW.weights, Try.underlying22, List.mem_cons, List.mem_append]
            exact Or.inr (Or.inl (weights_in (d := D i) (List.mem_map.2 ⟨i, List.mem_range.2 hi, rfl⟩) q hq)))
          obtain ⟨fa, fm, fc, l, rfl, rfl, he, hre, hfit⟩ := open_files h2 hin
          refine ⟨⟨fa, fc, l⟩, fun _ => ⟨?_, he, hre, hfit⟩⟩
          have e0 := hcell 0 (by omega)
          rw [Go.Deep.add_add] at e0
          simpa using e0
      · exact ⟨⟨none, 0, []⟩, fun h => absurd h hi⟩
    obtain ⟨q, hq⟩ := Classical.skolem.1 each
    refine ⟨some a, len, m, (List.range len).map q, rfl, by simp, fun k f hf => ?_, hcw, fun f hf => ?_⟩
    · have hk : k < len := by
        rcases Nat.lt_or_ge k len with h | h
        · exact h
        · rw [List.getElem?_eq_none (by simpa using h)] at hf; cases hf
      obtain rfl : q k = f := by simpa [hk] using hf
      have hq0 := (hq 0 (by omega)).1
      obtain ⟨b, off, spot⟩ := a
      have hspot : spot = none := by simpa [Addr.add] using World.cell?_spot hq0
      subst hspot
      refine ⟨⟨b, off, rfl, ?_⟩, (hq k hk).2.1⟩
      have := (hq k hk).1
      rw [Go.WideShapes.add_plain] at this
      exact this
    · obtain ⟨i, hi, rfl⟩ := List.mem_map.1 hf
      exact (hq i (by simpa using hi)).2.2
theorem open_version {H : Type} {enc : TypeId × Value → H} {W : World} {r : Reach} {b0 : Nat} {v : Value} {d : DataW H} {p : List MemPlace} (hval : Value.okWide Try.prog W r b0 25 v) (h : DataW.Trod enc Try.prog W 0 (fun _ => true) true 25 v d p) (hw : ∀ n ∈ d.weights Try.prog 25, n ≤ reachBytes) :
    ∃ (a : Option Addr) (n c next seq log : Nat) (L : List Lv), v = verAgg a n c next seq log ∧ n = L.length ∧ Levs W a L ∧ n ≤ reachBytes ∧ (∀ x ∈ L, x.l.length ≤ reachBytes ∧ ∀ f ∈ x.l, FitF f) ∧ next < 18446744073709551616 ∧ seq < 18446744073709551616 ∧ log < 18446744073709551616 := by
  obtain ⟨fuel, h⟩ := h
  obtain ⟨cs, rfl, h2⟩ := okWide_struct Try.underlying25 hval
  rw [xcells25] at h2
  obtain ⟨l⟩ := cs
  match l, h2 with
  | [c0, c1, c2, c3], _ =>
    have h' : DataW.trod enc Try.prog W 0 (fun _ => true) true fuel 25 [c0, c1, c2, c3] = some (d, p) := h
    obtain ⟨xs, n, _, hx, _, hlen, hf⟩ := DataW.trod_struct Try.underlying25 h'
    match xs, hlen with
    | [y0, y1, y2, y3], _ =>
      obtain ⟨hd, _⟩ := Prod.mk.inj hx
      have t0 : DataW.trod enc Try.prog W 0 (fun _ => true) true n 22 [c0] = some y0 := by simpa [xcells22] using hf 0 _ rfl
      have t1 : DataW.trod enc Try.prog W 0 (fun _ => true) true n 23 [c1] = some y1 := by simpa [xcells23] using hf 1 _ rfl
      have t2 : DataW.trod enc Try.prog W 0 (fun _ => true) true n 23 [c2] = some y2 := by simpa [xcells23] using hf 2 _ rfl
      have t3 : DataW.trod enc Try.prog W 0 (fun _ => true) true n 23 [c3] = some y3 := by simpa [xcells23] using hf 3 _ rfl
      have hw0 : ∀ q ∈ y0.1.weights Try.prog 22, q ≤ reachBytes := fun q hq => hw q (by
        rw [hd]
        simp only [DataW.weights, Try.underlying25, DataW.weightsEach, List.map_cons, List.map_nil, List.mem_append]
        exact Or.inl hq)
      obtain ⟨a, m, c, L, rfl, hm, hL, hmx, hfit⟩ := open_levs t0 hw0
      obtain ⟨s1, rfl, h1⟩ := u64_cell Try.underlying23 t1
      obtain ⟨s2, rfl, h2⟩ := u64_cell Try.underlying23 t2
      obtain ⟨s3, rfl, h3⟩ := u64_cell Try.underlying23 t3
      exact ⟨a, m, c, s1, s2, s3, L, rfl, hm, hL, hmx, hfit, h1, h2, h3⟩
end Go.Proofs.Ytkmcdjbadngfgaa

/-
  What is small: the bounds.
-/
namespace Go.Proofs.Ytkmcdjbadngfgaa
open Go.RowKit
set_option maxRecDepth 100000
theorem byts_levN (L : List Lv) : byts L = levN L := by
  unfold byts levN keysN fls
  congr 1
  refine List.map_congr_left fun x _ => ?_
  rw [List.map_map]
  rfl
theorem sum_le_mul {α : Type} (f : α → Nat) (M : Nat) : ∀ l : List α, (∀ x ∈ l, f x ≤ M) → (l.map f).sum ≤ l.length * M
  | [], _ => by simp
  | x :: r, h => by
    have h1 := sum_le_mul f M r fun y hy => h y (List.mem_cons_of_mem _ hy)
    have h2 := h x (by simp)
    simp only [List.map_cons, List.sum_cons, List.length_cons, Nat.add_mul]
    omega
theorem small_fin {L : List Lv} (hf : ∀ x ∈ L, x.l.length ≤ reachBytes ∧ ∀ f ∈ x.l, FitF f) (h1 : L.length ≤ 10) (h2 : w64 (cnt L : Nat) ≤ 100) (h3 : w64 (levN L : Nat) ≤ 10000) : cnt L ≤ 100 ∧ byts L ≤ 10000 := by
  have g1 : cnt L ≤ L.length * reachBytes := sum_le_mul _ _ L fun x hx => (hf x hx).1
  have g2 : cnt L ≤ 10 * reachBytes := Nat.le_trans g1 (Nat.mul_le_mul_right _ h1)
  unfold reachBytes at g2
  rw [w64_small _ (by omega) (by omega)] at h2
  have g3 : levN L ≤ cnt L * (2 * reachBytes) := by
    unfold levN cnt
    clear h1 h2 h3 g1 g2
    induction L with
    | nil => simp
    | cons x r ih =>
      have h4 := ih fun y hy => hf y (List.mem_cons_of_mem _ hy)
      have h5 : keysN (fls x.l) ≤ x.l.length * (2 * reachBytes) := by
        unfold keysN fls
        rw [List.map_map]
        exact sum_le_mul _ _ x.l fun y hy => by have := ((hf x (by simp)).2 y hy).2.2; simp only [Function.comp]; omega
      simp only [List.map_cons, List.sum_cons, Nat.add_mul]
      omega
  have g4 : levN L ≤ 100 * (2 * reachBytes) := Nat.le_trans g3 (Nat.mul_le_mul_right _ (by omega))
  unfold reachBytes at g4
  rw [w64_small _ (by omega) (by omega)] at h3
  rw [byts_levN]
  omega
theorem verIn_small {w : World} {a : Option Addr} {n next seq log : Nat} {L : List Lv} (hL : Levs w a L) (hn : n = L.length) (hf : ∀ x ∈ L, x.l.length ≤ reachBytes ∧ ∀ f ∈ x.l, FitF f) (hc : cnt L ≤ 100) (hb : byts L ≤ 10000) (b1 : next < 18446744073709551616) (b2 : seq < 18446744073709551616) (b3 : log < 18446744073709551616) : VerIn w a n L next seq log :=
  ⟨hL, hn, by omega, by omega, fun x hx y hy => ((hf x hx).2 y hy).1, b1, b2, b3⟩
end Go.Proofs.Ytkmcdjbadngfgaa

/-
  A setup that came in.
-/
namespace Go.Proofs.Ytkmcdjbadngfgaa
open Go.ChangeShapes Go.WideShapes Go.ChangeAt Go.RowKit
set_option maxRecDepth 100000
theorem xcellsS : Try.prog.cellsOf 35 = 3 := by kernel_rfl
/-- A setup that came in, opened. -/
theorem open_setup {H : Type} {enc : TypeId × Value → H} {W : World} {r : Reach} {b0 : Nat} {v : Value} {d : DataW H} {p : List MemPlace} (hval : Value.okWide Try.prog W r b0 35 v) (h : DataW.Trod enc Try.prog W 0 (fun _ => true) true 35 v d p) : ∃ t b f : Int, v = setAgg t b f := by
  obtain ⟨fuel, h⟩ := h
  obtain ⟨cs, rfl, h2⟩ := okWide_struct Try.underlying35 hval
  rw [xcellsS] at h2
  obtain ⟨l⟩ := cs
  match l, h2 with
  | [c0, c1, c2], _ =>
    have h' : DataW.trod enc Try.prog W 0 (fun _ => true) true fuel 35 [c0, c1, c2] = some (d, p) := h
    obtain ⟨xs, n, _, hx, _, hlen, hf⟩ := DataW.trod_struct Try.underlying35 h'
    match xs, hlen with
    | [y0, y1, y2], _ =>
      have t0 : DataW.trod enc Try.prog W 0 (fun _ => true) true n 3 [c0] = some y0 := by simpa [xcells3] using hf 0 _ rfl
      have t1 : DataW.trod enc Try.prog W 0 (fun _ => true) true n 3 [c1] = some y1 := by simpa [xcells3] using hf 1 _ rfl
      have t2 : DataW.trod enc Try.prog W 0 (fun _ => true) true n 3 [c2] = some y2 := by simpa [xcells3] using hf 2 _ rfl
      obtain ⟨t, rfl⟩ := i64_cell Try.underlying3 t0
      obtain ⟨b, rfl⟩ := i64_cell Try.underlying3 t1
      obtain ⟨f, rfl⟩ := i64_cell Try.underlying3 t2
      exact ⟨t, b, f, rfl⟩
end Go.Proofs.Ytkmcdjbadngfgaa
