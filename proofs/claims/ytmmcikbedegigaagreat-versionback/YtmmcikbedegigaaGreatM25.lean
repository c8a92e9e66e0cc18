import Derived.Test.YtmmcikbedegigaaGreatM24
import Derived.Test.YtmmcikbedegigaaGreatM13
import Derived.SizedLaws
import Derived.Deep.Slices
import Derived.Test.YtmmcikbedegigaaGreatM16
/-
  Versions and edits that came in, opened.
-/
namespace Go.Proofs.YtmmcikbedegigaaGreat
open Go.ChangeShapes Go.WideShapes Go.ChangeAt Go.RowKit
set_option maxRecDepth 100000
theorem xcells37 : Tryz.prog.cellsOf 49 = 6 := by kernel_rfl
theorem xcells62 : Tryz.prog.cellsOf 56 = 7 := by kernel_rfl
theorem xcells64 : Tryz.prog.cellsOf 52 = 2 := by kernel_rfl
theorem xcells25 : Tryz.prog.cellsOf 27 = 4 := by kernel_rfl
theorem xcells33 : Tryz.prog.cellsOf 33 = 5 := by kernel_rfl
theorem xcells3 : Tryz.prog.cellsOf 3 = 1 := by kernel_rfl
theorem xcells23 : Tryz.prog.cellsOf 25 = 1 := by kernel_rfl
theorem xcells35 : Tryz.prog.cellsOf 38 = 1 := by kernel_rfl
theorem xcells50 : Tryz.prog.cellsOf 53 = 1 := by kernel_rfl
theorem xcells22 : Tryz.prog.cellsOf 24 = 1 := by kernel_rfl
theorem xcells30 : Tryz.prog.cellsOf 30 = 1 := by kernel_rfl
theorem xcells31 : Tryz.prog.cellsOf 31 = 1 := by kernel_rfl
theorem xcells5 : Tryz.prog.cellsOf 5 = 1 := by kernel_rfl
theorem xbytes5 : Tryz.prog.bytesOf 5 = 1 := by kernel_rfl
theorem xbytes37 : Tryz.prog.bytesOf 49 = 80 := by kernel_rfl
theorem xbytes50 : Tryz.prog.bytesOf 53 = 24 := by kernel_rfl
theorem xbytes62 : Tryz.prog.bytesOf 56 = 88 := by kernel_rfl
theorem xbytes64 : Tryz.prog.bytesOf 52 = 16 := by kernel_rfl
theorem u64_cell {H : Type} {enc : TypeId × Value → H} {W : World} {n t : Nat} {v : Value} {x : DataW H × List MemPlace} (ht : Tryz.prog.underlying t = some (.int .u64)) (h : DataW.trod enc Tryz.prog W 0 (fun _ => true) true n t [v] = some x) :
    ∃ s : Nat, v = .int .u64 (s : Int) ∧ s < 18446744073709551616 := by
  obtain ⟨z, hz, _, hwf⟩ := DataW.trod_int ht h
  have hb := bounds_u64 hwf
  refine ⟨z.toNat, ?_, by omega⟩
  rw [show ((z.toNat : Nat) : Int) = z by omega]
  simpa using hz
theorem i64_cell {H : Type} {enc : TypeId × Value → H} {W : World} {n t : Nat} {v : Value} {x : DataW H × List MemPlace} (ht : Tryz.prog.underlying t = some (.int .i64)) (h : DataW.trod enc Tryz.prog W 0 (fun _ => true) true n t [v] = some x) :
    ∃ z : Int, v = .int .i64 z := by
  obtain ⟨z, hz, _⟩ := DataW.trod_int ht h
  exact ⟨z, by simpa using hz⟩
theorem bytes_none1 (w : World) : Bytes w (.slice none 0 0) [] := ⟨none, 0, rfl, fun k hk => by simp at hk⟩
theorem open_bytes_cell {H : Type} {enc : TypeId × Value → H} {W : World} {n : Nat} {v : Value} {x : DataW H × List MemPlace} (h : DataW.trod enc Tryz.prog W 0 (fun _ => true) true n 38 [v] = some x) (hw : ∀ n ∈ x.1.weights Tryz.prog 38, n ≤ reachBytes) :
    ∃ (a : Option Addr) (m c : Nat) (bs : List (BitVec 8)), v = .slice a m c ∧ Bytes W v bs ∧ m ≤ reachBytes := by
  rcases open_ints Tryz.underlying38 Tryz.underlying5 xcells5 h with ⟨hv, _⟩ | ⟨a, len, cap, zs, hv, _, hlc, hcap, hlen, hx, hcell, hwf⟩
  · obtain rfl : v = .slice none 0 0 := by simpa using hv
    exact ⟨none, 0, 0, [], rfl, bytes_none1 W, by decide⟩
  · obtain rfl : v = .slice (some a) len cap := by simpa using hv
    have hz : zs.length = cap := by simpa using hlen
    subst hx
    have hw1 : ((lits .u8 (zs.take len) : List (DataW H)).length + (lits .u8 (zs.drop len) : List (DataW H)).length) * Tryz.prog.bytesOf 5 ≤ reachBytes := hw _ (by simp [DataW.weights, Tryz.underlying38])
    have hw2 : len ≤ reachBytes := by
      simp only [lits, List.length_map, List.length_take, List.length_drop, xbytes5] at hw1
      omega
    refine ⟨some a, len, cap, (zs.take len).map fun z => BitVec.ofNat 8 z.toNat, rfl, ⟨some a, cap, by simp; omega, fun k hk => ?_⟩, hw2⟩
    have hkl : k < len := by simp at hk; omega
    obtain ⟨b, off, rfl, hc⟩ := ints_at hcell (by omega)
    refine ⟨b, off, rfl, ?_⟩
    rw [hc k (by omega)]
    have hk' : k < zs.length := by omega
    have hb := bounds_u8 (hwf zs[k] (List.getElem_mem hk'))
    congr 2
    simp [List.getD, hkl, hk']
    omega
theorem weights_in {H : Type} {e : TypeId} : ∀ {l : List (DataW H)} {d : DataW H}, d ∈ l → ∀ n ∈ d.weights Tryz.prog e, n ∈ DataW.weightsAll Tryz.prog e l
  | d' :: r, d, hd, n, hn => by
    simp only [DataW.weightsAll, List.mem_append]
    rcases List.mem_cons.1 hd with rfl | h
    · exact Or.inl hn
    · exact Or.inr (weights_in h n hn)
/-- The numbers of a file have room, and its keys are no longer than memory. -/
def FitF (y : Tf) : Prop := y.f.no < 18446744073709551616 ∧ y.f.seq < 18446744073709551616 ∧ y.f.least.length ≤ reachBytes ∧ y.f.most.length ≤ reachBytes
/-- A file's six values, opened. -/
theorem open_file {H : Type} {enc : TypeId × Value → H} {W : World} {fuel : Nat} {v0 v1 v2 v3 v4 v5 : Value} {x : DataW H × List MemPlace} (h : DataW.trod enc Tryz.prog W 0 (fun _ => true) true fuel 49 [v0, v1, v2, v3, v4, v5] = some x) (hw : ∀ q ∈ x.1.weights Tryz.prog 49, q ≤ reachBytes) :
    ∃ y : Tf, y.cells = [v0, v1, v2, v3, v4, v5] ∧ FB W y ∧ FitF y := by
  obtain ⟨xs, k, _, hxy, _, hxl, hf⟩ := DataW.trod_struct Tryz.underlying49 h
  match xs, hxl with
  | [y0, y1, y2, y3, y4, y5], _ =>
    have t0 : DataW.trod enc Tryz.prog W 0 (fun _ => true) true k 25 [v0] = some y0 := by simpa [xcells23] using hf 0 _ rfl
    have t1 : DataW.trod enc Tryz.prog W 0 (fun _ => true) true k 3 [v1] = some y1 := by simpa [xcells3] using hf 1 _ rfl
    have t2 : DataW.trod enc Tryz.prog W 0 (fun _ => true) true k 38 [v2] = some y2 := by simpa [xcells35] using hf 2 _ rfl
    have t3 : DataW.trod enc Tryz.prog W 0 (fun _ => true) true k 38 [v3] = some y3 := by simpa [xcells35] using hf 3 _ rfl
    have t4 : DataW.trod enc Tryz.prog W 0 (fun _ => true) true k 3 [v4] = some y4 := by simpa [xcells3] using hf 4 _ rfl
    have t5 : DataW.trod enc Tryz.prog W 0 (fun _ => true) true k 25 [v5] = some y5 := by simpa [xcells23] using hf 5 _ rfl
    have hD : x.1 = .agg [y0.1, y1.1, y2.1, y3.1, y4.1, y5.1] := by
      have := congrArg Prod.fst hxy
      simpa using this
    rw [hD] at hw
    have hw2 : ∀ q ∈ y2.1.weights Tryz.prog 38, q ≤ reachBytes := fun q hq => hw q (by
      simp only [DataW.weights, Tryz.underlying49, DataW.weightsEach, List.map_cons, List.map_nil, List.mem_append]
      exact Or.inr (Or.inr (Or.inl hq)))
    have hw3 : ∀ q ∈ y3.1.weights Tryz.prog 38, q ≤ reachBytes := fun q hq => hw q (by
      simp only [DataW.weights, Tryz.underlying49, DataW.weightsEach, List.map_cons, List.map_nil, List.mem_append]
      exact Or.inr (Or.inr (Or.inr (Or.inl hq))))
    obtain ⟨no, rfl, hno⟩ := u64_cell Tryz.underlying25 t0
    obtain ⟨sz, rfl⟩ := i64_cell Tryz.underlying3 t1
    obtain ⟨la, ln, lc, ls, rfl, hl, hln⟩ := open_bytes_cell t2 hw2
    obtain ⟨ma, mn, mc, ms, rfl, hm, hmn⟩ := open_bytes_cell t3 hw3
    obtain ⟨en, rfl⟩ := i64_cell Tryz.underlying3 t4
    obtain ⟨sq, rfl, hsq⟩ := u64_cell Tryz.underlying25 t5
    have l1 := hl.len
    have l2 := hm.len
    subst l1 l2
    exact ⟨⟨la, lc, ma, mc, ⟨no, sz, ls, ms, en, sq⟩⟩, rfl, ⟨hl, hm⟩, hno, hsq, hln, hmn⟩
theorem open_files {H : Type} {enc : TypeId × Value → H} {W : World} {fuel : Nat} {v : Value} {x : DataW H × List MemPlace} (h : DataW.trod enc Tryz.prog W 0 (fun _ => true) true fuel 53 [v] = some x) (hw : ∀ q ∈ x.1.weights Tryz.prog 53, q ≤ reachBytes) :
    ∃ (a : Option Addr) (m c : Nat) (l : List Tf), v = .slice a m c ∧ m = l.length ∧ Fils W a l ∧ m ≤ reachBytes ∧ ∀ f ∈ l, FitF f := by
  rcases Go.Deep.open_slice Tryz.underlying53 h with ⟨hv, _⟩ | ⟨a, len, cap, m, n, D, Pl, hv, _, hlc, hcap, hm, hx, hcells⟩
  · obtain rfl : v = .slice none 0 0 := by simpa using hv
    exact ⟨none, 0, 0, [], rfl, rfl, fun k f hf => by simp at hf, by decide, fun f hf => by simp at hf⟩
  · obtain rfl : v = .slice (some a) len cap := by simpa using hv
    have hm' : m = cap := by simpa using hm
    subst hm'
    subst hx
    have hcw : len ≤ reachBytes := by
      have hw1 := hw _ (by simp only [DataW.weights, Tryz.underlying53]; exact List.mem_cons_self ..)
      simp only [List.length_map, List.length_range, xbytes37] at hw1
      omega
    have each : ∀ i, i < len → ∃ f : Tf, (∀ j u, f.cells[j]? = some u → W.cell? (a.add (i * 6 + j)) = some u) ∧ FB W f ∧ FitF f := by
      intro i hi
      obtain ⟨cs', h1, h2⟩ := hcells i (by omega)
      rw [xcells37] at h1
      obtain ⟨_, hlen, hcell⟩ := World.cells?_some h1
      match cs', hlen with
      | [v0, v1, v2, v3, v4, v5], _ =>
        have hin : ∀ q ∈ (D i).weights Tryz.prog 49, q ≤ reachBytes := fun q hq => hw q (by
          simp only [DataW.weights, Tryz.underlying53, List.mem_cons, List.mem_append]
          exact Or.inr (Or.inl (weights_in (d := D i) (List.mem_map.2 ⟨i, List.mem_range.2 hi, rfl⟩) q hq)))
        obtain ⟨y, hy, hfb, hfit⟩ := open_file h2 hin
        refine ⟨y, fun j u hu => ?_, hfb, hfit⟩
        have hj : j < 6 := (List.getElem?_eq_some_iff.1 hu).1
        have e0 := hcell j (by omega)
        rw [Go.Deep.add_add] at e0
        rw [e0, ← hy]
        exact hu
    obtain ⟨q, hq⟩ := Classical.skolem.1 (fun i : Nat => show ∃ f : Tf, i < len → (∀ j u, f.cells[j]? = some u → W.cell? (a.add (i * 6 + j)) = some u) ∧ FB W f ∧ FitF f from by
      by_cases hi : i < len
      · obtain ⟨f, hf⟩ := each i hi
        exact ⟨f, fun _ => hf⟩
      · exact ⟨⟨none, 0, none, 0, ⟨0, 0, [], [], 0, 0⟩⟩, fun h => absurd h hi⟩)
    refine ⟨some a, len, m, (List.range len).map q, rfl, by simp, fun k f hf => ?_, hcw, fun f hf => ?_⟩
    · have hk : k < len := by
        rcases Nat.lt_or_ge k len with h | h
        · exact h
        · rw [List.getElem?_eq_none (by simpa using h)] at hf; cases hf
      obtain rfl : q k = f := by simpa [hk] using hf
      have hq0 := (hq 0 (by omega)).1 0 _ rfl
      obtain ⟨b, off, spot⟩ := a
      have hspot : spot = none := by simpa [Addr.add] using World.cell?_spot hq0
      subst hspot
      refine ⟨⟨b, off, rfl, fun j u hu => ?_⟩, (hq k hk).2.1⟩
      have := (hq k hk).1 j u hu
      rw [Go.WideShapes.add_plain] at this
      rw [Nat.add_assoc]
      exact this
    · obtain ⟨i, hi, rfl⟩ := List.mem_map.1 hf
      exact (hq i (by simpa using hi)).2.2
theorem open_levs {H : Type} {enc : TypeId × Value → H} {W : World} {fuel : Nat} {v : Value} {x : DataW H × List MemPlace} (h : DataW.trod enc Tryz.prog W 0 (fun _ => true) true fuel 24 [v] = some x) (hw : ∀ q ∈ x.1.weights Tryz.prog 24, q ≤ reachBytes) :
    ∃ (a : Option Addr) (m c : Nat) (L : List Lv), v = .slice a m c ∧ m = L.length ∧ Levs W a L ∧ m ≤ reachBytes ∧ ∀ x ∈ L, x.l.length ≤ reachBytes ∧ ∀ f ∈ x.l, FitF f := by
  rcases Go.Deep.open_slice Tryz.underlying24 h with ⟨hv, _⟩ | ⟨a, len, cap, m, n, D, Pl, hv, _, hlc, hcap, hm, hx, hcells⟩
  · obtain rfl : v = .slice none 0 0 := by simpa using hv
    exact ⟨none, 0, 0, [], rfl, rfl, fun k f hf => by simp at hf, by decide, fun f hf => by simp at hf⟩
  · obtain rfl : v = .slice (some a) len cap := by simpa using hv
    have hm' : m = cap := by simpa using hm
    subst hm'
    subst hx
    have hcw : len ≤ reachBytes := by
      have hw1 := hw _ (by simp only [DataW.weights, Tryz.underlying24]; exact List.mem_cons_self ..)
      simp only [List.length_map, List.length_range, xbytes50] at hw1
      omega
    have each : ∀ i, ∃ f : Lv, i < len → W.cell? (a.add i) = some (.slice f.a f.l.length f.c) ∧ Fils W f.a f.l ∧ f.l.length ≤ reachBytes ∧ ∀ y ∈ f.l, FitF y := by
      intro i
      by_cases hi : i < len
      · obtain ⟨cs', h1, h2⟩ := hcells i (by omega)
        rw [xcells50] at h1
        obtain ⟨_, hlen, hcell⟩ := World.cells?_some h1
        match cs', hlen with
        | [v0], _ =>
          have hin : ∀ q ∈ (D i).weights Tryz.prog 53, q ≤ reachBytes := fun q hq => hw q (by
            simp only [DataW.weights, Tryz.underlying24, List.mem_cons, List.mem_append]
            exact Or.inr (Or.inl (weights_in (d := D i) (List.mem_map.2 ⟨i, List.mem_range.2 hi, rfl⟩) q hq)))
          obtain ⟨fa, fm, fc, l, rfl, rfl, he, hre, hfit⟩ := open_files h2 hin
          refine ⟨⟨fa, fc, l⟩, fun _ => ⟨?_, he, hre, hfit⟩⟩
          have e0 := hcell 0 (by omega)
          rw [Go.Deep.add_add] at e0
          simpa using e0
      · exact ⟨⟨none, 0, []⟩, fun h => absurd h hi⟩
    obtain ⟨q, hq⟩ := Classical.skolem.1 each
    refine ⟨some a, len, m, (List.range len).map q, rfl, by simp, fun k f hf => ?_, hcw, fun f hf => ?_⟩
    · have hk : k < len := by
        rcases Nat.lt_or_ge k len with h | h
        · exact h
        · rw [List.getElem?_eq_none (by simpa using h)] at hf; cases hf
      obtain rfl : q k = f := by simpa [hk] using hf
      have hq0 := (hq 0 (by omega)).1
      obtain ⟨b, off, spot⟩ := a
      have hspot : spot = none := by simpa [Addr.add] using World.cell?_spot hq0
      subst hspot
      refine ⟨⟨b, off, rfl, ?_⟩, (hq k hk).2.1⟩
      have := (hq k hk).1
      rw [Go.WideShapes.add_plain] at this
      exact this
    · obtain ⟨i, hi, rfl⟩ := List.mem_map.1 hf
      exact (hq i (by simpa using hi)).2.2
theorem open_version {H : Type} {enc : TypeId × Value → H} {W : World} {r : Reach} {b0 : Nat} {v : Value} {d : DataW H} {p : List MemPlace} (hval : Value.okWide Tryz.prog W r b0 27 v) (h : DataW.Trod enc Tryz.prog W 0 (fun _ => true) true 27 v d p) (hw : ∀ n ∈ d.weights Tryz.prog 27, n ≤ reachBytes) :
    ∃ (a : Option Addr) (n c next seq log : Nat) (L : List Lv), v = verAgg a n c next seq log ∧ n = L.length ∧ Levs W a L ∧ n ≤ reachBytes ∧ (∀ x ∈ L, x.l.length ≤ reachBytes ∧ ∀ f ∈ x.l, FitF f) ∧ next < 18446744073709551616 ∧ seq < 18446744073709551616 ∧ log < 18446744073709551616 := by
  obtain ⟨fuel, h⟩ := h
  obtain ⟨cs, rfl, h2⟩ := okWide_struct Tryz.underlying27 hval
  rw [xcells25] at h2
  obtain ⟨l⟩ := cs
  match l, h2 with
  | [c0, c1, c2, c3], _ =>
    have h' : DataW.trod enc Tryz.prog W 0 (fun _ => true) true fuel 27 [c0, c1, c2, c3] = some (d, p) := h
    obtain ⟨xs, n, _, hx, _, hlen, hf⟩ := DataW.trod_struct Tryz.underlying27 h'
    match xs, hlen with
    | [y0, y1, y2, y3], _ =>
      obtain ⟨hd, _⟩ := Prod.mk.inj hx
      have t0 : DataW.trod enc Tryz.prog W 0 (fun _ => true) true n 24 [c0] = some y0 := by simpa [xcells22] using hf 0 _ rfl
      have t1 : DataW.trod enc Tryz.prog W 0 (fun _ => true) true n 25 [c1] = some y1 := by simpa [xcells23] using hf 1 _ rfl
      have t2 : DataW.trod enc Tryz.prog W 0 (fun _ => true) true n 25 [c2] = some y2 := by simpa [xcells23] using hf 2 _ rfl
      have t3 : DataW.trod enc Tryz.prog W 0 (fun _ => true) true n 25 [c3] = some y3 := by simpa [xcells23] using hf 3 _ rfl
      have hw0 : ∀ q ∈ y0.1.weights Tryz.prog 24, q ≤ reachBytes := fun q hq => hw q (by
        rw [hd]
        simp only [DataW.weights, Tryz.underlying27, DataW.weightsEach, List.map_cons, List.map_nil, List.mem_append]
        exact Or.inl hq)
      obtain ⟨a, m, c, L, rfl, hm, hL, hmx, hfit⟩ := open_levs t0 hw0
      obtain ⟨s1, rfl, h1⟩ := u64_cell Tryz.underlying25 t1
      obtain ⟨s2, rfl, h2⟩ := u64_cell Tryz.underlying25 t2
      obtain ⟨s3, rfl, h3⟩ := u64_cell Tryz.underlying25 t3
      exact ⟨a, m, c, s1, s2, s3, L, rfl, hm, hL, hmx, hfit, h1, h2, h3⟩
theorem open_drops {H : Type} {enc : TypeId × Value → H} {W : World} {fuel : Nat} {v : Value} {x : DataW H × List MemPlace} (h : DataW.trod enc Tryz.prog W 0 (fun _ => true) true fuel 30 [v] = some x) (hw : ∀ q ∈ x.1.weights Tryz.prog 30, q ≤ reachBytes) :
    ∃ (a : Option Addr) (m c : Nat) (D : List (Int × Nat)), v = .slice a m c ∧ m = D.length ∧ Drops W a D ∧ m ≤ reachBytes := by
  rcases Go.Deep.open_slice Tryz.underlying30 h with ⟨hv, _⟩ | ⟨a, len, cap, m, n, D, Pl, hv, _, hlc, hcap, hm, hx, hcells⟩
  · obtain rfl : v = .slice none 0 0 := by simpa using hv
    exact ⟨none, 0, 0, [], rfl, rfl, fun k f hf => by simp at hf, by decide⟩
  · obtain rfl : v = .slice (some a) len cap := by simpa using hv
    have hm' : m = cap := by simpa using hm
    subst hm'
    subst hx
    have hcw : len ≤ reachBytes := by
      have hw1 := hw _ (by simp only [DataW.weights, Tryz.underlying30]; exact List.mem_cons_self ..)
      simp only [List.length_map, List.length_range, xbytes64] at hw1
      omega
    have each : ∀ i, ∃ f : Int × Nat, i < len → f.2 < 18446744073709551616 ∧ W.cell? (a.add (i * 2)) = some (.int .i64 f.1) ∧ W.cell? (a.add (i * 2 + 1)) = some (.int .u64 (f.2 : Nat)) := by
      intro i
      by_cases hi : i < len
      · obtain ⟨cs', h1, h2⟩ := hcells i (by omega)
        rw [xcells64] at h1
        obtain ⟨_, hlen, hcell⟩ := World.cells?_some h1
        obtain ⟨xs, k, _, hxy, _, hxl, hf⟩ := DataW.trod_struct Tryz.underlying52 h2
        match xs, hxl, cs', hlen with
        | [y0, y1], _, [v0, v1], _ =>
          have t0 : DataW.trod enc Tryz.prog W 0 (fun _ => true) true k 3 [v0] = some y0 := by simpa [xcells3] using hf 0 _ rfl
          have t1 : DataW.trod enc Tryz.prog W 0 (fun _ => true) true k 25 [v1] = some y1 := by simpa [xcells23] using hf 1 _ rfl
          obtain ⟨z, rfl⟩ := i64_cell Tryz.underlying3 t0
          obtain ⟨s, rfl, hs⟩ := u64_cell Tryz.underlying25 t1
          have e0 := hcell 0 (by omega)
          have e1 := hcell 1 (by omega)
          rw [Go.Deep.add_add] at e0 e1
          exact ⟨(z, s), fun _ => ⟨hs, by simpa using e0, by simpa using e1⟩⟩
      · exact ⟨(0, 0), fun h => absurd h hi⟩
    obtain ⟨q, hq⟩ := Classical.skolem.1 each
    refine ⟨some a, len, m, (List.range len).map q, rfl, by simp, fun k f hf => ?_, hcw⟩
    have hk : k < len := by
      rcases Nat.lt_or_ge k len with h | h
      · exact h
      · rw [List.getElem?_eq_none (by simpa using h)] at hf; cases hf
    obtain rfl : q k = f := by simpa [hk] using hf
    have hq0 := (hq 0 (by omega)).2.1
    obtain ⟨b, off, spot⟩ := a
    have hspot : spot = none := by simpa [Addr.add] using World.cell?_spot hq0
    subst hspot
    obtain ⟨h1, h2, h3⟩ := hq k hk
    rw [Go.WideShapes.add_plain] at h2 h3
    exact ⟨h1, b, off, rfl, h2, by rw [Nat.add_assoc]; exact h3⟩
theorem open_adds {H : Type} {enc : TypeId × Value → H} {W : World} {fuel : Nat} {v : Value} {x : DataW H × List MemPlace} (h : DataW.trod enc Tryz.prog W 0 (fun _ => true) true fuel 31 [v] = some x) (hw : ∀ q ∈ x.1.weights Tryz.prog 31, q ≤ reachBytes) :
    ∃ (a : Option Addr) (m c : Nat) (A : List (Int × Tf)), v = .slice a m c ∧ m = A.length ∧ Adds W a A ∧ m ≤ reachBytes ∧ ∀ d ∈ A, FitF d.2 := by
  rcases Go.Deep.open_slice Tryz.underlying31 h with ⟨hv, _⟩ | ⟨a, len, cap, m, n, D, Pl, hv, _, hlc, hcap, hm, hx, hcells⟩
  · obtain rfl : v = .slice none 0 0 := by simpa using hv
    exact ⟨none, 0, 0, [], rfl, rfl, fun k f hf => by simp at hf, by decide, fun f hf => by simp at hf⟩
  · obtain rfl : v = .slice (some a) len cap := by simpa using hv
    have hm' : m = cap := by simpa using hm
    subst hm'
    subst hx
    have hcw : len ≤ reachBytes := by
      have hw1 := hw _ (by simp only [DataW.weights, Tryz.underlying31]; exact List.mem_cons_self ..)
      simp only [List.length_map, List.length_range, xbytes62] at hw1
      omega
    have each : ∀ i, ∃ f : Int × Tf, i < len → (W.cell? (a.add (i * 7)) = some (.int .i64 f.1) ∧ ∀ j u, f.2.cells[j]? = some u → W.cell? (a.add (i * 7 + 1 + j)) = some u) ∧ FB W f.2 ∧ FitF f.2 := by
      intro i
      by_cases hi : i < len
      · obtain ⟨cs', h1, h2⟩ := hcells i (by omega)
        rw [xcells62] at h1
        obtain ⟨_, hlen, hcell⟩ := World.cells?_some h1
        obtain ⟨xs, k, _, hxy, _, hxl, hf⟩ := DataW.trod_struct Tryz.underlying56 h2
        match xs, hxl, cs', hlen with
        | [y0, y1], _, [v0, v1, v2, v3, v4, v5, v6], _ =>
          have t0 : DataW.trod enc Tryz.prog W 0 (fun _ => true) true k 3 [v0] = some y0 := by simpa [xcells3] using hf 0 _ rfl
          have t1 : DataW.trod enc Tryz.prog W 0 (fun _ => true) true k 49 [v1, v2, v3, v4, v5, v6] = some y1 := by simpa [xcells37] using hf 1 _ rfl
          have hD : D i = .agg [y0.1, y1.1] := by
            have := congrArg Prod.fst hxy
            simpa using this
          have hin : ∀ q ∈ y1.1.weights Tryz.prog 49, q ≤ reachBytes := fun q hq => hw q (by
            simp only [DataW.weights, Tryz.underlying31, List.mem_cons, List.mem_append]
            refine Or.inr (Or.inl (weights_in (d := D i) (List.mem_map.2 ⟨i, List.mem_range.2 hi, rfl⟩) q ?_))
            rw [hD]
            simp only [DataW.weights, Tryz.underlying56, DataW.weightsEach, List.map_cons, List.map_nil, List.mem_append]
            exact Or.inr (Or.inl hq))
          obtain ⟨z, rfl⟩ := i64_cell Tryz.underlying3 t0
          obtain ⟨y, hy, hfb, hfit⟩ := open_file t1 hin
          refine ⟨(z, y), fun _ => ⟨⟨?_, fun j u hu => ?_⟩, hfb, hfit⟩⟩
          · have e0 := hcell 0 (by omega)
            rw [Go.Deep.add_add] at e0
            simpa using e0
          · have hj : j < 6 := (List.getElem?_eq_some_iff.1 hu).1
            have e0 := hcell (j + 1) (by omega)
            rw [Go.Deep.add_add] at e0
            rw [show i * 7 + 1 + j = i * 7 + (j + 1) by omega, e0]
            simp only at hu
            rw [hy] at hu
            simpa using hu
      · exact ⟨(0, ⟨none, 0, none, 0, ⟨0, 0, [], [], 0, 0⟩⟩), fun h => absurd h hi⟩
    obtain ⟨q, hq⟩ := Classical.skolem.1 each
    refine ⟨some a, len, m, (List.range len).map q, rfl, by simp, fun k f hf => ?_, hcw, fun f hf => ?_⟩
    · have hk : k < len := by
        rcases Nat.lt_or_ge k len with h | h
        · exact h
        · rw [List.getElem?_eq_none (by simpa using h)] at hf; cases hf
      obtain rfl : q k = f := by simpa [hk] using hf
      have hq0 := (hq 0 (by omega)).1.1
      obtain ⟨b, off, spot⟩ := a
      have hspot : spot = none := by simpa [Addr.add] using World.cell?_spot hq0
      subst hspot
      obtain ⟨⟨h1, h2⟩, h3, _⟩ := hq k hk
      rw [Go.WideShapes.add_plain] at h1
      have hc : ∀ j u, (q k).2.cells[j]? = some u → W.cell? ⟨b, off + k * 7 + 1 + j, none⟩ = some u := fun j u hu => by
        have := h2 j u hu
        rw [Go.WideShapes.add_plain] at this
        rw [show off + k * 7 + 1 + j = off + (k * 7 + 1 + j) by omega]
        exact this
      exact ⟨⟨b, off, rfl, h1, ⟨hc 0 _ rfl, hc 1 _ rfl, hc 2 _ rfl, hc 3 _ rfl, hc 4 _ rfl, hc 5 _ rfl⟩⟩, h3⟩
    · obtain ⟨i, hi, rfl⟩ := List.mem_map.1 hf
      exact (hq i (by simpa using hi)).2.2
theorem open_edit {H : Type} {enc : TypeId × Value → H} {W : World} {r : Reach} {b0 : Nat} {v : Value} {d : DataW H} {p : List MemPlace} (hval : Value.okWide Tryz.prog W r b0 33 v) (h : DataW.Trod enc Tryz.prog W 0 (fun _ => true) true 33 v d p) (hw : ∀ n ∈ d.weights Tryz.prog 33, n ≤ reachBytes) :
    ∃ (da : Option Addr) (dn dc : Nat) (aa : Option Addr) (an ac en es el : Nat) (D : List (Int × Nat)) (A : List (Int × Tf)), v = edAgg da dn dc aa an ac en es el ∧ dn = D.length ∧ Drops W da D ∧ dn ≤ reachBytes ∧ an = A.length ∧ Adds W aa A ∧ an ≤ reachBytes ∧ (∀ d ∈ A, FitF d.2) ∧ en < 18446744073709551616 ∧ es < 18446744073709551616 ∧ el < 18446744073709551616 := by
  obtain ⟨fuel, h⟩ := h
  obtain ⟨cs, rfl, h2⟩ := okWide_struct Tryz.underlying33 hval
  rw [xcells33] at h2
  obtain ⟨l⟩ := cs
  match l, h2 with
  | [c0, c1, c2, c3, c4], _ =>
    have h' : DataW.trod enc Tryz.prog W 0 (fun _ => true) true fuel 33 [c0, c1, c2, c3, c4] = some (d, p) := h
    obtain ⟨xs, n, _, hx, _, hlen, hf⟩ := DataW.trod_struct Tryz.underlying33 h'
    match xs, hlen with
    | [y0, y1, y2, y3, y4], _ =>
      obtain ⟨hd, _⟩ := Prod.mk.inj hx
      have t0 : DataW.trod enc Tryz.prog W 0 (fun _ => true) true n 30 [c0] = some y0 := by simpa [xcells30] using hf 0 _ rfl
      have t1 : DataW.trod enc Tryz.prog W 0 (fun _ => true) true n 31 [c1] = some y1 := by simpa [xcells31] using hf 1 _ rfl
      have t2 : DataW.trod enc Tryz.prog W 0 (fun _ => true) true n 25 [c2] = some y2 := by simpa [xcells23] using hf 2 _ rfl
      have t3 : DataW.trod enc Tryz.prog W 0 (fun _ => true) true n 25 [c3] = some y3 := by simpa [xcells23] using hf 3 _ rfl
      have t4 : DataW.trod enc Tryz.prog W 0 (fun _ => true) true n 25 [c4] = some y4 := by simpa [xcells23] using hf 4 _ rfl
      have hw0 : ∀ q ∈ y0.1.weights Tryz.prog 30, q ≤ reachBytes := fun q hq => hw q (by
        rw [hd]
        simp only [DataW.weights, Tryz.underlying33, DataW.weightsEach, List.map_cons, List.map_nil, List.mem_append]
        exact Or.inl hq)
      have hw1 : ∀ q ∈ y1.1.weights Tryz.prog 31, q ≤ reachBytes := fun q hq => hw q (by
        rw [hd]
        simp only [DataW.weights, Tryz.underlying33, DataW.weightsEach, List.map_cons, List.map_nil, List.mem_append]
        exact Or.inr (Or.inl hq))
      obtain ⟨da, dn, dc, D, rfl, hdn, hD, hdx⟩ := open_drops t0 hw0
      obtain ⟨aa, an, ac, A, rfl, han, hA, hax, hfit⟩ := open_adds t1 hw1
      obtain ⟨s1, rfl, h1⟩ := u64_cell Tryz.underlying25 t2
      obtain ⟨s2, rfl, h2⟩ := u64_cell Tryz.underlying25 t3
      obtain ⟨s3, rfl, h3⟩ := u64_cell Tryz.underlying25 t4
      exact ⟨da, dn, dc, aa, an, ac, s1, s2, s3, D, A, rfl, hdn, hD, hdx, han, hA, hax, hfit, h1, h2, h3⟩
end Go.Proofs.YtmmcikbedegigaaGreat

/-
  Edits that came in, opened.
-/
namespace Go.Proofs.YtmmcikbedegigaaGreat
open Go.RowKit Go.WideShapes
set_option maxRecDepth 100000
set_option maxHeartbeats 4000000
/-- An edit, and where its parts lie. -/
structure EdL where
  da : Option Addr
  dn : Nat
  dc : Nat
  aa : Option Addr
  an : Nat
  ac : Nat
  en : Nat
  es : Nat
  el : Nat
  D : List (Int × Nat)
  A : List (Int × Tf)
def EdL.cells (x : EdL) : List Value := [.slice x.da x.dn x.dc, .slice x.aa x.an x.ac, .int .u64 (x.en : Nat), .int .u64 (x.es : Nat), .int .u64 (x.el : Nat)]
/-- Its drops and adds lie there. -/
structure EdP (W : World) (x : EdL) : Prop where
  dn : x.dn = x.D.length
  D : Drops W x.da x.D
  dr : x.dn ≤ reachBytes
  an : x.an = x.A.length
  A : Adds W x.aa x.A
  ar : x.an ≤ reachBytes
  fit : ∀ d ∈ x.A, FitF d.2
  b1 : x.en < 18446744073709551616
  b2 : x.es < 18446744073709551616
  b3 : x.el < 18446744073709551616
theorem EdP.quiet {w w' : World} {x : EdL} (h : EdP w x) (t : Turns (fun _ => False) w w') : EdP w' x := { h with D := h.D.quiet t, A := h.A.quiet t }
theorem open_edit5 {H : Type} {enc : TypeId × Value → H} {W : World} {fuel : Nat} {c0 c1 c2 c3 c4 : Value} {x : DataW H × List MemPlace} (h : DataW.trod enc Tryz.prog W 0 (fun _ => true) true fuel 33 [c0, c1, c2, c3, c4] = some x) (hw : ∀ q ∈ x.1.weights Tryz.prog 33, q ≤ reachBytes) :
    ∃ y : EdL, y.cells = [c0, c1, c2, c3, c4] ∧ EdP W y := by
  obtain ⟨xs, n, _, hx, _, hlen, hf⟩ := DataW.trod_struct Tryz.underlying33 h
  match xs, hlen with
  | [y0, y1, y2, y3, y4], _ =>
    have hd : x.1 = .agg [y0.1, y1.1, y2.1, y3.1, y4.1] := by
      have := congrArg Prod.fst hx
      simpa using this
    have t0 : DataW.trod enc Tryz.prog W 0 (fun _ => true) true n 30 [c0] = some y0 := by simpa [xcells30] using hf 0 _ rfl
    have t1 : DataW.trod enc Tryz.prog W 0 (fun _ => true) true n 31 [c1] = some y1 := by simpa [xcells31] using hf 1 _ rfl
    have t2 : DataW.trod enc Tryz.prog W 0 (fun _ => true) true n 25 [c2] = some y2 := by simpa [xcells23] using hf 2 _ rfl
    have t3 : DataW.trod enc Tryz.prog W 0 (fun _ => true) true n 25 [c3] = some y3 := by simpa [xcells23] using hf 3 _ rfl
    have t4 : DataW.trod enc Tryz.prog W 0 (fun _ => true) true n 25 [c4] = some y4 := by simpa [xcells23] using hf 4 _ rfl
    have hw0 : ∀ q ∈ y0.1.weights Tryz.prog 30, q ≤ reachBytes := fun q hq => hw q (by
      rw [hd]
      simp only [DataW.weights, Tryz.underlying33, DataW.weightsEach, List.map_cons, List.map_nil, List.mem_append]
      exact Or.inl hq)
    have hw1 : ∀ q ∈ y1.1.weights Tryz.prog 31, q ≤ reachBytes := fun q hq => hw q (by
      rw [hd]
      simp only [DataW.weights, Tryz.underlying33, DataW.weightsEach, List.map_cons, List.map_nil, List.mem_append]
      exact Or.inr (Or.inl hq))
    obtain ⟨da, dn, dc, D, rfl, hdn, hD, hdx⟩ := open_drops t0 hw0
    obtain ⟨aa, an, ac, A, rfl, han, hA, hax, hfit⟩ := open_adds t1 hw1
    obtain ⟨s1, rfl, h1⟩ := u64_cell Tryz.underlying25 t2
    obtain ⟨s2, rfl, h2⟩ := u64_cell Tryz.underlying25 t3
    obtain ⟨s3, rfl, h3⟩ := u64_cell Tryz.underlying25 t4
    exact ⟨⟨da, dn, dc, aa, an, ac, s1, s2, s3, D, A⟩, rfl, hdn, hD, hdx, han, hA, hax, hfit, h1, h2, h3⟩
/-- Edits, one behind the other. -/
def Eds (W : World) (a : Option Addr) (l : List EdL) : Prop := ∀ (k : Nat) (x : EdL), l[k]? = some x → (∃ b off, a = some ⟨b, off, none⟩ ∧ ∀ (j : Nat) (u : Value), x.cells[j]? = some u → W.cell? ⟨b, off + k * 5 + j, none⟩ = some u) ∧ EdP W x
theorem Eds.quiet {w w' : World} {a : Option Addr} {l : List EdL} (h : Eds w a l) (t : Turns (fun _ => False) w w') : Eds w' a l := fun k x hx => by
  obtain ⟨⟨b, off, h1, h2⟩, h3⟩ := h k x hx
  exact ⟨⟨b, off, h1, fun j u hu => t.cell (h2 j u hu) fun x => x⟩, h3.quiet t⟩
theorem open_edits_cell {H : Type} {enc : TypeId × Value → H} {W : World} {fuel : Nat} {v : Value} {x : DataW H × List MemPlace} (h : DataW.trod enc Tryz.prog W 0 (fun _ => true) true fuel 22 [v] = some x) (hw : ∀ q ∈ x.1.weights Tryz.prog 22, q ≤ reachBytes) :
    ∃ (a : Option Addr) (m c : Nat) (l : List EdL), v = .slice a m c ∧ m = l.length ∧ Eds W a l := by
  rcases Go.Deep.open_slice Tryz.underlying22 h with ⟨hv, _⟩ | ⟨a, len, cap, m, n, D, Pl, hv, _, hlc, hcap, hm, hx, hcells⟩
  · obtain rfl : v = .slice none 0 0 := by simpa using hv
    exact ⟨none, 0, 0, [], rfl, rfl, fun k f hf => by simp at hf⟩
  · obtain rfl : v = .slice (some a) len cap := by simpa using hv
    have hm' : m = cap := by simpa using hm
    subst hm'
    subst hx
    have each : ∀ i, i < len → ∃ f : EdL, (∀ j u, f.cells[j]? = some u → W.cell? (a.add (i * 5 + j)) = some u) ∧ EdP W f := by
      intro i hi
      obtain ⟨cs', h1, h2⟩ := hcells i (by omega)
      rw [xcells33] at h1
      obtain ⟨_, hlen, hcell⟩ := World.cells?_some h1
      match cs', hlen with
      | [v0, v1, v2, v3, v4], _ =>
        have hin : ∀ q ∈ (D i).weights Tryz.prog 33, q ≤ reachBytes := fun q hq => hw q (by
          simp only [DataW.weights, Tryz.underlying22, List.mem_cons, List.mem_append]
          exact Or.inr (Or.inl (weights_in (d := D i) (List.mem_map.2 ⟨i, List.mem_range.2 hi, rfl⟩) q hq)))
        obtain ⟨y, hy, hfb⟩ := open_edit5 h2 hin
        refine ⟨y, fun j u hu => ?_, hfb⟩
        have hj : j < 5 := (List.getElem?_eq_some_iff.1 hu).1
        have e0 := hcell j (by omega)
        rw [Go.Deep.add_add] at e0
        rw [e0, ← hy]
        exact hu
    obtain ⟨q, hq⟩ := Classical.skolem.1 (fun i : Nat => show ∃ f : EdL, i < len → (∀ j u, f.cells[j]? = some u → W.cell? (a.add (i * 5 + j)) = some u) ∧ EdP W f from by
      by_cases hi : i < len
      · obtain ⟨f, hf⟩ := each i hi
        exact ⟨f, fun _ => hf⟩
      · exact ⟨⟨none, 0, 0, none, 0, 0, 0, 0, 0, [], []⟩, fun h => absurd h hi⟩)
    refine ⟨some a, len, m, (List.range len).map q, rfl, by simp, fun k f hf => ?_⟩
    have hk : k < len := by
      rcases Nat.lt_or_ge k len with h | h
      · exact h
      · rw [List.getElem?_eq_none (by simpa using h)] at hf; cases hf
    obtain rfl : q k = f := by simpa [hk] using hf
    have hq0 := (hq 0 (by omega)).1 0 _ rfl
    obtain ⟨b, off, spot⟩ := a
    have hspot : spot = none := by simpa [Addr.add] using World.cell?_spot hq0
    subst hspot
    refine ⟨⟨b, off, rfl, fun j u hu => ?_⟩, (hq k hk).2⟩
    have := (hq k hk).1 j u hu
    rw [Go.WideShapes.add_plain] at this
    rw [Nat.add_assoc]
    exact this
theorem open_edits {H : Type} {enc : TypeId × Value → H} {W : World} {r : Reach} {b0 : Nat} {v : Value} {d : DataW H} {p : List MemPlace} (hval : Value.okWide Tryz.prog W r b0 22 v) (h : DataW.Trod enc Tryz.prog W 0 (fun _ => true) true 22 v d p) (hw : ∀ n ∈ d.weights Tryz.prog 22, n ≤ reachBytes) :
    ∃ (a : Option Addr) (m c : Nat) (l : List EdL), v = .slice a m c ∧ m = l.length ∧ Eds W a l := by
  obtain ⟨fuel, h⟩ := h
  obtain ⟨a0, len0, cap0, rfl⟩ := okWide_slice Tryz.underlying22 hval
  exact open_edits_cell h hw
end Go.Proofs.YtmmcikbedegigaaGreat
