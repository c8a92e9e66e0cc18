/-
  A list of frames that came in, opened; such a list stays where only new memory is written.
-/
import Derived.Test.YtpighnknldhigaaPost
import Derived.Test.YtpighnknldhigaaSmall
import Derived.Deep.SlicePairs
import Derived.SizedLaws
namespace Go.Proofs.Ytpighnknldhigaa
open Go.ChangeShapes Go.WideShapes Go.ChangeAt Go.RowKit

theorem weights_in {H : Type} {e : TypeId} : ∀ {l : List (DataW H)} {d : DataW H}, d ∈ l → ∀ n ∈ d.weights Try.prog e, n ∈ DataW.weightsAll Try.prog e l
  | d' :: r, d, hd, n, hn => by
    simp only [DataW.weightsAll, List.mem_append]
    rcases List.mem_cons.1 hd with rfl | h
    · exact Or.inl hn
    · exact Or.inr (weights_in h n hn)
theorem bytesOf5 : Try.prog.bytesOf 5 = 1 := by kernel_rfl
theorem bytesOf27 : Try.prog.bytesOf 27 = 32 := by kernel_rfl

/-- A cell that holds a slice of bytes. -/
theorem open_bytes_cell {H : Type} {enc : TypeId × Value → H} {W : World} {n : Nat} {v : Value} {x : DataW H × List MemPlace} (h : DataW.trod enc Try.prog W 0 (fun _ => true) true n 22 [v] = some x) (hw : ∀ n ∈ x.1.weights Try.prog 22, n ≤ reachBytes) :
    ∃ bs : List (BitVec 8), Bytes W v bs ∧ bs.length ≤ reachBytes := by
  rcases open_ints Try.underlying22 Try.underlying5 cells5 h with ⟨hv, _⟩ | ⟨a, len, cap, zs, hv, _, hlc, hcap, hlen, hx, hcell, hwf⟩
  · obtain rfl : v = .slice none 0 0 := by simpa using hv
    exact ⟨[], Bytes.none W, by decide⟩
  · obtain rfl : v = .slice (some a) len cap := by simpa using hv
    have hz : zs.length = cap := by simpa using hlen
    subst hx
    have hw1 : ((lits .u8 (zs.take len) : List (DataW H)).length + (lits .u8 (zs.drop len) : List (DataW H)).length) * Try.prog.bytesOf 5 ≤ reachBytes := hw _ (by simp [DataW.weights, Try.underlying22])
    have hw2 : len ≤ reachBytes := by
      simp only [lits, List.length_map, List.length_take, List.length_drop, bytesOf5] at hw1
      omega
    refine ⟨(zs.take len).map fun z => BitVec.ofNat 8 z.toNat, ⟨some a, cap, by simp; omega, fun k hk => ?_⟩, by simp; omega⟩
    have hkl : k < len := by simp at hk; omega
    obtain ⟨b, off, rfl, hc⟩ := ints_at hcell (by omega)
    refine ⟨b, off, rfl, ?_⟩
    rw [hc k (by omega)]
    have hk' : k < zs.length := by omega
    have hb := bounds_u8 (hwf zs[k] (List.getElem_mem hk'))
    congr 2
    simp [List.getD, hkl, hk']
    omega

/-- A slice of frames that came in. -/
theorem open_frames {H : Type} {enc : TypeId × Value → H} {W : World} {r : Reach} {b0 : Nat} {v : Value} {d : DataW H} {p : List MemPlace} (hval : Value.okWide Try.prog W r b0 29 v) (h : DataW.Trod enc Try.prog W 0 (fun _ => true) true 29 v d p) (hw : ∀ n ∈ d.weights Try.prog 29, n ≤ reachBytes) :
    ∃ (a : Option Addr) (n c : Nat) (fs : List Frm), v = .slice a n c ∧ (a = none → c = 0) ∧ Frs W v fs ∧ n ≤ c ∧ c ≤ reachBytes ∧ ∀ f ∈ fs, f.2.length ≤ reachBytes := by
  obtain ⟨fuel, h⟩ := h
  obtain ⟨a0, len0, cap0, rfl⟩ := okWide_slice Try.underlying29 hval
  rcases Go.Deep.open_slice_pairs Try.underlying29 Try.underlying27 (by kernel_rfl) rfl rfl (by kernel_rfl) (by kernel_rfl) h with ⟨hv, _⟩ | ⟨a, len, cap, m, n, V0, V1, D0, D1, P0, P1, hv, _, hlc, hcap, hm, hxd, hx⟩
  · obtain ⟨rfl, rfl, rfl⟩ : a0 = none ∧ len0 = 0 ∧ cap0 = 0 := by simpa [Value.cells] using hv
    exact ⟨none, 0, 0, [], rfl, fun _ => rfl, ⟨none, 0, rfl, fun k f hf => by simp at hf⟩, Nat.le_refl _, Nat.zero_le _, fun f hf => by simp at hf⟩
  · obtain ⟨rfl, rfl, rfl⟩ : a0 = some a ∧ len0 = len ∧ cap0 = cap := by simpa [Value.cells] using hv
    have hm' : m = cap0 := by simpa using hm
    subst hm'
    obtain ⟨hd, _⟩ := Prod.mk.inj hxd
    have hw0 : ∀ n ∈ d.weights Try.prog 29, n ≤ reachBytes := hw
    rw [hd] at hw0
    have hcw : m ≤ reachBytes := by
      have hw1 := hw0 _ (by simp only [DataW.weights, Try.underlying29]; exact List.mem_cons_self ..)
      simp only [List.length_map, List.length_range, bytesOf27] at hw1
      omega
    have each : ∀ i, i < len0 → ∃ f : Frm, W.cell? (a.add (i * 2)) = some (.int .u8 f.1.toNat) ∧ (∃ (a' : Option Addr) (c' : Nat), W.cell? (a.add (i * 2 + 1)) = some (.slice a' f.2.length c') ∧ Bytes W (.slice a' f.2.length c') f.2) ∧ f.2.length ≤ reachBytes := by
      intro i hi
      obtain ⟨x0, x1, t0, t1⟩ := hx i (by omega)
      obtain ⟨z, hz, _, hwf⟩ := DataW.trod_int Try.underlying5 t0
      obtain ⟨bs, hbs, hbl⟩ := open_bytes_cell t1 (fun q hq => hw0 q (by
        simp only [DataW.weights, Try.underlying29, List.mem_cons, List.mem_append]
        refine Or.inr (Or.inl (weights_in (d := .agg [D0 i, D1 i]) (List.mem_map.2 ⟨i, List.mem_range.2 hi, rfl⟩) q ?_))
        simp only [DataW.weights, Try.underlying27, DataW.weightsEach, List.map_cons, List.map_nil, List.mem_append]
        exact Or.inr (Or.inl hq)))
      have hb := bounds_u8 hwf
      obtain ⟨a', c', e, hbs'⟩ := id hbs
      refine ⟨(BitVec.ofNat 8 z.toNat, bs), ?_, ⟨a', c', ?_, ?_⟩, hbl⟩
      · rw [x0]
        have hz' : V0 i = .int .u8 z := by simpa using hz
        rw [hz']
        congr 2
        simp
        omega
      · rw [x1, e]
      · rw [← e]; exact hbs
    obtain ⟨q, hq⟩ := Go.Deep.choose_lt each
    refine ⟨some a, len0, m, (List.range len0).map q, rfl, fun e => (by cases e), ⟨some a, m, by simp, fun k f hf => ?_⟩, hlc, hcw, fun f hf => ?_⟩
    · have hk : k < len0 := by
        rcases Nat.lt_or_ge k len0 with h | h
        · exact h
        · rw [List.getElem?_eq_none (by simpa using h)] at hf; cases hf
      obtain rfl : q k = f := by simpa [hk] using hf
      obtain ⟨y0, ⟨a', c', y1, y2⟩, _⟩ := hq k hk
      obtain ⟨b, off, spot⟩ := a
      have hspot : spot = none := by simpa [Addr.add] using World.cell?_spot (hq 0 (by omega)).1
      subst hspot
      rw [Go.WideShapes.add_plain] at y0 y1
      exact ⟨b, off, rfl, y0, a', c', y1, y2⟩
    · obtain ⟨i, hi, rfl⟩ := List.mem_map.1 hf
      exact (hq i (by simpa using hi)).2.2

theorem Frs.below {w w' : World} {v : Value} {fs : List Frm} (h : Frs w v fs) (hb : Below w.heap.size w w') : Frs w' v fs := by
  obtain ⟨a, c, rfl, hx⟩ := h
  refine ⟨a, c, rfl, fun k f hf => ?_⟩
  obtain ⟨b, off, rfl, y0, a', c', y1, y2⟩ := hx k f hf
  exact ⟨b, off, rfl, (hb.cell (block_lt_of_cell y0)).trans y0, a', c', (hb.cell (block_lt_of_cell y1)).trans y1, y2.below hb⟩
theorem Frs.pre {w : World} {a : Option Addr} {n c : Nat} {fs : List Frm} (h : Frs w (.slice a n c) fs) (k : Nat) (hk : k ≤ n) : Frs w (.slice a k c) (fs.take k) := by
  obtain ⟨a1, c1, e, hx⟩ := h
  cases e
  refine ⟨a, c, by rw [List.length_take, Nat.min_eq_left hk], fun j f hf => ?_⟩
  rw [List.getElem?_take] at hf
  split at hf
  · exact hx j f hf
  · cases hf
theorem Frs.len {w : World} {a : Option Addr} {n c : Nat} {fs : List Frm} (h : Frs w (.slice a n c) fs) : n = fs.length := by
  obtain ⟨_, _, e, _⟩ := h
  cases e
  rfl
end Go.Proofs.Ytpighnknldhigaa
