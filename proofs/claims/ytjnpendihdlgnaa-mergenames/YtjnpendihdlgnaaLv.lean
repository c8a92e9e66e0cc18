/-
  The chapter's first examples: lives.
-/
import Derived.Test.YtjnpendihdlgnaaNw
namespace Go.Proofs.Ytjnpendihdlgnaa
open Go.RowKit
set_option maxRecDepth 100000
set_option maxHeartbeats 8000000
theorem put_a1x (w : World) : Calls Try.prog 8 #[.string ⟨#[97]⟩, .int .u64 1, .string ⟨#[120]⟩] w fun e w' => ∃ ka kc va vc, e = .returned (.agg #[.slice ka 1 kc, .int .u64 1, .int .i64 1, .slice va 1 vc]) ∧ Bytes w' (.slice ka 1 kc) [97#8] ∧ Bytes w' (.slice va 1 vc) [120#8] ∧ 1 ≤ kc ∧ Below w.heap.size w w' := put_any ⟨#[97]⟩ ⟨#[120]⟩ 1 w
theorem put_a1y (w : World) : Calls Try.prog 8 #[.string ⟨#[97]⟩, .int .u64 1, .string ⟨#[121]⟩] w fun e w' => ∃ ka kc va vc, e = .returned (.agg #[.slice ka 1 kc, .int .u64 1, .int .i64 1, .slice va 1 vc]) ∧ Bytes w' (.slice ka 1 kc) [97#8] ∧ Bytes w' (.slice va 1 vc) [121#8] ∧ 1 ≤ kc ∧ Below w.heap.size w w' := put_any ⟨#[97]⟩ ⟨#[121]⟩ 1 w
theorem put_a2y (w : World) : Calls Try.prog 8 #[.string ⟨#[97]⟩, .int .u64 2, .string ⟨#[121]⟩] w fun e w' => ∃ ka kc va vc, e = .returned (.agg #[.slice ka 1 kc, .int .u64 2, .int .i64 1, .slice va 1 vc]) ∧ Bytes w' (.slice ka 1 kc) [97#8] ∧ Bytes w' (.slice va 1 vc) [121#8] ∧ 1 ≤ kc ∧ Below w.heap.size w w' := put_any ⟨#[97]⟩ ⟨#[121]⟩ 2 w
theorem put_b1z (w : World) : Calls Try.prog 8 #[.string ⟨#[98]⟩, .int .u64 1, .string ⟨#[122]⟩] w fun e w' => ∃ ka kc va vc, e = .returned (.agg #[.slice ka 1 kc, .int .u64 1, .int .i64 1, .slice va 1 vc]) ∧ Bytes w' (.slice ka 1 kc) [98#8] ∧ Bytes w' (.slice va 1 vc) [122#8] ∧ 1 ≤ kc ∧ Below w.heap.size w w' := put_any ⟨#[98]⟩ ⟨#[122]⟩ 1 w
def eA1x : Ent := ⟨[97#8], 1, 1, [120#8]⟩
def eA1y : Ent := ⟨[97#8], 1, 1, [121#8]⟩
def eA2y : Ent := ⟨[97#8], 2, 1, [121#8]⟩
def eB1z : Ent := ⟨[98#8], 1, 1, [122#8]⟩
theorem mg_ex1 (a b : Addr) (c d : Nat) (t1 t2 t3 : Tow) (h1 : t1.e = eA1x) (h2 : t2.e = eA2y) (h3 : t3.e = eB1z) : Mg (hds [⟨some a, c, [t1]⟩, ⟨some b, d, [t2, t3]⟩]) [t2, t1, t3] := by
  have hh : hds [⟨some a, c, [t1]⟩, ⟨some b, d, [t2, t3]⟩] = [⟨a.block, a.off, c, [t1], 0⟩, ⟨b.block, b.off, d, [t2, t3], 1⟩] := rfl
  rw [hh]
  have d21 : cmpE eA2y.en eA1x.en < 0 := by decide
  have d23 : cmpE eA2y.en eB1z.en < 0 := by decide
  have d13 : cmpE eA1x.en eB1z.en < 0 := by decide
  have z1 : cmpE eA1x.en eA1x.en = 0 := by decide
  have z2 : cmpE eA2y.en eA2y.en = 0 := by decide
  have z3 : cmpE eB1z.en eB1z.en = 0 := by decide
  have n12 : cmpE eA1x.en eA2y.en ≠ 0 := by decide
  have n13 : cmpE eA1x.en eB1z.en ≠ 0 := by decide
  refine ⟨?_, fun x hx => ?_, fun h hh y hy => ?_⟩
  · simp only [List.pairwise_cons, List.mem_cons, List.not_mem_nil, or_false, forall_eq_or_imp, forall_eq, ltT, h1, h2, h3, d21, d23, d13, List.Pairwise.nil, and_true, false_implies, implies_true]
  · simp only [List.mem_cons, List.not_mem_nil, or_false] at hx
    rcases hx with rfl | rfl | rfl
    · refine ⟨_, List.mem_cons_of_mem _ (List.mem_cons_self ..), by simp, fun h' hh' hno y hy => ?_⟩
      simp only [List.mem_cons, List.not_mem_nil, or_false] at hh'
      rcases hh' with rfl | rfl
      · obtain rfl : y = t1 := by simpa using hy
        rw [h1, h2]; exact n12
      · exact absurd hno (by simp)
    · refine ⟨_, List.mem_cons_self .., by simp, fun h' hh' hno y hy => ?_⟩
      exact absurd hno (by simp)
    · refine ⟨_, List.mem_cons_of_mem _ (List.mem_cons_self ..), by simp, fun h' hh' hno y hy => ?_⟩
      simp only [List.mem_cons, List.not_mem_nil, or_false] at hh'
      rcases hh' with rfl | rfl
      · obtain rfl : y = t1 := by simpa using hy
        rw [h1, h3]; exact n13
      · exact absurd hno (by simp)
  · simp only [List.mem_cons, List.not_mem_nil, or_false] at hh
    rcases hh with rfl | rfl
    · obtain rfl : y = t1 := by simpa using hy
      exact ⟨y, by simp, by rw [h1]; exact z1⟩
    · have : y = t2 ∨ y = t3 := by simpa using hy
      rcases this with rfl | rfl
      · exact ⟨y, by simp, by rw [h2]; exact z2⟩
      · exact ⟨y, by simp, by rw [h3]; exact z3⟩
theorem mg_ex2 (a b : Addr) (c d : Nat) (t1 t2 : Tow) (h1 : t1.e = eA1x) (h2 : t2.e = eA1y) : Mg (hds [⟨some a, c, [t1]⟩, ⟨some b, d, [t2]⟩]) [t1] := by
  have hh : hds [⟨some a, c, [t1]⟩, ⟨some b, d, [t2]⟩] = [⟨a.block, a.off, c, [t1], 0⟩, ⟨b.block, b.off, d, [t2], 1⟩] := rfl
  rw [hh]
  have z1 : cmpE eA1x.en eA1x.en = 0 := by decide
  have z2 : cmpE eA1x.en eA1y.en = 0 := by decide
  refine ⟨by simp, fun x hx => ?_, fun h hh y hy => ?_⟩
  · obtain rfl : x = t1 := by simpa using hx
    exact ⟨_, List.mem_cons_self .., by simp, fun h' hh' hno y hy => absurd hno (by simp)⟩
  · simp only [List.mem_cons, List.not_mem_nil, or_false] at hh
    rcases hh with rfl | rfl
    · obtain rfl : y = t1 := by simpa using hy
      exact ⟨y, by simp, by rw [h1]; exact z1⟩
    · obtain rfl : y = t2 := by simpa using hy
      exact ⟨t1, by simp, by rw [h1, h2]; exact z2⟩
/-- What All answers where it is known. -/
theorem all_known (a : Option Addr) (n c : Nat) (rs : List Rw) (w : World) (h : RowsIn w a rs) (hn : n = rs.length) (hf : Fine rs) (ho : eachOrd rs = true) (ys : List Tow) (hy : Mg (hds rs) ys) :
    Calls Try.prog 10 #[.slice a n c] w fun e w' => ∃ v R, e = .returned (.tuple #[v, .int .i64 0]) ∧ ERow w' w.heap.size v R ∧ Shown w' w.heap.size R ∧ R.map (·.e) = ys.map (·.e) ∧ Below w.heap.size w w' := by
  refine (all_any a n c rs w h hn hf).mono ?_
  rintro e w' ⟨v, R, rfl, hE, hS, hb, hA⟩
  refine ⟨v, R, by rw [ho]; rfl, hE, hS, ?_, hb⟩
  rcases hA with ⟨_, xs, hx, he⟩ | ⟨e, _⟩
  · rw [he, Mg.uniq (hds_up h hf.rows ho) hds_no hx hy]
  · rw [ho] at e; cases e
theorem ERow.at {w : World} {B : Nat} {v : Value} {R : List Tow} (h : ERow w B v R) (hne : R ≠ []) : ∃ g c : Nat, v = .slice (some ⟨g, 0, none⟩) R.length c ∧ ∀ k x, R[k]? = some x → w.cell? ⟨g, k * 4, none⟩ = some x.kv ∧ w.cell? ⟨g, k * 4 + 1, none⟩ = some (.int .u64 (x.e.seq : Nat)) ∧ w.cell? ⟨g, k * 4 + 2, none⟩ = some (.int .i64 x.e.kind) ∧ w.cell? ⟨g, k * 4 + 3, none⟩ = some x.vv := by
  rcases h with ⟨rfl, _⟩ | ⟨g, c, n, rfl, rfl, _, _, cs, h1, _, h3⟩
  · exact absurd rfl hne
  · refine ⟨g, c, rfl, fun k x hx => ?_⟩
    have hk := (List.getElem?_eq_some_iff.1 hx).1
    have hl := entCells_length R
    obtain ⟨a0, a1, a2, a3⟩ := entCells_at R k x hx
    refine ⟨?_, ?_, ?_, ?_⟩
    · rw [cell_of_row w g _ cs 25 (0, 0) h1, h3 _ (by omega), a0]
    · rw [cell_of_row w g _ cs 25 (0, 0) h1, h3 _ (by omega), a1]
    · rw [cell_of_row w g _ cs 25 (0, 0) h1, h3 _ (by omega), a2]
    · rw [cell_of_row w g _ cs 25 (0, 0) h1, h3 _ (by omega), a3]
theorem all_ex1 (g g1 g2 : Nat) (t1 t2 t3 : Tow) (w : World) (h1 : t1.e = eA1x) (h2 : t2.e = eA2y) (h3 : t3.e = eB1z) (hr : RowsIn w (some ⟨g, 0, none⟩) [⟨some ⟨g1, 0, none⟩, 1, [t1]⟩, ⟨some ⟨g2, 0, none⟩, 2, [t2, t3]⟩]) :
    Calls Try.prog 10 #[.slice (some ⟨g, 0, none⟩) 2 2] w fun e w' => ∃ q c, e = .returned (.tuple #[.slice (some ⟨q, 0, none⟩) 3 c, .int .i64 0]) ∧ w'.cell? ⟨q, 1, none⟩ = some (.int .u64 2) ∧ w'.cell? ⟨q, 5, none⟩ = some (.int .u64 1) ∧ Below w.heap.size w w' := by
  refine (all_known (some ⟨g, 0, none⟩) 2 2 _ w hr rfl ⟨by simp, by show 3 ≤ 1000000; omega, fun x hx => ?_⟩ ?_ [t2, t1, t3] (mg_ex1 _ _ _ _ t1 t2 t3 h1 h2 h3)).mono ?_
  · have : x = t1 ∨ x = t2 ∨ x = t3 := by simpa [allOf] using hx
    rcases this with rfl | rfl | rfl
    · rw [h1]; decide
    · rw [h2]; decide
    · rw [h3]; decide
  · show (inOrd [t1.e] && (inOrd [t2.e, t3.e] && true)) = true
    rw [h1, h2, h3]; decide
  · rintro e w' ⟨v, R, rfl, hE, hS, hm, hb⟩
    have hm' : R.map (·.e) = [eA2y, eA1x, eB1z] := by rw [hm]; simp [h1, h2, h3]
    obtain ⟨r1, R1, rfl, e1, hm1⟩ := List.map_eq_cons_iff.1 hm'
    obtain ⟨r2, R2, rfl, e2, hm2⟩ := List.map_eq_cons_iff.1 hm1
    obtain ⟨r3, R3, rfl, e3, hm3⟩ := List.map_eq_cons_iff.1 hm2
    obtain rfl : R3 = [] := by simpa using hm3
    obtain ⟨q, c, rfl, hc⟩ := hE.at (by simp)
    refine ⟨q, c, rfl, ?_, ?_, hb⟩
    · have := (hc 0 r1 rfl).2.1
      rw [e1] at this
      exact this
    · have := (hc 1 r2 rfl).2.1
      rw [e2] at this
      exact this
theorem all_ex2 (g g1 g2 : Nat) (t1 t2 : Tow) (w : World) (h1 : t1.e = eA1x) (h2 : t2.e = eA1y) (hr : RowsIn w (some ⟨g, 0, none⟩) [⟨some ⟨g1, 0, none⟩, 1, [t1]⟩, ⟨some ⟨g2, 0, none⟩, 1, [t2]⟩]) :
    Calls Try.prog 10 #[.slice (some ⟨g, 0, none⟩) 2 2] w fun e w' => ∃ q c va vc, e = .returned (.tuple #[.slice (some ⟨q, 0, none⟩) 1 c, .int .i64 0]) ∧ w'.cell? ⟨q, 3, none⟩ = some (.slice va 1 vc) ∧ Bytes w' (.slice va 1 vc) [120#8] ∧ Below w.heap.size w w' := by
  refine (all_known (some ⟨g, 0, none⟩) 2 2 _ w hr rfl ⟨by simp, by show 2 ≤ 1000000; omega, fun x hx => ?_⟩ ?_ [t1] (mg_ex2 _ _ _ _ t1 t2 h1 h2)).mono ?_
  · have : x = t1 ∨ x = t2 := by simpa [allOf] using hx
    rcases this with rfl | rfl
    · rw [h1]; decide
    · rw [h2]; decide
  · show (inOrd [t1.e] && (inOrd [t2.e] && true)) = true
    rw [h1, h2]; decide
  · rintro e w' ⟨v, R, rfl, hE, hS, hm, hb⟩
    have hm' : R.map (·.e) = [eA1x] := by rw [hm]; simp [h1]
    obtain ⟨r1, R1, rfl, e1, hm1⟩ := List.map_eq_cons_iff.1 hm'
    obtain rfl : R1 = [] := by simpa using hm1
    obtain ⟨q, c, rfl, hc⟩ := hE.at (by simp)
    have h4 := (hc 0 r1 rfl).2.2.2
    have h5 := (hS r1 (by simp)).2.1
    obtain ⟨ka, kc, va, vc, e⟩ := r1
    simp only at e1
    subst e1
    exact ⟨q, c, va, vc, rfl, h4, h5, hb⟩
end Go.Proofs.Ytjnpendihdlgnaa
