/-
  What is merged, as plain mathematics.
-/
import Derived.Test.YtjnpendihdlgnaaAd
namespace Go.Proofs.Ytjnpendihdlgnaa
open Go.RowKit
set_option maxRecDepth 100000
def ltT (a b : Tow) : Prop := cmpE a.e.en b.e.en < 0
theorem cmpE_lt_le {x y z : En} (h1 : cmpE x y < 0) (h2 : cmpE y z ≤ 0) : cmpE x z < 0 := by
  have := @cmpE_sub x y z (by omega) h2
  omega
theorem cmpE_le_lt {x y z : En} (h1 : cmpE x y ≤ 0) (h2 : cmpE y z < 0) : cmpE x z < 0 := by
  have := @cmpE_sub x y z h1 (by omega)
  omega
/-- Each row rises. -/
def Up (L : List Hd) : Prop := ∀ h, h ∈ L → h.R.Pairwise ltT
/-- What the rows' entries are, merged. -/
structure Mg (L : List Hd) (xs : List Tow) : Prop where
  rise : xs.Pairwise ltT
  of : ∀ x, x ∈ xs → ∃ h, h ∈ L ∧ x ∈ h.R ∧ ∀ h', h' ∈ L → h'.no < h.no → ∀ y, y ∈ h'.R → cmpE y.e.en x.e.en ≠ 0
  all : ∀ h, h ∈ L → ∀ y, y ∈ h.R → ∃ x, x ∈ xs ∧ cmpE x.e.en y.e.en = 0
theorem Mg.nil : Mg [] [] := ⟨List.Pairwise.nil, fun _ h => (by cases h), fun _ h => (by cases h)⟩
theorem Mg.perm {L L' : List Hd} {xs : List Tow} (h : Mg L xs) (hp : ∀ x, x ∈ L ↔ x ∈ L') : Mg L' xs :=
  ⟨h.rise, fun x hx => by
    obtain ⟨a, h1, h2, h3⟩ := h.of x hx
    exact ⟨a, (hp a).1 h1, h2, fun b hb => h3 b ((hp b).2 hb)⟩, fun a ha => h.all a ((hp a).2 ha)⟩
theorem adv_cons {h : Hd} {y z : Tow} {r : List Tow} (e : h.R = y :: z :: r) : adv h = some ⟨h.b, h.off + 4, h.c - 1, z :: r, h.no⟩ := by unfold adv; rw [e]
theorem adv_one {h : Hd} {y : Tow} (e : h.R = [y]) : adv h = none := by unfold adv; rw [e]
theorem adv_some {h h' : Hd} (e : adv h = some h') : ∃ y, h.R = y :: h'.R ∧ h'.no = h.no ∧ h'.R ≠ [] := by
  unfold adv at e
  split at e
  · next y z r hr =>
    cases e
    exact ⟨y, hr, rfl, by simp⟩
  · cases e
theorem top_cons {h : Hd} {y : Tow} {r : List Tow} (e : h.R = y :: r) : h.top = y.e.en := by unfold Hd.top; rw [e]; rfl
/-- Some heads have gone by an entry x. -/
def Went (x : En) (L L1 : List Hd) : Prop := ∃ d r, L.Perm (d ++ r) ∧ L1.Perm (d.filterMap adv ++ r) ∧ ∀ h, h ∈ d → cmpE h.top x = 0
theorem Went.refl (x : En) (L : List Hd) : Went x L L := ⟨[], L, .refl _, .refl _, fun _ h => by cases h⟩
theorem top_le {h : Hd} (hu : h.R.Pairwise ltT) {y : Tow} (hy : y ∈ h.R) : cmpE h.top y.e.en ≤ 0 := by
  cases e : h.R with
  | nil => rw [e] at hy; cases hy
  | cons z r =>
    rw [top_cons e]
    rw [e] at hy hu
    rcases List.mem_cons.1 hy with rfl | hy
    · have := (cmpE_zero y.e.en y.e.en).2 ⟨rfl, rfl⟩; omega
    · have := (List.pairwise_cons.1 hu).1 y hy
      unfold ltT at this
      omega
theorem adv_above {x : En} {h h' : Hd} (hu : h.R.Pairwise ltT) (e : adv h = some h') (hx : cmpE h.top x = 0) : ∀ y, y ∈ h'.R → cmpE x y.e.en < 0 := fun y hy => by
  obtain ⟨z, hr, _, _⟩ := adv_some e
  rw [hr] at hu
  have h1 := (List.pairwise_cons.1 hu).1 y hy
  rw [top_cons hr] at hx
  have := cmpE_swap z.e.en x
  exact cmpE_le_lt (by omega) h1
theorem Went.step {x : En} {L L1 L2 : List Hd} {h : Hd} (hu : Up L) (hw : Went x L (h :: L1)) (hx : cmpE h.top x = 0) (hne : h.R ≠ []) (h2 : L2.Perm ((adv h).toList ++ L1)) : Went x L L2 := by
  obtain ⟨d, r, p1, p2, p3⟩ := hw
  have hmem : h ∈ d.filterMap adv ++ r := p2.mem_iff.1 (by simp)
  have hr : h ∈ r := by
    rcases List.mem_append.1 hmem with hm | hm
    · exfalso
      obtain ⟨a, ha, e⟩ := List.mem_filterMap.1 hm
      have h1 := adv_above (hu a (p1.mem_iff.2 (List.mem_append_left _ ha))) e (p3 a ha)
      cases e2 : h.R with
      | nil => exact hne e2
      | cons y t =>
        have := h1 y (by rw [e2]; simp)
        rw [top_cons e2] at hx
        have := cmpE_swap x y.e.en
        omega
    · exact hm
  obtain ⟨s, t, rfl⟩ := List.append_of_mem hr
  refine ⟨h :: d, s ++ t, ?_, ?_, ?_⟩
  · refine p1.trans ?_
    rw [List.cons_append, ← List.append_assoc]
    exact List.perm_middle.trans (by rw [List.append_assoc])
  · have p4 : L1.Perm (d.filterMap adv ++ (s ++ t)) := by
      refine (List.perm_cons h).1 (p2.trans ?_)
      rw [← List.append_assoc]
      exact List.perm_middle.trans (by rw [List.append_assoc])
    refine h2.trans ((p4.append_left _).trans ?_)
    rw [← List.append_assoc]
    refine List.Perm.append_right _ ?_
    cases e : adv h with
    | none => rw [List.filterMap_cons_none e]; exact .refl _
    | some h' => rw [List.filterMap_cons_some e]; exact .refl _
  · intro a ha
    rcases List.mem_cons.1 ha with rfl | ha
    · exact hx
    · exact p3 a ha
/-- Behind 'next': what is merged of the rest, and the entry ahead of it. -/
theorem Mg.step {L L' : List Hd} {h0 : Hd} {y : Tow} {r0 : List Tow} (hu : Up L) (h0m : h0 ∈ L) (hy : h0.R = y :: r0) (hmin : ∀ h, h ∈ L → ¬ ltH h h0) (hw : Went y.e.en L L') (hend : ∀ h, h ∈ L' → cmpE h.top y.e.en ≠ 0) {xs : List Tow} (hm : Mg L' xs) : Mg L (y :: xs) := by
  obtain ⟨d, r, p1, p2, p3⟩ := hw
  have inL : ∀ h, h ∈ L ↔ h ∈ d ∨ h ∈ r := fun h => by rw [p1.mem_iff, List.mem_append]
  have inL' : ∀ h, h ∈ L' ↔ (∃ a, a ∈ d ∧ adv a = some h) ∨ h ∈ r := fun h => by rw [p2.mem_iff, List.mem_append, List.mem_filterMap]
  have ht0 : h0.top = y.e.en := top_cons hy
  -- all that is left is behind y
  have above : ∀ h, h ∈ L' → ∀ z, z ∈ h.R → cmpE y.e.en z.e.en < 0 := fun h hh z hz => by
    rcases (inL' h).1 hh with ⟨a, ha, e⟩ | hr
    · exact adv_above (hu a ((inL a).2 (.inl ha))) e (p3 a ha) z hz
    · have h1 := hmin h ((inL h).2 (.inr hr))
      have h2 := hend h hh
      have h3 := top_le (hu h ((inL h).2 (.inr hr))) hz
      unfold ltH at h1
      rw [ht0] at h1
      have := cmpE_swap y.e.en h.top
      exact cmpE_lt_le (by omega) h3
  refine ⟨List.pairwise_cons.2 ⟨fun z hz => ?_, hm.rise⟩, fun x hx => ?_, fun h hh z hz => ?_⟩
  · obtain ⟨h, h1, h2, _⟩ := hm.of z hz
    exact above h h1 z h2
  · rcases List.mem_cons.1 hx with rfl | hx
    · refine ⟨h0, h0m, by rw [hy]; simp, fun h' hh' hno z hz e => ?_⟩
      have h1 := hmin h' hh'
      have h2 := top_le (hu h' hh') hz
      unfold ltH at h1
      rw [ht0] at h1
      have s1 := cmpE_swap h'.top x.e.en
      have h3 := cmpE_lt_le (x := x.e.en) (y := h'.top) (z := z.e.en) (by omega) h2
      have s2 := cmpE_swap z.e.en x.e.en
      omega
    · obtain ⟨h, h1, h2, h3⟩ := hm.of x hx
      have hxy := above h h1 x h2
      have key : ∀ h', h' ∈ L → h'.no < h.no → ∀ z, z ∈ h'.R → cmpE z.e.en x.e.en ≠ 0 := fun h' hh' hno z hz => by
        rcases (inL h').1 hh' with hd | hr
        · cases e : h'.R with
          | nil => rw [e] at hz; cases hz
          | cons a t =>
            rw [e] at hz
            rcases List.mem_cons.1 hz with rfl | hz
            · have h4 := p3 h' hd
              rw [top_cons e] at h4
              have := cmpE_le_lt (x := z.e.en) (y := y.e.en) (z := x.e.en) (by omega) hxy
              omega
            · cases t with
              | nil => cases hz
              | cons b t =>
                exact h3 ⟨h'.b, h'.off + 4, h'.c - 1, b :: t, h'.no⟩ ((inL' _).2 (.inl ⟨h', hd, adv_cons e⟩)) hno z hz
        · exact h3 h' ((inL' h').2 (.inr hr)) hno z hz
      rcases (inL' h).1 h1 with ⟨a, ha, e⟩ | hr
      · obtain ⟨z, e1, e2, _⟩ := adv_some e
        exact ⟨a, (inL a).2 (.inl ha), by rw [e1]; exact List.mem_cons_of_mem _ h2, fun h' hh' hno => key h' hh' (by omega)⟩
      · exact ⟨h, (inL h).2 (.inr hr), h2, key⟩
  · rcases (inL h).1 hh with hd | hr
    · cases e : h.R with
      | nil => rw [e] at hz; cases hz
      | cons a t =>
        rw [e] at hz
        rcases List.mem_cons.1 hz with rfl | hz
        · have h4 := p3 h hd
          rw [top_cons e] at h4
          have := cmpE_swap z.e.en y.e.en
          exact ⟨y, by simp, by omega⟩
        · cases t with
          | nil => cases hz
          | cons b t =>
            obtain ⟨x, hx, h5⟩ := hm.all ⟨h.b, h.off + 4, h.c - 1, b :: t, h.no⟩ ((inL' _).2 (.inl ⟨h, hd, adv_cons e⟩)) z hz
            exact ⟨x, List.mem_cons_of_mem _ hx, h5⟩
    · obtain ⟨x, hx, h5⟩ := hm.all h ((inL' h).2 (.inr hr)) z hz
      exact ⟨x, List.mem_cons_of_mem _ hx, h5⟩
theorem Up.went {x : En} {L L1 : List Hd} (hu : Up L) (hw : Went x L L1) : Up L1 := fun h hh => by
  obtain ⟨d, r, p1, p2, _⟩ := hw
  rcases List.mem_append.1 (p2.mem_iff.1 hh) with hm | hm
  · obtain ⟨a, ha, e⟩ := List.mem_filterMap.1 hm
    obtain ⟨y, e1, _⟩ := adv_some e
    have := hu a (p1.mem_iff.2 (List.mem_append_left _ ha))
    rw [e1] at this
    exact (List.pairwise_cons.1 this).2
  · exact hu h (p1.mem_iff.2 (List.mem_append_right _ hm))
/-- How many entries are left. -/
def tot (L : List Hd) : Nat := (L.map fun h => h.R.length).sum
theorem tot_perm {L L' : List Hd} (h : L.Perm L') : tot L = tot L' := (h.map _).sum_nat
theorem tot_adv {h : Hd} {L : List Hd} (hne : h.R ≠ []) : tot ((adv h).toList ++ L) + 1 = tot (h :: L) := by
  cases e : h.R with
  | nil => exact absurd e hne
  | cons a t =>
    cases t with
    | nil => rw [adv_one e]; simp [tot, e]; omega
    | cons b t => rw [adv_cons e]; simp [tot, e]; omega
def lenAt (w : World) (g i : Nat) : Nat := match w.cell? ⟨g, i * 2, none⟩ with | some (.slice _ m _) => m | _ => 0
def leftW (p o : Nat) (w : World) : Nat := match w.cell? ⟨p, o, none⟩ with | some (.slice (some a) n _) => ((List.range n).map (lenAt w a.block)).sum | _ => 0
theorem leftW_of {S : Nat → Prop} {w : World} {p o t : Nat} {cs : Array Value} {v : Value} {L : List Hd} (h : HB S w p o t cs v L) : leftW p o w = tot L := by
  unfold leftW
  rw [h.cell]
  rcases h.row with ⟨rfl, rfl⟩ | ⟨g, c, rfl, hr, _⟩
  · rfl
  · show ((List.range L.length).map (lenAt w g)).sum = tot L
    unfold tot
    congr 1
    refine List.ext_getElem (by simp) fun i h1 h2 => ?_
    have hi : i < L.length := by simpa using h1
    have := (hr.at (List.getElem?_eq_getElem hi)).1
    simp only [List.getElem_map, List.getElem_range]
    unfold lenAt
    rw [this]
end Go.Proofs.Ytjnpendihdlgnaa
