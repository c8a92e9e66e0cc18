/-
  What a job leaves: pure.
-/
import Derived.Test.YtkmcdjbadngfgaaPp
namespace Go.Proofs.Ytkmcdjbadngfgaa
set_option maxRecDepth 100000
set_option maxHeartbeats 4000000
theorem files_at' {LL : List (List Fl)} {next seq log : Nat} {t : Nat} {l : List Fl} (h : wrongVF LL next seq log = false) (ht : t < 5) (hl : LL[t]? = some l) : filesF LL next seq log (t : Nat) = l := by
  unfold filesF goodLev
  rw [h, decide_eq_true (show (0 : Int) ≤ (t : Nat) by omega), decide_eq_true (show ((t : Nat) : Int) < 5 by omega)]
  simp [List.getD, hl]
theorem clt_iff (a b : List (BitVec 8)) : cmpB a b < 0 ↔ ¬ cle b a := by rw [cle_iff]; omega
theorem levels_ok {LL : List (List Fl)} {next seq log : Nat} (h : wrongVF LL next seq log = false) {k : Nat} {l : List Fl} (hk : LL[k]? = some l) : (∀ f ∈ l, wrongF f = false) ∧ ordF k l = true := by
  unfold wrongVF at h
  simp only [Bool.or_eq_false_iff] at h
  have := List.any_eq_false.1 h.1.2 (l, k) (List.mem_zipIdx_iff_getElem?.2 hk)
  simp only [wrongLF, Bool.or_eq_true, not_or, Bool.not_eq_true] at this
  refine ⟨fun f hf => ?_, ?_⟩
  · have h1 := List.any_eq_false.1 this.1.1 f hf
    simpa using h1
  · have h2 := this.2
    cases ho : ordF k l with
    | true => rfl
    | false => rw [ho] at h2; simp at h2
theorem file_le {f : Fl} (h : wrongF f = false) : cle f.least f.most ∧ 1 ≤ f.least.length ∧ 1 ≤ f.most.length := by
  unfold wrongF isK at h
  simp only [Bool.or_eq_false_iff, decide_eq_false_iff_not, Bool.not_eq_eq_eq_not, Bool.not_false, Bool.and_eq_true, decide_eq_true_iff] at h
  unfold cle
  omega
/-- On a level but the first files stand one behind the other. -/
theorem apart {lev : Nat} {l : List Fl} (hl : lev ≠ 0) (ho : ordF lev l = true) (hw : ∀ f ∈ l, wrongF f = false) : ∀ (d i : Nat) (f g : Fl), l[i]? = some f → l[i + d + 1]? = some g → ¬ cle g.least f.most
  | 0, i, f, g, hf, hg => by
    have h := (ordF_iff lev l).1 ho i f g hf hg
    unfold aheadF at h
    rw [if_neg hl, decide_eq_true_iff, clt_iff] at h
    exact h
  | d + 1, i, f, g, hf, hg => by
    obtain ⟨m, hm⟩ : ∃ m, l[i + d + 1]? = some m := ⟨_, List.getElem?_eq_getElem (by have := (List.getElem?_eq_some_iff.1 hg).1; omega)⟩
    have h1 := apart hl ho hw d i f m hf hm
    have h := (ordF_iff lev l).1 ho (i + d + 1) m g hm hg
    unfold aheadF at h
    rw [if_neg hl, decide_eq_true_iff, clt_iff] at h
    intro hc
    rcases cle_total m.least f.most with hx | hx
    · exact h1 hx
    · exact h (cle_trans hc (cle_trans hx (file_le (hw m (List.mem_of_getElem? hm))).1))
theorem only_one {lev : Nat} {l : List Fl} (hl : lev ≠ 0) (ho : ordF lev l = true) (hw : ∀ f ∈ l, wrongF f = false) {f g : Fl} (hf : f ∈ l) (hg : g ∈ l) (h : ovK f.least f.most g = true) : g = f := by
  obtain ⟨i, hi⟩ := List.getElem?_of_mem hf
  obtain ⟨j, hj⟩ := List.getElem?_of_mem hg
  obtain ⟨h1, h2⟩ := ovK_iff.1 h
  rcases Nat.lt_trichotomy i j with hij | hij | hij
  · obtain ⟨d, rfl⟩ : ∃ d, j = i + d + 1 := ⟨j - i - 1, by omega⟩
    exact absurd h2 (apart hl ho hw d i f g hi hj)
  · subst hij
    rw [hi] at hj
    cases hj
    rfl
  · obtain ⟨d, rfl⟩ : ∃ d, i = j + d + 1 := ⟨i - j - 1, by omega⟩
    exact absurd h1 (apart hl ho hw d j g f hj hi)
theorem ovF_ovK {lo hi : List (BitVec 8)} (h : 1 ≤ hi.length) (f : Fl) : overF lo hi f = ovK lo hi f := by
  unfold overF ovK
  rw [decide_eq_false (show ¬ hi.length = 0 by omega), Bool.false_or]
structure Facts (LL : List (List Fl)) (z : Nat) (lo hi : List (BitVec 8)) (U LW : List Fl) : Prop where
  hU : U = (LL.getD z []).filter (ovK lo hi)
  hL : LW = (LL.getD (z + 1) []).filter (ovK lo hi)
  closed : Closed (LL.getD z []) lo hi
  some : ∃ f ∈ LL.getD z [], ovK lo hi f = true
  hi1 : 1 ≤ hi.length
theorem NextJ.facts {LL : List (List Fl)} {next seq log z : Nat} {lo hi : List (BitVec 8)} {U LW : List Fl} {least most : List (BitVec 8)} {bot : Bool} (h : wrongVF LL next seq log = false) (hz : z ≤ 3) (hj : NextJ LL next seq log z lo hi U LW least most bot) : Facts LL z lo hi U LW := by
  have h5 := len_of_ok h
  obtain ⟨l0, hl0⟩ : ∃ l, LL[z]? = some l := ⟨_, List.getElem?_eq_getElem (by omega)⟩
  obtain ⟨l1, hl1⟩ : ∃ l, LL[z + 1]? = some l := ⟨_, List.getElem?_eq_getElem (by omega)⟩
  have g0 : LL.getD z [] = l0 := by rw [List.getD, hl0]; rfl
  have g1 : LL.getD (z + 1) [] = l1 := by rw [List.getD, hl1]; rfl
  obtain ⟨hw, ho⟩ := levels_ok h hl0
  have hup := hj.up
  rw [g0] at hup
  obtain ⟨hc, hs, hh⟩ : Closed l0 lo hi ∧ (∃ f ∈ l0, ovK lo hi f = true) ∧ 1 ≤ hi.length := by
    unfold UpP at hup
    split at hup
    · obtain ⟨f0, hf0, hg, hc⟩ := hup
      have hm := List.mem_of_getElem? hf0
      obtain ⟨f, hf, rfl⟩ := hg.him
      have hle := (file_le (hw f0 hm)).1
      exact ⟨hc, ⟨f0, hm, ovK_iff.2 ⟨cle_trans hg.hold.1 hle, cle_trans hle hg.hold.2⟩⟩, (file_le (hw f hf)).2.2⟩
    · next hz0 =>
      obtain ⟨f, hf, rfl, rfl, _⟩ := hup
      have hle := (file_le (hw f hf)).1
      refine ⟨fun g hg hov => ?_, ⟨f, hf, ovK_iff.2 ⟨hle, hle⟩⟩, (file_le (hw f hf)).2.2⟩
      rw [only_one (by omega) ho hw hf hg hov]
      exact hoK_iff.2 ⟨cle_refl _, cle_refl _⟩
  have fe : overF lo hi = ovK lo hi := funext (ovF_ovK hh)
  refine ⟨?_, ?_, by rw [g0]; exact hc, by rw [g0]; exact hs, hh⟩
  · rw [hj.hU, g0, files_at' h (by omega) hl0, fe]
  · rw [hj.hL, g1, show ((z : Nat) : Int) + 1 = ((z + 1 : Nat) : Int) by omega, files_at' h (by omega) hl1, fe]
theorem ovL_iff {x y : Fl} : ovL x y = true ↔ cle y.least x.most ∧ cle x.least y.most := by
  unfold ovL
  rw [Bool.and_eq_true, decide_eq_true_iff, decide_eq_true_iff, clt_iff, clt_iff, Classical.not_not, Classical.not_not]
/-- What overlaps one of Upper is overlapped by its keys. -/
theorem Facts.over {LL : List (List Fl)} {z : Nat} {lo hi : List (BitVec 8)} {U LW : List Fl} (h : Facts LL z lo hi U LW) {u g : Fl} (hu : u ∈ U) (ho : ovL g u = true) : ovK lo hi g = true := by
  rw [h.hU, List.mem_filter] at hu
  obtain ⟨a1, a2⟩ := hoK_iff.1 (h.closed u hu.1 hu.2)
  obtain ⟨b1, b2⟩ := ovL_iff.1 ho
  exact ovK_iff.2 ⟨cle_trans a1 b1, cle_trans b2 a2⟩
theorem among_mem {l : List Fl} {f : Fl} (h : f ∈ l) : amongF l f.no = true := by
  unfold amongF
  rw [List.any_eq_true]
  exact ⟨f, h, by simp⟩
theorem Facts.here {LL : List (List Fl)} {z : Nat} {lo hi : List (BitVec 8)} {U LW : List Fl} (h : Facts LL z lo hi U LW) {u : Fl} (hu : u ∈ U) : amongF (LL.getD z []) u.no = true := by
  rw [h.hU, List.mem_filter] at hu
  exact among_mem hu.1
theorem Facts.up {LL : List (List Fl)} {z : Nat} {lo hi : List (BitVec 8)} {U LW : List Fl} (h : Facts LL z lo hi U LW) {u g : Fl} (hu : u ∈ U) (hg : g ∈ LL.getD z []) (ho : ovL g u = true) : amongF U g.no = true :=
  among_mem (by rw [h.hU, List.mem_filter]; exact ⟨hg, h.over hu ho⟩)
theorem Facts.low {LL : List (List Fl)} {z : Nat} {lo hi : List (BitVec 8)} {U LW : List Fl} (h : Facts LL z lo hi U LW) {u g : Fl} (hu : u ∈ U) (hg : g ∈ LL.getD (z + 1) []) (ho : ovL g u = true) : amongF LW g.no = true :=
  among_mem (by rw [h.hL, List.mem_filter]; exact ⟨hg, h.over hu ho⟩)
theorem Facts.ne {LL : List (List Fl)} {z : Nat} {lo hi : List (BitVec 8)} {U LW : List Fl} (h : Facts LL z lo hi U LW) : U ≠ [] := fun e => by
  obtain ⟨f, hf, ho⟩ := h.some
  have : f ∈ U := by rw [h.hU, List.mem_filter]; exact ⟨hf, ho⟩
  rw [e] at this
  cases this
theorem loF_ge {l : List Fl} : ∀ {hi : List (BitVec 8)}, 1 ≤ hi.length → (∀ f ∈ l, 1 ≤ f.most.length) → 1 ≤ (hiF l hi).length := by
  induction l with
  | nil => intro hi h _; exact h
  | cons f r ih =>
    intro hi h hf
    refine ih (hi := maxB f hi) ?_ fun g hg => hf g (List.mem_cons_of_mem _ hg)
    unfold maxB
    split
    · exact hf f List.mem_cons_self
    · exact h
/-- The bottom as the law goes over it. -/
def botL (LL : List (List Fl)) (z : Nat) (m : Fl) : Bool := (LL.drop (z + 2)).all fun l => l.all fun f => !ovL f m
theorem NextJ.bot_eq {LL : List (List Fl)} {next seq log z : Nat} {lo hi : List (BitVec 8)} {U LW : List Fl} {least most : List (BitVec 8)} {bot : Bool} (h : wrongVF LL next seq log = false) (hz : z ≤ 3) (hj : NextJ LL next seq log z lo hi U LW least most bot) (m : Fl) (h1 : m.least = least) (h2 : m.most = most) : botL LL z m = bot := by
  have hf := hj.facts h hz
  have h5 := len_of_ok h
  obtain ⟨l1, hl1⟩ : ∃ l, LL[z + 1]? = some l := ⟨_, List.getElem?_eq_getElem (by omega)⟩
  have g1 : LL.getD (z + 1) [] = l1 := by rw [List.getD, hl1]; rfl
  have hm : 1 ≤ most.length := by
    rw [hj.hm]
    refine loF_ge hf.hi1 fun f hx => ?_
    rw [hf.hL, g1, List.mem_filter] at hx
    exact (file_le ((levels_ok h hl1).1 f hx.1)).2.2
  rw [hj.hb]
  unfold deepF botL
  rw [h, decide_eq_false (show ¬ ((z : Nat) : Int) + 1 < 0 by omega), Bool.false_or, Bool.false_or, Bool.eq_iff_iff]
  have hov : ∀ f, ovL f m = overF least most f := fun f => by
    rw [ovF_ovK hm, Bool.eq_iff_iff, ovL_iff, ovK_iff, h1, h2]
  simp only [List.all_eq_true, Bool.not_eq_eq_eq_not, Bool.not_true, List.any_eq_false, Bool.and_eq_true, decide_eq_true_iff, not_and, List.any_eq_true, not_exists]
  constructor
  · intro ha p hp hlt f hff hof
    obtain ⟨l, k⟩ := p
    have hk := List.mem_zipIdx_iff_getElem?.1 hp
    simp only at hk hlt hff
    have hin : l ∈ LL.drop (z + 2) := by
      refine List.mem_of_getElem? (i := k - (z + 2)) ?_
      rw [List.getElem?_drop, show z + 2 + (k - (z + 2)) = k by omega, hk]
    have := ha l hin f hff
    rw [hov] at this
    rw [this] at hof
    cases hof
  · intro ha l hl f hff
    obtain ⟨i, hi⟩ := List.getElem?_of_mem hl
    rw [List.getElem?_drop] at hi
    have := ha (l, z + 2 + i) (List.mem_zipIdx_iff_getElem?.2 hi) (by simp only; omega) f hff
    rw [hov]
    cases hx : overF least most f with
    | false => rfl
    | true => exact absurd hx this
end Go.Proofs.Ytkmcdjbadngfgaa
