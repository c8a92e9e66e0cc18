import Derived.Test.YtefjljdgdoklmaaM19
/-
  The two file systems side by side: no file has two names; a crash.
-/
namespace Go.Proofs.Ytefjljdgdoklmaa
open Go.RowKit Go.Maps Go.Sort
/-- No file has two names in a directory. -/
def Uni (D : DataW Unit) : Prop := ∀ s s' g, fileOf D s = some g → fileOf D s' = some g → s = s'
/-- No directory that a crash could leave gives a file two names. -/
def Disk.uni (d : Disk) : Prop := ∀ k, Uni (d.dirAt k)
theorem Uni.apply {D : DataW Unit} (hD : IsMap D) (h : Uni D) (c : Chg) (hc : ∀ g, c.file = some g → (∀ s, fileOf D s = some g → s = c.went)) : Uni (applyD D c) := by
  obtain ⟨went, became, file⟩ := c
  intro s s' g hs hs'
  rw [fileOf_apply D hD] at hs hs'
  cases file with
  | none =>
    replace hs : (if s = went then none else fileOf D s) = some g := hs
    replace hs' : (if s' = went then none else fileOf D s') = some g := hs'
    split at hs
    · cases hs
    · split at hs'
      · cases hs'
      · exact h s s' g hs hs'
  | some f =>
    replace hs : (if s = became then some f else if s = went then none else fileOf D s) = some g := hs
    replace hs' : (if s' = became then some f else if s' = went then none else fileOf D s') = some g := hs'
    have hw : ∀ t, fileOf D t = some f → t = went := hc f rfl
    by_cases e1 : s = became
    · by_cases e2 : s' = became
      · rw [e1, e2]
      · rw [if_pos e1] at hs
        rw [if_neg e2] at hs'
        split at hs'
        · cases hs'
        · next e3 => cases hs; exact absurd (hw s' hs') e3
    · rw [if_neg e1] at hs
      split at hs
      · cases hs
      · next e3 =>
        by_cases e2 : s' = became
        · rw [if_pos e2] at hs'
          cases hs'
          exact absurd (hw s hs) e3
        · rw [if_neg e2] at hs'
          split at hs'
          · cases hs'
          · exact h s s' g hs hs'
theorem uni_change {d : Disk} (hm : IsMap d.synced) (h : d.uni) (c : Chg) (hc : ∀ g, c.file = some g → ∀ s, fileOf (d.changes.foldl applyD d.synced) s = some g → s = c.went) : (d.change c).uni := by
  intro k
  show Uni (((d.changes ++ [c]).take k).foldl applyD d.synced)
  by_cases hk : k ≤ d.changes.length
  · rw [List.take_append_of_le_length hk]
    exact h k
  · have e : (d.changes ++ [c]).take k = d.changes ++ [c] := List.take_of_length_le (by simp; omega)
    rw [e, List.foldl_append, List.foldl_cons, List.foldl_nil]
    have h1 := h d.changes.length
    unfold Disk.dirAt at h1
    rw [List.take_length] at h1
    exact h1.apply (isMap_fold d.changes hm) c hc
theorem uni_settled {d : Disk} (h : d.uni) : d.settled.uni := by
  intro k
  show Uni (([].take k : List Chg).foldl applyD (d.changes.foldl applyD d.synced))
  rw [List.take_nil, List.foldl_nil]
  have h1 := h d.changes.length
  unfold Disk.dirAt at h1
  rwa [List.take_length] at h1
theorem left_eq (d : Disk) (dir : Int) : d.left dir = d.dirAt (keptN dir d.changes.length) := rfl
theorem uni_crashed {d : Disk} (h : d.uni) (dir : Int) (ks : List Int) : (d.crashed dir ks).uni := by
  intro k
  show Uni (([].take k : List Chg).foldl applyD (d.left dir))
  rw [List.take_nil, List.foldl_nil, left_eq]
  exact h _

/-- The files behind a crash. -/
theorem crash_other {S : DataW Unit} (l : List (ByteArray × Int)) : ∀ (st : (Nat → Option Fil) × Int) (g : Nat), (∀ p ∈ l, fileOf S p.1 ≠ some g) → (l.foldl (crashStep S) st).1 g = st.1 g := by
  induction l with
  | nil => exact fun _ _ _ => rfl
  | cons p r ih =>
    intro st g h
    rw [List.foldl_cons, ih _ g (fun q hq => h q (by simp [hq]))]
    have hp := h p (by simp)
    unfold crashStep
    cases e : fileOf S p.1 with
    | none => rfl
    | some k =>
      simp only
      cases e2 : st.1 k with
      | none => rfl
      | some x => exact if_neg (fun e3 => hp (by rw [e, e3]))
theorem crash_file {S : DataW Unit} (hu : Uni S) (l : List (ByteArray × Int)) : ∀ (st : (Nat → Option Fil) × Int), (l.map (·.1)).Nodup → ∀ p ∈ l, ∀ g x, fileOf S p.1 = some g → st.1 g = some x → (l.foldl (crashStep S) st).1 g = some (x.crash p.2) := by
  induction l with
  | nil => exact fun _ _ p hp => by cases hp
  | cons a r ih =>
    intro st hnd p hp g x hg hx
    rw [List.map_cons, List.nodup_cons] at hnd
    rw [List.foldl_cons]
    have hne : ∀ q ∈ r, q.1 ≠ a.1 := fun q hq e => hnd.1 (List.mem_map.2 ⟨q, hq, e⟩)
    rcases List.mem_cons.1 hp with rfl | hp'
    · rw [crash_other r _ g (fun q hq e => hne q hq (hu _ _ g e hg))]
      obtain ⟨s, kv⟩ := p
      rw [crashStep_some S st s kv g x hg hx]
      exact if_pos rfl
    · refine ih _ hnd.2 p hp' g x hg ?_
      have h1 : (crashStep S st a).1 g = st.1 g := crash_other [a] st g (fun q hq e => by
        have e0 : q = a := by simpa using hq
        rw [e0] at e
        exact hne p hp' (hu _ _ g hg e))
      rw [h1, hx]
end Go.Proofs.Ytefjljdgdoklmaa

/-
  The two file systems side by side behind a crash.
-/
namespace Go.Proofs.Ytefjljdgdoklmaa
open Go.RowKit Go.Maps Go.Sort
/-- What the files are called behind a crash. -/
def rhoC (rho : Nat → Nat) (S : DataW Unit) (gs : List Anew) (g : Nat) : Nat :=
  match gs.find? (fun p => decide (fileOf S p.1 = some g)) with
  | some p => p.2.1
  | none => rho g
theorem nod_names {S : DataW Unit} (h : Nod S) : (namesOf S).Nodup := by
  unfold namesOf
  have h2 : ((strKeys S).mergeSort leB).Nodup := ((List.mergeSort_perm _ _).nodup_iff).2 h.2
  refine List.pairwise_map.2 (h2.imp fun hne e => hne ?_)
  have := congrArg (fun b : ByteArray => b.data.toList) e
  simpa [toBA] using this
theorem crashList_fst (l : List ByteArray) (ks : List Int) : (crashList l ks).map (·.1) = l := by
  unfold crashList
  rw [List.map_map]
  show l.zipIdx.map Prod.fst = l
  simp
theorem Sim.crashed {rho : Nat → Nat} {d : Disk} {r : RDisk} (h : Sim rho d r) (hu : d.uni) (nd : Nod d.synced) (nr : Nod r.synced) (dir : Int) (ks : List Int) (K : Nat) (hK : K = keptN dir r.changes.length) (gs : List Anew)
    (hlen : gs.length = (namesOf (r.dir K)).length)
    (hg : ∀ (j : Nat) (p : Anew), gs[j]? = some p → (namesOf (r.dir K))[j]? = some p.1 ∧ ∃ g x, fileOf (r.dir K) p.1 = some g ∧ r.files g = some x ∧ p.2.2 = x.crash (ks.getD j 0)) (hnd : (gs.map (·.2.1)).Nodup) :
    Sim (rhoC rho (d.left dir) gs) (d.crashed dir ks) { newR r gs with synced := newD (r.dir K) gs, changes := [], off := false, fuse := -1, fault := -1 } := by
  have hK' : d.left dir = d.dirAt K := by rw [left_eq, hK, h.changes, List.length_map]
  have hdir := h.dir K
  have hun : Uni (d.left dir) := hK' ▸ hu K
  rw [← hK'] at hdir
  have hnS : Nod (d.left dir) := by rw [hK']; exact Nod.fold _ nd
  have hnE : Nod (r.dir K) := Nod.foldR _ nr
  have hmE : IsMap (r.dir K) := isMap_foldR _ h.rmap
  have hmS : IsMap (d.left dir) := by rw [hK']; exact isMap_fold _ h.dmap
  have hnames : namesOf (r.dir K) = namesOf (d.left dir) := namesOf_both hnS hnE hdir
  have hfst : gs.map (·.1) = namesOf (r.dir K) := by
    refine List.ext_getElem? fun j => ?_
    rw [List.getElem?_map]
    cases e : gs[j]? with
    | none =>
      have := List.getElem?_eq_none_iff.1 e
      rw [List.getElem?_eq_none (by omega)]; rfl
    | some p => rw [(hg j p e).1]; rfl
  have hnf : (gs.map (·.1)).Nodup := by rw [hfst]; exact nod_names hnE
  have hempty : fileOf (d.left dir) noName = none := by
    rw [hK']
    exact (fold_both rho (d.changes.take K) d.synced r.synced h.dmap h.rmap h.synced h.empty (fun c hc => h.became c (List.mem_of_mem_take hc))).2
  have hlive : ∀ s g, fileOf (d.left dir) s = some g → d.live g := fun s g hs => by
    rw [hK'] at hs
    rcases fileOf_folded (d.changes.take K) h.dmap hs with hs | ⟨c, h1, h2⟩
    · exact .inl ⟨s, hs⟩
    · exact .inr ⟨c, List.mem_of_mem_take h1, h2⟩
  -- each name's new file
  have hat : ∀ s g, fileOf (d.left dir) s = some g → ∃ j p, gs[j]? = some p ∧ p ∈ gs ∧ p.1 = s ∧ rhoC rho (d.left dir) gs g = p.2.1 := fun s g hs => by
    have hm : s ∈ gs.map (·.1) := by rw [hfst, hnames]; exact (mem_namesOf hnS.1 s).2 ⟨g, hs⟩
    obtain ⟨p, hp, rfl⟩ := List.mem_map.1 hm
    obtain ⟨j, hj⟩ := List.mem_iff_getElem?.1 hp
    refine ⟨j, p, hj, hp, rfl, ?_⟩
    unfold rhoC
    cases e : gs.find? (fun p => decide (fileOf (d.left dir) p.1 = some g)) with
    | none =>
      have := List.find?_eq_none.1 e p hp
      simp [hs] at this
    | some q =>
      have h1 := List.mem_of_find?_eq_some e
      have h2 := List.find?_some e
      have h3 : fileOf (d.left dir) q.1 = some g := by simpa using h2
      have h4 : q.1 = p.1 := hun _ _ g h3 hs
      obtain ⟨i, hi⟩ := List.mem_iff_getElem?.1 h1
      have h5 : (gs.map (·.1))[i]? = (gs.map (·.1))[j]? := by rw [List.getElem?_map, List.getElem?_map, hi, hj]; simp [h4]
      have hil : i < (gs.map (·.1)).length := by rw [List.length_map]; exact (List.getElem?_eq_some_iff.1 hi).1
      have h6 : i = j := (List.getElem?_inj hil hnf).1 h5
      rw [h6, hj] at hi
      cases hi
      rfl
  obtain ⟨r1, r2, r3, r4, r5, r6, r7, r8⟩ := newR_rest r gs
  exact {
    limit := r1.trans h.limit
    on := rfl
    n := r8.trans h.n
    fuse := rfl
    fault := rfl
    fail := fun x => absurd x (by show ¬ (0 : Int) ≤ -1; omega)
    changes := rfl
    synced := fun s => by
      show fileOf (newD (r.dir K) gs) s = (fileOf (d.left dir) s).map _
      cases e : fileOf (d.left dir) s with
      | none =>
        rw [newD_other hmE gs s (fun p hp e1 => ?_), hdir, e]
        · rfl
        · have : s ∈ namesOf (d.left dir) := by rw [← hnames, ← hfst]; exact List.mem_map.2 ⟨p, hp, e1.symm⟩
          obtain ⟨g, hg⟩ := (mem_namesOf hnS.1 s).1 this
          rw [e] at hg
          cases hg
      | some g =>
        obtain ⟨j, p, _, hp, rfl, e2⟩ := hat s g e
        rw [newD_mem hmE gs hnf p hp, Option.map_some, e2]
    files := fun g hg' => by
      rcases hg' with ⟨s, hs⟩ | ⟨c, h1, _⟩
      · replace hs : fileOf (d.left dir) s = some g := hs
        obtain ⟨j, p, hj, hp, e1, e2⟩ := hat s g hs
        show (newR r gs).files (rhoC rho (d.left dir) gs g) = (List.foldl (crashStep (d.left dir)) (d.files, 0) (crashList (namesOf (d.left dir)) ks)).1 g
        rw [e2, newR_mem r gs hnd p hp]
        obtain ⟨h1, g', x, h2, h3, h4⟩ := hg j p hj
        rw [e1, hdir, hs] at h2
        have h5 : rho g = g' := by simpa using h2
        rw [← h5, h.files g (hlive s g hs)] at h3
        rw [hnames] at h1
        have hjl : j < (namesOf (d.left dir)).length := (List.getElem?_eq_some_iff.1 h1).1
        have h6 := crashList_at (namesOf (d.left dir)) ks j hjl
        have h7 : (namesOf (d.left dir))[j] = p.1 := (List.getElem?_eq_some_iff.1 h1).2
        rw [h7] at h6
        rw [crash_file hun _ (d.files, 0) (by rw [crashList_fst]; exact nod_names hnS) _ (List.mem_of_getElem? h6) g x (by rw [e1]; exact hs) h3, h4]
      · cases h1
    inj := fun g g' hg1 hg2 e => by
      rcases hg1 with ⟨s, hs⟩ | ⟨c, h1, _⟩
      · rcases hg2 with ⟨s', hs'⟩ | ⟨c, h1, _⟩
        · replace hs : fileOf (d.left dir) s = some g := hs
          replace hs' : fileOf (d.left dir) s' = some g' := hs'
          obtain ⟨j, p, hj, hp, e1, e2⟩ := hat s g hs
          obtain ⟨j', p', hj', hp', e1', e2'⟩ := hat s' g' hs'
          have e3 : p.2.1 = p'.2.1 := by rw [← e2, ← e2']; exact e
          have h5 : (gs.map (·.2.1))[j]? = (gs.map (·.2.1))[j']? := by rw [List.getElem?_map, List.getElem?_map, hj, hj']; simp [e3]
          have hil : j < (gs.map (·.2.1)).length := by rw [List.length_map]; exact (List.getElem?_eq_some_iff.1 hj).1
          have h6 : j = j' := (List.getElem?_inj hil hnd).1 h5
          rw [h6, hj'] at hj
          cases hj
          rw [← e1, e1', hs'] at hs
          cases hs
          rfl
        · cases h1
      · cases h1
    names := fun s => rfl
    empty := hempty
    became := fun c hc => by cases hc
    dmap := hmS
    nmap := hmS
    rmap := newD_map hmE gs }
end Go.Proofs.Ytefjljdgdoklmaa
