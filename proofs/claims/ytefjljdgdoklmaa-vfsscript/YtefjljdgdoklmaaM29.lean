import Derived.Test.YtefjljdgdoklmaaM28
/-
  The code's accounts: Remove, Rename, SyncDir, Crash.
-/
namespace Go.Proofs.Ytefjljdgdoklmaa
open Go.RowKit Go.Maps Go.Sort
theorem live_change {d : Disk} {c : Chg} (hc : ∀ g, c.file = some g → d.live g) (n : Int) (k : Nat) : ((d.lose n).change c).live k ↔ d.live k := by
  show ((∃ s, fileOf d.synced s = some k) ∨ ∃ c', c' ∈ d.changes ++ [c] ∧ c'.file = some k) ↔ _
  constructor
  · rintro (h | ⟨c', h1, h2⟩)
    · exact .inl h
    · rcases List.mem_append.1 h1 with h1 | h1
      · exact .inr ⟨c', h1, h2⟩
      · rw [List.mem_singleton.1 h1] at h2
        exact hc k h2
  · rintro (h | ⟨c', h1, h2⟩)
    · exact .inl h
    · exact .inr ⟨c', List.mem_append_left _ h1, h2⟩
theorem Acc.removed {d : Disk} (h : Acc d) (hm : IsMap d.names) (hu : Uni d.names) {name : ByteArray} {g : Nat} {x : Fil} (hs : fileOf d.names name = some g) (hx : d.files g = some x) (hg : d.live g) : Acc ((d.lose x.bytes.length).change ⟨name, ⟨#[]⟩, none⟩) := by
  refine h.unname hx hg ⟨name, hs⟩ (live_change (fun _ e => by cases e) _) (fun k => ?_) rfl rfl rfl
  have e : ∀ s, fileOf ((d.lose x.bytes.length).change ⟨name, ⟨#[]⟩, none⟩).names s = if s = name then none else fileOf d.names s := fun s => fileOf_apply d.names hm ⟨name, ⟨#[]⟩, none⟩ s
  unfold named
  constructor
  · rintro ⟨s, h1⟩
    rw [e] at h1
    split at h1
    · cases h1
    · next e1 => exact ⟨⟨s, h1⟩, fun e2 => e1 (hu _ _ g (e2 ▸ h1) hs)⟩
  · rintro ⟨⟨s, h1⟩, h2⟩
    refine ⟨s, ?_⟩
    rw [e, if_neg (fun e1 => ?_)]
    · exact h1
    · rw [e1, hs] at h1
      cases h1
      exact h2 rfl
theorem Acc.renamed {d : Disk} (h : Acc d) (hm : IsMap d.names) (hu : Uni d.names) (hlive : ∀ s g, fileOf d.names s = some g → d.live g ∧ ∃ x, d.files g = some x) {s t : ByteArray} (hne : s ≠ t) {g : Nat} (hs : fileOf d.names s = some g) : Acc ((d.lose (d.lenAt t)).change ⟨s, t, some g⟩) := by
  have hg := (hlive s g hs).1
  have e : ∀ u, fileOf ((d.lose (d.lenAt t)).change ⟨s, t, some g⟩).names u = if u = t then some g else if u = s then none else fileOf d.names u := fun u => fileOf_apply d.names hm ⟨s, t, some g⟩ u
  have hl := live_change (d := d) (c := ⟨s, t, some g⟩) (fun k e => by cases e; exact hg) (d.lenAt t)
  cases et : fileOf d.names t with
  | none =>
    have h0 : d.lenAt t = 0 := by unfold Disk.lenAt; rw [et]
    obtain ⟨L, M, a1, a2, a3, a4, a5, a6⟩ := h
    refine ⟨L, M, a1, fun k => (a2 k).trans (hl k).symm, a3, a4, fun k => ?_, ?_⟩
    · rw [a5, hl]
      have : named ((d.lose (d.lenAt t)).change ⟨s, t, some g⟩).names k ↔ named d.names k := by
        unfold named
        constructor
        · rintro ⟨u, h1⟩
          rw [e] at h1
          split at h1
          · cases h1; exact ⟨s, hs⟩
          · split at h1
            · cases h1
            · exact ⟨u, h1⟩
        · rintro ⟨u, h1⟩
          by_cases e1 : u = s
          · rw [e1, hs] at h1
            cases h1
            exact ⟨t, by rw [e, if_pos rfl]⟩
          · refine ⟨u, ?_⟩
            rw [e, if_neg (fun e2 => ?_), if_neg e1]
            · exact h1
            · rw [e2, et] at h1; cases h1
      rw [this]
    · show d.lost + d.lenAt t = _
      rw [h0, Int.add_zero]
      exact a6
  | some g0 =>
    obtain ⟨hg0, x0, hx0⟩ := hlive t g0 et
    have h0 : d.lenAt t = x0.bytes.length := by unfold Disk.lenAt; rw [et]; simp only [hx0]
    have hgg : g ≠ g0 := fun e1 => hne (hu s t g hs (e1 ▸ et))
    refine h.unname hx0 hg0 ⟨t, et⟩ hl (fun k => ?_) rfl rfl (by show d.lost + d.lenAt t = _; rw [h0])
    unfold named
    constructor
    · rintro ⟨u, h1⟩
      rw [e] at h1
      split at h1
      · cases h1; exact ⟨⟨s, hs⟩, hgg⟩
      · next e1 =>
        split at h1
        · cases h1
        · exact ⟨⟨u, h1⟩, fun e2 => e1 (hu _ _ g0 (e2 ▸ h1) et)⟩
    · rintro ⟨⟨u, h1⟩, h2⟩
      by_cases e1 : u = s
      · rw [e1, hs] at h1
        cases h1
        exact ⟨t, by rw [e, if_pos rfl]⟩
      · refine ⟨u, ?_⟩
        rw [e, if_neg (fun e2 => ?_), if_neg e1]
        · exact h1
        · rw [e2, et] at h1; cases h1; exact h2 rfl
theorem total_append (F : Nat → Option Fil) (l m : List Nat) : total F (l ++ m) = total F l + total F m := by
  unfold total
  rw [List.map_append, List.sum_append]
theorem Acc.settled {d : Disk} (h : Acc d) (hnm : ∀ s, fileOf d.names s = fileOf (d.changes.foldl applyD d.synced) s) (hlive : ∀ s g, fileOf d.names s = some g → d.live g) : Acc d.settled := by
  obtain ⟨L, M, a1, a2, a3, a4, a5, a6⟩ := h
  have hl : ∀ k, d.settled.live k ↔ named d.names k := fun k => by
    show ((∃ s, fileOf (d.changes.foldl applyD d.synced) s = some k) ∨ ∃ c, c ∈ ([] : List Chg) ∧ c.file = some k) ↔ ∃ s, fileOf d.names s = some k
    simp only [hnm]
    simp
  classical
  have hp : L.Perm (L.filter (fun k => decide (named d.names k)) ++ M) := by
    refine (List.perm_ext_iff_of_nodup a1 (List.nodup_append.2 ⟨a1.filter _, a4, fun a ha b hb e => ?_⟩)).2 fun k => ?_
    · have h1 := (List.mem_filter.1 ha).2
      rw [e] at h1
      exact ((a5 b).1 hb).2 (by simpa using h1)
    · rw [List.mem_append, List.mem_filter, a5, a2]
      by_cases e : named d.names k <;> simp [e]
  refine ⟨L.filter (fun k => decide (named d.names k)), [], a1.filter _, fun k => ?_, ?_, List.nodup_nil, fun k => ?_, rfl⟩
  · rw [hl, List.mem_filter, a2]
    constructor
    · exact fun x => by simpa using x.2
    · rintro ⟨s, hs⟩
      exact ⟨hlive s k hs, by simpa using ⟨s, hs⟩⟩
  · show d.used - d.lost = ((total d.files _ : Nat) : Int)
    have := total_perm d.files hp
    rw [total_append] at this
    rw [a3, a6]
    omega
  · rw [hl]
    exact ⟨fun x => (by cases x), fun x => absurd x.1 x.2⟩
end Go.Proofs.Ytefjljdgdoklmaa

/-
  The code's accounts behind a crash.
-/
namespace Go.Proofs.Ytefjljdgdoklmaa
open Go.RowKit Go.Maps Go.Sort
theorem crash_total {S : DataW Unit} (hu : Uni S) (l : List (ByteArray × Int)) : ∀ (st : (Nat → Option Fil) × Int), (l.map (·.1)).Nodup → (∀ p ∈ l, ∃ g x, fileOf S p.1 = some g ∧ st.1 g = some x) →
    (l.foldl (crashStep S) st).2 = st.2 + ((total (l.foldl (crashStep S) st).1 (l.filterMap fun p => fileOf S p.1) : Nat) : Int) := by
  induction l with
  | nil => intro st _ _; simp [total]
  | cons a r ih =>
    intro st hnd hall
    obtain ⟨g, x, hg, hx⟩ := hall a (by simp)
    have hF := crash_file hu (a :: r) st hnd a (by simp) g x hg hx
    have hnd0 := hnd
    rw [List.map_cons, List.nodup_cons] at hnd
    have hne : ∀ q ∈ r, q.1 ≠ a.1 := fun q hq e => hnd.1 (List.mem_map.2 ⟨q, hq, e⟩)
    have hs : crashStep S st a = (fun k => if k = g then some (x.crash a.2) else st.1 k, st.2 + ((x.crash a.2).bytes.length : Int)) := crashStep_some S st a.1 a.2 g x hg hx
    rw [List.filterMap_cons_some (f := fun p : ByteArray × Int => fileOf S p.1) hg, total_cons, hF]
    rw [List.foldl_cons, ih _ hnd.2 (fun p hp => ?_)]
    · rw [hs]
      show st.2 + ((x.crash a.2).bytes.length : Int) + _ = st.2 + (((x.crash a.2).bytes.length + _ : Nat) : Int)
      omega
    · obtain ⟨k, y, h1, h2⟩ := hall p (by simp [hp])
      refine ⟨k, y, h1, ?_⟩
      rw [hs]
      show (if k = g then some (x.crash a.2) else st.1 k) = some y
      rw [if_neg (fun e : k = g => hne p hp (hu _ _ g (e ▸ h1) hg)), h2]
theorem Acc.crashed {d : Disk} (hu : d.uni) (nd : Nod d.synced) (hm : IsMap d.synced) (hf : ∀ g, d.live g → ∃ x, d.files g = some x) (dir : Int) (ks : List Int) : Acc (d.crashed dir ks) := by
  have hun : Uni (d.left dir) := left_eq d dir ▸ hu _
  have hnS : Nod (d.left dir) := by rw [left_eq]; exact Nod.fold _ nd
  have hall : ∀ p ∈ crashList (namesOf (d.left dir)) ks, ∃ g x, fileOf (d.left dir) p.1 = some g ∧ d.files g = some x := fun p hp => by
    have h1 : p.1 ∈ namesOf (d.left dir) := by rw [← crashList_fst (namesOf (d.left dir)) ks]; exact List.mem_map.2 ⟨p, hp, rfl⟩
    obtain ⟨g, hg⟩ := (mem_namesOf hnS.1 p.1).1 h1
    have hl : d.live g := by
      rw [left_eq] at hg
      rcases fileOf_folded _ hm hg with hs | ⟨c, h1, h2⟩
      · exact .inl ⟨_, hs⟩
      · exact .inr ⟨c, List.mem_of_mem_take h1, h2⟩
    obtain ⟨x, hx⟩ := hf g hl
    exact ⟨g, x, hg, hx⟩
  have hnd : ((crashList (namesOf (d.left dir)) ks).map (·.1)).Nodup := by rw [crashList_fst]; exact nod_names hnS
  have hl : ∀ k, (d.crashed dir ks).live k ↔ named (d.left dir) k := fun k => by
    show ((∃ s, fileOf (d.left dir) s = some k) ∨ ∃ c, c ∈ ([] : List Chg) ∧ c.file = some k) ↔ ∃ s, fileOf (d.left dir) s = some k
    simp
  refine ⟨(crashList (namesOf (d.left dir)) ks).filterMap (fun p => fileOf (d.left dir) p.1), [], ?_, fun k => ?_, ?_, List.nodup_nil, fun k => ?_, rfl⟩
  · refine List.pairwise_filterMap.2 ((List.pairwise_map.1 hnd).imp fun {a b} hne k h1 k' h2 e => hne ?_)
    exact hun _ _ k h1 (e ▸ h2)
  · rw [hl, List.mem_filterMap]
    constructor
    · rintro ⟨p, _, hp⟩
      exact ⟨p.1, hp⟩
    · rintro ⟨s, hs⟩
      have h1 : s ∈ (crashList (namesOf (d.left dir)) ks).map (·.1) := by rw [crashList_fst]; exact (mem_namesOf hnS.1 s).2 ⟨k, hs⟩
      obtain ⟨p, hp, rfl⟩ := List.mem_map.1 h1
      exact ⟨p, hp, hs⟩
  · have := crash_total hun (crashList (namesOf (d.left dir)) ks) (d.files, 0) hnd hall
    rw [Int.zero_add] at this
    exact this
  · rw [hl]
    exact ⟨fun x => (by cases x), fun x => absurd x.1 x.2⟩
end Go.Proofs.Ytefjljdgdoklmaa

/-
  The code's accounts: their bounds.
-/
namespace Go.Proofs.Ytefjljdgdoklmaa
open Go.RowKit Go.Maps Go.Sort
theorem total_sub (F : Nat → Option Fil) {M L : List Nat} (hM : M.Nodup) (hL : L.Nodup) (h : ∀ g, g ∈ M → g ∈ L) : total F M ≤ total F L := by
  have hp : L.Perm (M ++ L.filter (fun k => decide (k ∉ M))) := by
    refine (List.perm_ext_iff_of_nodup hL (List.nodup_append.2 ⟨hM, hL.filter _, fun a ha b hb e => ?_⟩)).2 fun k => ?_
    · have h1 := (List.mem_filter.1 hb).2
      rw [← e] at h1
      exact absurd ha (by simpa using h1)
    · rw [List.mem_append, List.mem_filter]
      by_cases e : k ∈ M
      · simp [e, h k e]
      · simp [e]
  rw [total_perm F hp, total_append]
  omega
theorem total_le {F G : Nat → Option Fil} : ∀ (L : List Nat), (∀ g, g ∈ L → lenF (F g) ≤ lenF (G g)) → total F L ≤ total G L
  | [], _ => by simp [total]
  | a :: r, h => by
    rw [total_cons, total_cons]
    have h1 := h a (by simp)
    have h2 := total_le r (fun g hg => h g (by simp [hg]))
    omega
theorem Acc.order {d : Disk} (h : Acc d) : 0 ≤ d.lost ∧ d.lost ≤ d.used := by
  obtain ⟨L, M, a1, a2, a3, a4, a5, a6⟩ := h
  have := total_sub d.files a4 a1 (fun g hg => (a2 g).2 ((a5 g).1 hg).1)
  rw [a3, a6]
  omega
theorem crash_less {S : DataW Unit} (l : List (ByteArray × Int)) : ∀ (st : (Nat → Option Fil) × Int) (g : Nat), lenF ((l.foldl (crashStep S) st).1 g) ≤ lenF (st.1 g) := by
  induction l with
  | nil => exact fun _ _ => Nat.le_refl _
  | cons p r ih =>
    intro st g
    rw [List.foldl_cons]
    refine Nat.le_trans (ih _ g) ?_
    unfold crashStep
    cases e : fileOf S p.1 with
    | none => exact Nat.le_refl _
    | some k =>
      simp only
      cases e2 : st.1 k with
      | none => exact Nat.le_refl _
      | some x =>
        show lenF (if g = k then some (x.crash p.2) else st.1 g) ≤ _
        by_cases e3 : g = k
        · rw [if_pos e3, e3, e2]
          show (x.bytes.take _).length ≤ x.bytes.length
          rw [List.length_take]
          omega
        · rw [if_neg e3]
          exact Nat.le_refl _
/-- A crash makes nothing grow. -/
theorem Acc.crash_used {d : Disk} (h : Acc d) (hm : IsMap d.synced) (dir : Int) (ks : List Int) (hc : Acc (d.crashed dir ks)) : (d.crashed dir ks).used ≤ d.used := by
  obtain ⟨L, M, a1, a2, a3, _⟩ := h
  obtain ⟨L', M', b1, b2, b3, _⟩ := hc
  rw [a3, b3]
  have h1 : total (d.crashed dir ks).files L' ≤ total d.files L' := total_le L' fun g _ => crash_less _ (d.files, 0) g
  have h2 : total d.files L' ≤ total d.files L := total_sub _ b1 a1 fun g hg => (a2 g).2 (by
    rcases (b2 g).1 hg with ⟨s, hs⟩ | ⟨c, h1, _⟩
    · replace hs : fileOf (d.left dir) s = some g := hs
      rw [left_eq] at hs
      rcases fileOf_folded _ hm hs with hs | ⟨c, h1, h2⟩
      · exact .inl ⟨_, hs⟩
      · exact .inr ⟨c, List.mem_of_mem_take h1, h2⟩
    · cases h1)
  omega
end Go.Proofs.Ytefjljdgdoklmaa
