import Derived.Test.YtefjljdgdoklmaaM21
import Derived.Test.YtefjljdgdoklmaaM20
/-
  The two file systems side by side: how many bytes are used.
-/
namespace Go.Proofs.Ytefjljdgdoklmaa
open Go.RowKit Go.Maps Go.Sort
/-- What is live is what one of the directories that a crash could leave tells of. -/
theorem live_iff {d : Disk} (hm : IsMap d.synced) (g : Nat) : d.live g ↔ ∃ j, j < d.changes.length + 1 ∧ ∃ s, fileOf (d.dirAt j) s = some g := by
  constructor
  · rintro (⟨s, hs⟩ | ⟨c, hc, hg⟩)
    · exact ⟨0, by omega, s, hs⟩
    · obtain ⟨i, hi⟩ := List.mem_iff_getElem?.1 hc
      have hl := (List.getElem?_eq_some_iff.1 hi).1
      have he := (List.getElem?_eq_some_iff.1 hi).2
      refine ⟨i + 1, by omega, c.became, ?_⟩
      unfold Disk.dirAt
      rw [List.take_succ_eq_append_getElem hl, List.foldl_append, List.foldl_cons, List.foldl_nil, he, fileOf_apply _ (isMap_fold _ hm)]
      obtain ⟨went, became, file⟩ := c
      cases hg
      exact if_pos rfl
  · rintro ⟨j, _, s, hs⟩
    rcases fileOf_folded (d.changes.take j) hm hs with hs | ⟨c, h1, h2⟩
    · exact .inl ⟨s, hs⟩
    · exact .inr ⟨c, List.mem_of_mem_take h1, h2⟩
theorem total_perm (F : Nat → Option Fil) {l l' : List Nat} (h : l.Perm l') : total F l = total F l' := by
  unfold total
  exact (h.map _).sum_nat
theorem total_map {F G : Nat → Option Fil} {rho : Nat → Nat} (L : List Nat) (h : ∀ g, g ∈ L → F (rho g) = G g) : total F (L.map rho) = total G L := by
  unfold total
  rw [List.map_map]
  congr 1
  exact List.map_congr_left fun g hg => by simp only [Function.comp_apply, h g hg]
/-- The document counts what the code counts. -/
theorem Sim.tells {rho : Nat → Nat} {d : Disk} {r : RDisk} (h : Sim rho d r) (k : Nat) : r.tells (r.changes.length + 1) k ↔ ∃ g, d.live g ∧ rho g = k := by
  have hl : r.changes.length = d.changes.length := by rw [h.changes, List.length_map]
  unfold RDisk.tells
  rw [hl]
  constructor
  · rintro ⟨j, hj, s, hs⟩
    rw [h.dir] at hs
    cases e : fileOf (d.dirAt j) s with
    | none => rw [e] at hs; cases hs
    | some g =>
      rw [e] at hs
      exact ⟨g, (live_iff h.dmap g).2 ⟨j, hj, s, e⟩, by simpa using hs⟩
  · rintro ⟨g, hg, rfl⟩
    obtain ⟨j, hj, s, hs⟩ := (live_iff h.dmap g).1 hg
    exact ⟨j, hj, s, by rw [h.dir, hs]; rfl⟩
theorem Sim.total {rho : Nat → Nat} {d : Disk} {r : RDisk} (h : Sim rho d r) {ls L : List Nat} (hr : r.told ls) (hn : L.Nodup) (hL : ∀ g, g ∈ L ↔ d.live g) : Ytefjljdgdoklmaa.total r.files ls = Ytefjljdgdoklmaa.total d.files L := by
  rw [← total_map (F := r.files) (rho := rho) L (fun g hg => h.files g ((hL g).1 hg))]
  refine total_perm _ ((List.perm_ext_iff_of_nodup hr.1 ?_).2 fun k => ?_)
  · exact List.pairwise_map.2 (hn.imp_of_mem fun {a b} ha hb hne e => hne (h.inj a b ((hL a).1 ha) ((hL b).1 hb) e))
  · rw [hr.2 k, h.tells k]
    constructor
    · rintro ⟨g, h1, h2⟩
      exact List.mem_map.2 ⟨g, (hL g).2 h1, h2⟩
    · intro hk
      obtain ⟨g, h1, h2⟩ := List.mem_map.1 hk
      exact ⟨g, (hL g).1 h1, h2⟩
/-- The code's accounts: 'used' is what the live files hold, 'lost' what those of them hold that have no name now. -/
def named (D : DataW Unit) (g : Nat) : Prop := ∃ s, fileOf D s = some g
def Acc (d : Disk) : Prop := ∃ L M : List Nat, L.Nodup ∧ (∀ g, g ∈ L ↔ d.live g) ∧ d.used = (total d.files L : Nat) ∧ M.Nodup ∧ (∀ g, g ∈ M ↔ d.live g ∧ ¬ named d.names g) ∧ d.lost = (total d.files M : Nat)
theorem Acc.used {rho : Nat → Nat} {d : Disk} {r : RDisk} (ha : Acc d) (h : Sim rho d r) {ls : List Nat} (hr : r.told ls) : ((total r.files ls : Nat) : Int) = d.used := by
  obtain ⟨L, M, h1, h2, h3, _⟩ := ha
  rw [h.total hr h1 h2, h3]
end Go.Proofs.Ytefjljdgdoklmaa

/-
  The code's accounts, kept by each operation.
-/
namespace Go.Proofs.Ytefjljdgdoklmaa
open Go.RowKit Go.Maps Go.Sort
theorem Acc.same {d d' : Disk} (h : Acc d) (h1 : d'.used = d.used) (h2 : d'.lost = d.lost) (h3 : d'.synced = d.synced) (h4 : d'.changes = d.changes) (h5 : d'.names = d.names) (h6 : ∀ L, total d'.files L = total d.files L) : Acc d' := by
  obtain ⟨L, M, a1, a2, a3, a4, a5, a6⟩ := h
  have hl : ∀ g, d'.live g ↔ d.live g := fun g => by unfold Disk.live; rw [h3, h4]
  exact ⟨L, M, a1, fun g => (a2 g).trans (hl g).symm, by rw [h1, h6]; exact a3, a4, fun g => by rw [a5 g, hl g, h5], by rw [h2, h6]; exact a6⟩
def lenF : Option Fil → Nat
  | some x => x.bytes.length
  | none => 0
theorem total_cons (F : Nat → Option Fil) (a : Nat) (r : List Nat) : total F (a :: r) = lenF (F a) + total F r := by
  unfold total
  rw [List.map_cons, List.sum_cons]
  cases F a <;> rfl
theorem total_set_not {F : Nat → Option Fil} {L : List Nat} {g : Nat} (y : Fil) (h : g ∉ L) : total (fun k => if k = g then some y else F k) L = total F L := by
  unfold total
  congr 1
  refine List.map_congr_left fun k hk => ?_
  have : k ≠ g := fun e => h (e ▸ hk)
  simp only [if_neg this]
theorem total_set {F : Nat → Option Fil} {g : Nat} {x : Fil} (y : Fil) (hx : F g = some x) : ∀ {L : List Nat}, L.Nodup → g ∈ L → total (fun k => if k = g then some y else F k) L + x.bytes.length = total F L + y.bytes.length
  | [], _, h => by cases h
  | a :: r, hn, h => by
    rw [List.nodup_cons] at hn
    rw [total_cons, total_cons]
    by_cases e : a = g
    · subst e
      rw [total_set_not y hn.1, hx, if_pos rfl]
      show y.bytes.length + _ + _ = x.bytes.length + _ + _
      omega
    · have hr : g ∈ r := (List.mem_cons.1 h).resolve_left (fun x => e x.symm)
      have := total_set y hx hn.2 hr
      rw [if_neg e]
      omega
theorem Acc.setF {d : Disk} (h : Acc d) {g : Nat} {x y : Fil} (hx : d.files g = some x) (hl : y.bytes.length = x.bytes.length) : Acc (d.setF g y) := by
  refine h.same rfl rfl rfl rfl rfl fun L => ?_
  show total (fun k => if k = g then some y else d.files k) L = total d.files L
  unfold total
  congr 1
  refine List.map_congr_left fun k _ => ?_
  by_cases e : k = g
  · subst e
    simp only [hx, if_true, hl]
  · simp only [if_neg e]
theorem Acc.put {d : Disk} (h : Acc d) {g : Nat} {x : Fil} (hx : d.files g = some x) (hg : d.live g) (hn : named d.names g) (news : List (BitVec 8)) : Acc (d.put g x news) := by
  obtain ⟨L, M, a1, a2, a3, a4, a5, a6⟩ := h
  refine ⟨L, M, a1, a2, ?_, a4, a5, ?_⟩
  · show d.used + news.length = ((total (fun k => if k = g then some ⟨x.bytes ++ news, x.synced⟩ else d.files k) L : Nat) : Int)
    have := total_set ⟨x.bytes ++ news, x.synced⟩ hx a1 ((a2 g).2 hg)
    rw [List.length_append] at this
    rw [a3]
    omega
  · show d.lost = ((total (fun k => if k = g then some ⟨x.bytes ++ news, x.synced⟩ else d.files k) M : Nat) : Int)
    rw [total_set_not _ (fun hm => ((a5 g).1 hm).2 hn)]
    exact a6
theorem Acc.add {d : Disk} (h : Acc d) (hm : IsMap d.names) (h0 : fileOf d.names noName = none) {name : ByteArray} (hf : fileOf d.names name = none) {g : Nat} (hg : ¬ d.live g) : Acc (d.add name g) := by
  obtain ⟨L, M, a1, a2, a3, a4, a5, a6⟩ := h
  have hgL : g ∉ L := fun x => hg ((a2 g).1 x)
  have hgM : g ∉ M := fun x => hg ((a5 g).1 x).1
  have hlive : ∀ k, (d.add name g).live k ↔ k = g ∨ d.live k := fun k => by
    show ((∃ s, fileOf d.synced s = some k) ∨ ∃ c, c ∈ d.changes ++ [(⟨⟨#[]⟩, name, some g⟩ : Chg)] ∧ c.file = some k) ↔ _
    constructor
    · rintro (h | ⟨c, h1, h2⟩)
      · exact .inr (.inl h)
      · rcases List.mem_append.1 h1 with h1 | h1
        · exact .inr (.inr ⟨c, h1, h2⟩)
        · obtain rfl : c = ⟨⟨#[]⟩, name, some g⟩ := by simpa using h1
          exact .inl (by simpa using h2.symm)
    · rintro (rfl | h | ⟨c, h1, h2⟩)
      · exact .inr ⟨⟨⟨#[]⟩, name, some k⟩, List.mem_append_right _ (List.mem_singleton.2 rfl), rfl⟩
      · exact .inl h
      · exact .inr ⟨c, List.mem_append_left _ h1, h2⟩
  have hnm : ∀ k, named (d.add name g).names k ↔ k = g ∨ named d.names k := fun k => by
    have e : ∀ s, fileOf (d.add name g).names s = if s = name then some g else if s = noName then none else fileOf d.names s := fun s => fileOf_apply d.names hm ⟨⟨#[]⟩, name, some g⟩ s
    unfold named
    constructor
    · rintro ⟨s, hs⟩
      rw [e] at hs
      split at hs
      · cases hs; exact .inl rfl
      · split at hs
        · cases hs
        · exact .inr ⟨s, hs⟩
    · rintro (rfl | ⟨s, hs⟩)
      · exact ⟨name, by rw [e, if_pos rfl]⟩
      · refine ⟨s, ?_⟩
        rw [e, if_neg (fun x => ?_), if_neg (fun x => ?_)]
        · exact hs
        · rw [x, h0] at hs; cases hs
        · rw [x, hf] at hs; cases hs
  refine ⟨g :: L, M, List.nodup_cons.2 ⟨hgL, a1⟩, fun k => ?_, ?_, a4, fun k => ?_, ?_⟩
  · rw [hlive, List.mem_cons, a2]
  · show d.used = ((total (fun k => if k = g then some ⟨[], 0⟩ else d.files k) (g :: L) : Nat) : Int)
    have e1 : total (fun k => if k = g then some ⟨[], 0⟩ else d.files k) (g :: L) = total (fun k => if k = g then some ⟨[], 0⟩ else d.files k) L := by simp [total]
    rw [e1, total_set_not _ hgL]
    exact a3
  · rw [a5, hlive, hnm]
    constructor
    · rintro ⟨h1, h2⟩
      exact ⟨.inr h1, fun x => x.elim (fun e => hg (e ▸ h1)) h2⟩
    · rintro ⟨h1, h2⟩
      exact ⟨h1.resolve_left (fun e => h2 (.inl e)), fun x => h2 (.inr x)⟩
  · show d.lost = ((total (fun k => if k = g then some ⟨[], 0⟩ else d.files k) M : Nat) : Int)
    rw [total_set_not _ hgM]
    exact a6
/-- A file loses its name: Remove, and Rename onto a file. -/
theorem Acc.unname {d d' : Disk} (h : Acc d) {g : Nat} {x : Fil} (hx : d.files g = some x) (hg : d.live g) (hn : named d.names g) (hl : ∀ k, d'.live k ↔ d.live k) (hnm : ∀ k, named d'.names k ↔ named d.names k ∧ k ≠ g) (hf : d'.files = d.files) (hu : d'.used = d.used) (hlo : d'.lost = d.lost + x.bytes.length) : Acc d' := by
  obtain ⟨L, M, a1, a2, a3, a4, a5, a6⟩ := h
  refine ⟨L, g :: M, a1, fun k => (a2 k).trans (hl k).symm, by rw [hu, hf]; exact a3, List.nodup_cons.2 ⟨fun hm => ((a5 g).1 hm).2 hn, a4⟩, fun k => ?_, ?_⟩
  · rw [List.mem_cons, a5, hl, hnm]
    constructor
    · rintro (rfl | ⟨h1, h2⟩)
      · exact ⟨hg, fun x => x.2 rfl⟩
      · exact ⟨h1, fun x => h2 x.1⟩
    · rintro ⟨h1, h2⟩
      by_cases e : k = g
      · exact .inl e
      · exact .inr ⟨h1, fun x => h2 ⟨x, e⟩⟩
  · rw [hlo, hf, a6]
    have : total d.files (g :: M) = x.bytes.length + total d.files M := by simp [total, hx]
    rw [this]
    omega
end Go.Proofs.Ytefjljdgdoklmaa

/-
  The code's accounts: Remove, Rename, SyncDir, Crash.
-/
namespace Go.Proofs.Ytefjljdgdoklmaa
open Go.RowKit Go.Maps Go.Sort
theorem live_change {d : Disk} {c : Chg} (hc : ∀ g, c.file = some g → d.live g) (n : Int) (k : Nat) : ((d.lose n).change c).live k ↔ d.live k := by
  show ((∃ s, fileOf d.synced s = some k) ∨ ∃ c', c' ∈ d.changes ++ [c] ∧ c'.file = some k) ↔ _
  constructor
  · rintro (h | ⟨c', h1, h2⟩)
    · exact .inl h
    · rcases List.mem_append.1 h1 with h1 | h1
      · exact .inr ⟨c', h1, h2⟩
      · rw [List.mem_singleton.1 h1] at h2
        exact hc k h2
  · rintro (h | ⟨c', h1, h2⟩)
    · exact .inl h
    · exact .inr ⟨c', List.mem_append_left _ h1, h2⟩
theorem Acc.removed {d : Disk} (h : Acc d) (hm : IsMap d.names) (hu : Uni d.names) {name : ByteArray} {g : Nat} {x : Fil} (hs : fileOf d.names name = some g) (hx : d.files g = some x) (hg : d.live g) : Acc ((d.lose x.bytes.length).change ⟨name, ⟨#[]⟩, none⟩) := by
  refine h.unname hx hg ⟨name, hs⟩ (live_change (fun _ e => by cases e) _) (fun k => ?_) rfl rfl rfl
  have e : ∀ s, fileOf ((d.lose x.bytes.length).change ⟨name, ⟨#[]⟩, none⟩).names s = if s = name then none else fileOf d.names s := fun s => fileOf_apply d.names hm ⟨name, ⟨#[]⟩, none⟩ s
  unfold named
  constructor
  · rintro ⟨s, h1⟩
    rw [e] at h1
    split at h1
    · cases h1
    · next e1 => exact ⟨⟨s, h1⟩, fun e2 => e1 (hu _ _ g (e2 ▸ h1) hs)⟩
  · rintro ⟨⟨s, h1⟩, h2⟩
    refine ⟨s, ?_⟩
    rw [e, if_neg (fun e1 => ?_)]
    · exact h1
    · rw [e1, hs] at h1
      cases h1
      exact h2 rfl
theorem Acc.renamed {d : Disk} (h : Acc d) (hm : IsMap d.names) (hu : Uni d.names) (hlive : ∀ s g, fileOf d.names s = some g → d.live g ∧ ∃ x, d.files g = some x) {s t : ByteArray} (hne : s ≠ t) {g : Nat} (hs : fileOf d.names s = some g) : Acc ((d.lose (d.lenAt t)).change ⟨s, t, some g⟩) := by
  have hg := (hlive s g hs).1
  have e : ∀ u, fileOf ((d.lose (d.lenAt t)).change ⟨s, t, some g⟩).names u = if u = t then some g else if u = s then none else fileOf d.names u := fun u => fileOf_apply d.names hm ⟨s, t, some g⟩ u
  have hl := live_change (d := d) (c := ⟨s, t, some g⟩) (fun k e => by cases e; exact hg) (d.lenAt t)
  cases et : fileOf d.names t with
  | none =>
    have h0 : d.lenAt t = 0 := by unfold Disk.lenAt; rw [et]
    obtain ⟨L, M, a1, a2, a3, a4, a5, a6⟩ := h
    refine ⟨L, M, a1, fun k => (a2 k).trans (hl k).symm, a3, a4, fun k => ?_, ?_⟩
    · rw [a5, hl]
      have : named ((d.lose (d.lenAt t)).change ⟨s, t, some g⟩).names k ↔ named d.names k := by
        unfold named
        constructor
        · rintro ⟨u, h1⟩
          rw [e] at h1
          split at h1
          · cases h1; exact ⟨s, hs⟩
          · split at h1
            · cases h1
            · exact ⟨u, h1⟩
        · rintro ⟨u, h1⟩
          by_cases e1 : u = s
          · rw [e1, hs] at h1
            cases h1
            exact ⟨t, by rw [e, if_pos rfl]⟩
          · refine ⟨u, ?_⟩
            rw [e, if_neg (fun e2 => ?_), if_neg e1]
            · exact h1
            · rw [e2, et] at h1; cases h1
      rw [this]
    · show d.lost + d.lenAt t = _
      rw [h0, Int.add_zero]
      exact a6
  | some g0 =>
    obtain ⟨hg0, x0, hx0⟩ := hlive t g0 et
    have h0 : d.lenAt t = x0.bytes.length := by unfold Disk.lenAt; rw [et]; simp only [hx0]
    have hgg : g ≠ g0 := fun e1 => hne (hu s t g hs (e1 ▸ et))
    refine h.unname hx0 hg0 ⟨t, et⟩ hl (fun k => ?_) rfl rfl (by show d.lost + d.lenAt t = _; rw [h0])
    unfold named
    constructor
    · rintro ⟨u, h1⟩
      rw [e] at h1
      split at h1
      · cases h1; exact ⟨⟨s, hs⟩, hgg⟩
      · next e1 =>
        split at h1
        · cases h1
        · exact ⟨⟨u, h1⟩, fun e2 => e1 (hu _ _ g0 (e2 ▸ h1) et)⟩
    · rintro ⟨⟨u, h1⟩, h2⟩
      by_cases e1 : u = s
      · rw [e1, hs] at h1
        cases h1
        exact ⟨t, by rw [e, if_pos rfl]⟩
      · refine ⟨u, ?_⟩
        rw [e, if_neg (fun e2 => ?_), if_neg e1]
        · exact h1
        · rw [e2, et] at h1; cases h1; exact h2 rfl
theorem total_append (F : Nat → Option Fil) (l m : List Nat) : total F (l ++ m) = total F l + total F m := by
  unfold total
  rw [List.map_append, List.sum_append]
theorem Acc.settled {d : Disk} (h : Acc d) (hnm : ∀ s, fileOf d.names s = fileOf (d.changes.foldl applyD d.synced) s) (hlive : ∀ s g, fileOf d.names s = some g → d.live g) : Acc d.settled := by
  obtain ⟨L, M, a1, a2, a3, a4, a5, a6⟩ := h
  have hl : ∀ k, d.settled.live k ↔ named d.names k := fun k => by
    show ((∃ s, fileOf (d.changes.foldl applyD d.synced) s = some k) ∨ ∃ c, c ∈ ([] : List Chg) ∧ c.file = some k) ↔ ∃ s, fileOf d.names s = some k
    simp only [hnm]
    simp
  classical
  have hp : L.Perm (L.filter (fun k => decide (named d.names k)) ++ M) := by
    refine (List.perm_ext_iff_of_nodup a1 (List.nodup_append.2 ⟨a1.filter _, a4, fun a ha b hb e => ?_⟩)).2 fun k => ?_
    · have h1 := (List.mem_filter.1 ha).2
      rw [e] at h1
      exact ((a5 b).1 hb).2 (by simpa using h1)
    · rw [List.mem_append, List.mem_filter, a5, a2]
      by_cases e : named d.names k <;> simp [e]
  refine ⟨L.filter (fun k => decide (named d.names k)), [], a1.filter _, fun k => ?_, ?_, List.nodup_nil, fun k => ?_, rfl⟩
  · rw [hl, List.mem_filter, a2]
    constructor
    · exact fun x => by simpa using x.2
    · rintro ⟨s, hs⟩
      exact ⟨hlive s k hs, by simpa using ⟨s, hs⟩⟩
  · show d.used - d.lost = ((total d.files _ : Nat) : Int)
    have := total_perm d.files hp
    rw [total_append] at this
    rw [a3, a6]
    omega
  · rw [hl]
    exact ⟨fun x => (by cases x), fun x => absurd x.1 x.2⟩
end Go.Proofs.Ytefjljdgdoklmaa

/-
  The code's accounts behind a crash.
-/
namespace Go.Proofs.Ytefjljdgdoklmaa
open Go.RowKit Go.Maps Go.Sort
theorem crash_total {S : DataW Unit} (hu : Uni S) (l : List (ByteArray × Int)) : ∀ (st : (Nat → Option Fil) × Int), (l.map (·.1)).Nodup → (∀ p ∈ l, ∃ g x, fileOf S p.1 = some g ∧ st.1 g = some x) →
    (l.foldl (crashStep S) st).2 = st.2 + ((total (l.foldl (crashStep S) st).1 (l.filterMap fun p => fileOf S p.1) : Nat) : Int) := by
  induction l with
  | nil => intro st _ _; simp [total]
  | cons a r ih =>
    intro st hnd hall
    obtain ⟨g, x, hg, hx⟩ := hall a (by simp)
    have hF := crash_file hu (a :: r) st hnd a (by simp) g x hg hx
    have hnd0 := hnd
    rw [List.map_cons, List.nodup_cons] at hnd
    have hne : ∀ q ∈ r, q.1 ≠ a.1 := fun q hq e => hnd.1 (List.mem_map.2 ⟨q, hq, e⟩)
    have hs : crashStep S st a = (fun k => if k = g then some (x.crash a.2) else st.1 k, st.2 + ((x.crash a.2).bytes.length : Int)) := crashStep_some S st a.1 a.2 g x hg hx
    rw [List.filterMap_cons_some (f := fun p : ByteArray × Int => fileOf S p.1) hg, total_cons, hF]
    rw [List.foldl_cons, ih _ hnd.2 (fun p hp => ?_)]
    · rw [hs]
      show st.2 + ((x.crash a.2).bytes.length : Int) + _ = st.2 + (((x.crash a.2).bytes.length + _ : Nat) : Int)
      omega
    · obtain ⟨k, y, h1, h2⟩ := hall p (by simp [hp])
      refine ⟨k, y, h1, ?_⟩
      rw [hs]
      show (if k = g then some (x.crash a.2) else st.1 k) = some y
      rw [if_neg (fun e : k = g => hne p hp (hu _ _ g (e ▸ h1) hg)), h2]
theorem Acc.crashed {d : Disk} (hu : d.uni) (nd : Nod d.synced) (hm : IsMap d.synced) (hf : ∀ g, d.live g → ∃ x, d.files g = some x) (dir : Int) (ks : List Int) : Acc (d.crashed dir ks) := by
  have hun : Uni (d.left dir) := left_eq d dir ▸ hu _
  have hnS : Nod (d.left dir) := by rw [left_eq]; exact Nod.fold _ nd
  have hall : ∀ p ∈ crashList (namesOf (d.left dir)) ks, ∃ g x, fileOf (d.left dir) p.1 = some g ∧ d.files g = some x := fun p hp => by
    have h1 : p.1 ∈ namesOf (d.left dir) := by rw [← crashList_fst (namesOf (d.left dir)) ks]; exact List.mem_map.2 ⟨p, hp, rfl⟩
    obtain ⟨g, hg⟩ := (mem_namesOf hnS.1 p.1).1 h1
    have hl : d.live g := by
      rw [left_eq] at hg
      rcases fileOf_folded _ hm hg with hs | ⟨c, h1, h2⟩
      · exact .inl ⟨_, hs⟩
      · exact .inr ⟨c, List.mem_of_mem_take h1, h2⟩
    obtain ⟨x, hx⟩ := hf g hl
    exact ⟨g, x, hg, hx⟩
  have hnd : ((crashList (namesOf (d.left dir)) ks).map (·.1)).Nodup := by rw [crashList_fst]; exact nod_names hnS
  have hl : ∀ k, (d.crashed dir ks).live k ↔ named (d.left dir) k := fun k => by
    show ((∃ s, fileOf (d.left dir) s = some k) ∨ ∃ c, c ∈ ([] : List Chg) ∧ c.file = some k) ↔ ∃ s, fileOf (d.left dir) s = some k
    simp
  refine ⟨(crashList (namesOf (d.left dir)) ks).filterMap (fun p => fileOf (d.left dir) p.1), [], ?_, fun k => ?_, ?_, List.nodup_nil, fun k => ?_, rfl⟩
  · refine List.pairwise_filterMap.2 ((List.pairwise_map.1 hnd).imp fun {a b} hne k h1 k' h2 e => hne ?_)
    exact hun _ _ k h1 (e ▸ h2)
  · rw [hl, List.mem_filterMap]
    constructor
    · rintro ⟨p, _, hp⟩
      exact ⟨p.1, hp⟩
    · rintro ⟨s, hs⟩
      have h1 : s ∈ (crashList (namesOf (d.left dir)) ks).map (·.1) := by rw [crashList_fst]; exact (mem_namesOf hnS.1 s).2 ⟨k, hs⟩
      obtain ⟨p, hp, rfl⟩ := List.mem_map.1 h1
      exact ⟨p, hp, hs⟩
  · have := crash_total hun (crashList (namesOf (d.left dir)) ks) (d.files, 0) hnd hall
    rw [Int.zero_add] at this
    exact this
  · rw [hl]
    exact ⟨fun x => (by cases x), fun x => absurd x.1 x.2⟩
end Go.Proofs.Ytefjljdgdoklmaa

/-
  The code's accounts: their bounds.
-/
namespace Go.Proofs.Ytefjljdgdoklmaa
open Go.RowKit Go.Maps Go.Sort
theorem total_sub (F : Nat → Option Fil) {M L : List Nat} (hM : M.Nodup) (hL : L.Nodup) (h : ∀ g, g ∈ M → g ∈ L) : total F M ≤ total F L := by
  have hp : L.Perm (M ++ L.filter (fun k => decide (k ∉ M))) := by
    refine (List.perm_ext_iff_of_nodup hL (List.nodup_append.2 ⟨hM, hL.filter _, fun a ha b hb e => ?_⟩)).2 fun k => ?_
    · have h1 := (List.mem_filter.1 hb).2
      rw [← e] at h1
      exact absurd ha (by simpa using h1)
    · rw [List.mem_append, List.mem_filter]
      by_cases e : k ∈ M
      · simp [e, h k e]
      · simp [e]
  rw [total_perm F hp, total_append]
  omega
theorem total_le {F G : Nat → Option Fil} : ∀ (L : List Nat), (∀ g, g ∈ L → lenF (F g) ≤ lenF (G g)) → total F L ≤ total G L
  | [], _ => by simp [total]
  | a :: r, h => by
    rw [total_cons, total_cons]
    have h1 := h a (by simp)
    have h2 := total_le r (fun g hg => h g (by simp [hg]))
    omega
theorem Acc.order {d : Disk} (h : Acc d) : 0 ≤ d.lost ∧ d.lost ≤ d.used := by
  obtain ⟨L, M, a1, a2, a3, a4, a5, a6⟩ := h
  have := total_sub d.files a4 a1 (fun g hg => (a2 g).2 ((a5 g).1 hg).1)
  rw [a3, a6]
  omega
theorem crash_less {S : DataW Unit} (l : List (ByteArray × Int)) : ∀ (st : (Nat → Option Fil) × Int) (g : Nat), lenF ((l.foldl (crashStep S) st).1 g) ≤ lenF (st.1 g) := by
  induction l with
  | nil => exact fun _ _ => Nat.le_refl _
  | cons p r ih =>
    intro st g
    rw [List.foldl_cons]
    refine Nat.le_trans (ih _ g) ?_
    unfold crashStep
    cases e : fileOf S p.1 with
    | none => exact Nat.le_refl _
    | some k =>
      simp only
      cases e2 : st.1 k with
      | none => exact Nat.le_refl _
      | some x =>
        show lenF (if g = k then some (x.crash p.2) else st.1 g) ≤ _
        by_cases e3 : g = k
        · rw [if_pos e3, e3, e2]
          show (x.bytes.take _).length ≤ x.bytes.length
          rw [List.length_take]
          omega
        · rw [if_neg e3]
          exact Nat.le_refl _
/-- A crash makes nothing grow. -/
theorem Acc.crash_used {d : Disk} (h : Acc d) (hm : IsMap d.synced) (dir : Int) (ks : List Int) (hc : Acc (d.crashed dir ks)) : (d.crashed dir ks).used ≤ d.used := by
  obtain ⟨L, M, a1, a2, a3, _⟩ := h
  obtain ⟨L', M', b1, b2, b3, _⟩ := hc
  rw [a3, b3]
  have h1 : total (d.crashed dir ks).files L' ≤ total d.files L' := total_le L' fun g _ => crash_less _ (d.files, 0) g
  have h2 : total d.files L' ≤ total d.files L := total_sub _ b1 a1 fun g hg => (a2 g).2 (by
    rcases (b2 g).1 hg with ⟨s, hs⟩ | ⟨c, h1, _⟩
    · replace hs : fileOf (d.left dir) s = some g := hs
      rw [left_eq] at hs
      rcases fileOf_folded _ hm hs with hs | ⟨c, h1, h2⟩
      · exact .inl ⟨_, hs⟩
      · exact .inr ⟨c, List.mem_of_mem_take h1, h2⟩
    · cases h1)
  omega
end Go.Proofs.Ytefjljdgdoklmaa

/-
  The two file systems side by side: what holds between two calls, and that each call keeps it.
-/
namespace Go.Proofs.Ytefjljdgdoklmaa
open Go.RowKit Go.Maps Go.Sort

theorem size_del (D : DataW Unit) (k : Lit) : Maps.size (D.del k) ≤ Maps.size D := by
  cases D with
  | map es => exact List.length_filter_le _ _
  | _ => exact Nat.le_refl _
theorem insert_length {H : Type} (x : Lit × DataW H) (l : List (Lit × DataW H)) : (DataW.insert x l).length = l.length + 1 := by
  rw [(insert_perm x l).length_eq, List.length_cons]
theorem size_put (D : DataW Unit) (k : Lit) (y : DataW Unit) : Maps.size (D.put k y) ≤ Maps.size D + 1 := by
  cases D with
  | map es =>
    show (DataW.insert (k, y) (es.filter fun p => !p.1.sameKey k)).length ≤ es.length + 1
    rw [insert_length]
    have := List.length_filter_le (fun p : Lit × DataW Unit => !p.1.sameKey k) es
    omega
  | _ => exact Nat.zero_le _
theorem size_apply (D : DataW Unit) (c : Chg) : Maps.size (applyD D c) ≤ Maps.size D + 1 := by
  obtain ⟨went, became, file⟩ := c
  cases file with
  | none => exact Nat.le_trans (size_del D _) (Nat.le_succ _)
  | some g => exact Nat.le_trans (size_put _ _ _) (Nat.add_le_add_right (size_del D _) 1)
theorem size_fold (l : List Chg) : ∀ D : DataW Unit, Maps.size (l.foldl applyD D) ≤ Maps.size D + l.length := by
  induction l with
  | nil => exact fun D => Nat.le_refl _
  | cons c r ih =>
    intro D
    have h1 := ih (applyD D c)
    have h2 := size_apply D c
    rw [List.foldl_cons, List.length_cons]
    omega
theorem nod_size {D : DataW Unit} (h : Nod D) : Maps.size D = (namesOf D).length := by
  obtain ⟨⟨es, rfl, _⟩, _⟩ := h
  unfold namesOf
  rw [List.length_map, List.length_mergeSort]
  show es.length = (es.map fun p => strOf p.1).length
  rw [List.length_map]
theorem size_both {rho : Nat → Nat} {D E : DataW Unit} (hD : Nod D) (hE : Nod E) (h : ∀ s, fileOf E s = (fileOf D s).map rho) : Maps.size E = Maps.size D := by
  rw [nod_size hD, nod_size hE, namesOf_both hD hE h]
theorem Nod.newD {D : DataW Unit} (h : Nod D) (gs : List Anew) : Nod (newD D gs) := by
  induction gs generalizing D with
  | nil => exact h
  | cons p r ih => exact ih (h.put _ _)
theorem length_sub : ∀ {M L : List Nat}, M.Nodup → (∀ g, g ∈ M → g ∈ L) → M.length ≤ L.length
  | [], _, _, _ => Nat.zero_le _
  | a :: r, L, hn, h => by
    have hn' := List.nodup_cons.1 hn
    have h1 := length_sub (M := r) (L := L.erase a) hn'.2 fun g hg => by
      have hne : g ≠ a := fun e => hn'.1 (e ▸ hg)
      exact (List.mem_erase_of_ne hne).2 (h g (by simp [hg]))
    have h2 := List.length_erase_of_mem (h a (by simp))
    have h3 := List.length_pos_of_mem (h a (by simp))
    rw [List.length_cons]
    omega

theorem short_fold (l : List Chg) : ∀ (D : DataW Unit), IsMap D → (∀ s g, fileOf D s = some g → s.size ≤ 1000) → (∀ c, c ∈ l → c.went.size ≤ 1000 ∧ c.became.size ≤ 1000) → ∀ s g, fileOf (l.foldl applyD D) s = some g → s.size ≤ 1000 := by
  induction l with
  | nil => exact fun D _ h _ => h
  | cons c r ih =>
    intro D hD h hc
    refine ih (applyD D c) (isMap_apply hD c) (fun s g hs => ?_) (fun c' h' => hc c' (by simp [h']))
    rw [fileOf_apply D hD] at hs
    have h1 := (hc c (by simp)).2
    cases e : c.file with
    | none =>
      rw [e] at hs
      simp only at hs
      split at hs
      · cases hs
      · exact h s g hs
    | some k =>
      rw [e] at hs
      simp only at hs
      split at hs
      · next e1 => rw [e1]; exact h1
      · split at hs
        · cases hs
        · exact h s g hs
/-- What holds of the two file systems behind i steps. -/
structure Inv (i : Nat) (rho : Nat → Nat) (d : Disk) (r : RDisk) : Prop where
  sim : Sim rho d r
  uni : d.uni
  nd : Nod d.synced
  nn : Nod d.names
  nr : Nod r.synced
  acc : Acc d
  live : ∀ g, d.live g → ∃ x, d.files g = some x
  count : ∃ L : List Nat, (∀ g, d.live g → g ∈ L) ∧ L.length ≤ i
  ops : 0 ≤ d.ops ∧ d.ops ≤ i
  lim : 0 ≤ d.limit ∧ d.limit ≤ 1073741824
  used : d.used ≤ d.limit
  fuse : d.fuse ≤ 9223372036854775807
  fault : d.fault ≤ 9223372036854775807
  names : Maps.size d.names ≤ i
  synced : Maps.size d.synced + d.changes.length ≤ i
  text : ∀ c, c ∈ d.changes → c.went.size ≤ 1000 ∧ c.became.size ≤ 1000
  bytes : ∀ g x, d.files g = some x → x.bytes.length ≤ 300 * i ∧ x.synced ≤ x.bytes.length
  rbytes : ∀ g x, r.files g = some x → x.bytes.length ≤ 300 * i ∧ x.synced ≤ x.bytes.length
  shorts : ∀ s g, fileOf d.synced s = some g → s.size ≤ 1000

section
variable {i : Nat} {rho : Nat → Nat} {d : Disk} {r : RDisk}
theorem Inv.mono (h : Inv i rho d r) {j : Nat} (hj : i ≤ j) : Inv j rho d r :=
  { h with
    count := let ⟨L, h1, h2⟩ := h.count; ⟨L, h1, Nat.le_trans h2 hj⟩
    ops := ⟨h.ops.1, by have := h.ops.2; omega⟩
    names := Nat.le_trans h.names hj
    synced := Nat.le_trans h.synced hj
    bytes := fun g x hx => ⟨by have := (h.bytes g x hx).1; omega, (h.bytes g x hx).2⟩
    rbytes := fun g x hx => ⟨by have := (h.rbytes g x hx).1; omega, (h.rbytes g x hx).2⟩ }
/-- Only numbers are others. -/
theorem Inv.numbers (h : Inv i rho d r) {d' : Disk} {r' : RDisk} (hs : Sim rho d' r') (e1 : d'.names = d.names) (e2 : d'.synced = d.synced) (e3 : d'.changes = d.changes) (e4 : d'.files = d.files) (e5 : d'.used = d.used) (e6 : d'.lost = d.lost) (e7 : d'.limit = d.limit)
    (e8 : r'.synced = r.synced) (e9 : r'.files = r.files) (h1 : 0 ≤ d'.ops ∧ d'.ops ≤ i) (h2 : d'.fuse ≤ 9223372036854775807) (h3 : d'.fault ≤ 9223372036854775807) : Inv i rho d' r' := by
  have hl : ∀ g, d'.live g ↔ d.live g := fun g => by unfold Disk.live; rw [e2, e3]
  exact {
    sim := hs
    uni := fun k => by have := h.uni k; unfold Disk.dirAt at this ⊢; rw [e2, e3]; exact this
    nd := e2 ▸ h.nd
    nn := e1 ▸ h.nn
    nr := e8 ▸ h.nr
    acc := h.acc.same e5 e6 e2 e3 e1 (fun L => by rw [e4])
    live := fun g hg => by rw [e4]; exact h.live g ((hl g).1 hg)
    count := let ⟨L, h1, h2⟩ := h.count; ⟨L, fun g hg => h1 g ((hl g).1 hg), h2⟩
    ops := h1
    lim := e7 ▸ h.lim
    used := by rw [e5, e7]; exact h.used
    fuse := h2
    fault := h3
    names := e1 ▸ h.names
    synced := by rw [e2, e3]; exact h.synced
    text := e3 ▸ h.text
    bytes := e4 ▸ h.bytes
    rbytes := e9 ▸ h.rbytes
    shorts := e2 ▸ h.shorts }
theorem tick_le {z : Int} (h : z ≤ 9223372036854775807) : Ytefjljdgdoklmaa.tick z ≤ 9223372036854775807 := by
  unfold Ytefjljdgdoklmaa.tick
  split <;> omega
theorem Inv.guard (h : Inv i rho d r) (b : Bool) : Inv (i + 1) rho (d.guard b).2 (r.begin b).2 := by
  have hs := (h.sim.guard b).1
  have h' := h.mono (Nat.le_succ i)
  have e : (d.guard b).2.names = d.names ∧ (d.guard b).2.synced = d.synced ∧ (d.guard b).2.changes = d.changes ∧ (d.guard b).2.files = d.files ∧ (d.guard b).2.used = d.used ∧ (d.guard b).2.lost = d.lost ∧ (d.guard b).2.limit = d.limit ∧ (0 ≤ (d.guard b).2.ops ∧ (d.guard b).2.ops ≤ (i + 1 : Nat)) ∧ (d.guard b).2.fuse ≤ 9223372036854775807 ∧ (d.guard b).2.fault ≤ 9223372036854775807 := by
    have ho := h.ops
    have hf := h.fuse
    have hg := h.fault
    have hf' := tick_le hf
    have hg' := tick_le hg
    unfold Disk.guard
    split
    · exact ⟨rfl, rfl, rfl, rfl, rfl, rfl, rfl, ⟨ho.1, by show d.ops ≤ _; omega⟩, hf, hg⟩
    · split
      · exact ⟨rfl, rfl, rfl, rfl, rfl, rfl, rfl, ⟨ho.1, by show d.ops ≤ _; omega⟩, hf, hg⟩
      · split
        · exact ⟨rfl, rfl, rfl, rfl, rfl, rfl, rfl, ⟨by show 0 ≤ d.ops + 1; omega, by show d.ops + 1 ≤ _; omega⟩, hf', hg'⟩
        · split
          · exact ⟨rfl, rfl, rfl, rfl, rfl, rfl, rfl, ⟨by show 0 ≤ d.ops + 1; omega, by show d.ops + 1 ≤ _; omega⟩, hf', hg'⟩
          · exact ⟨rfl, rfl, rfl, rfl, rfl, rfl, rfl, ⟨by show 0 ≤ d.ops + 1; omega, by show d.ops + 1 ≤ _; omega⟩, hf', hg'⟩
  have e2 : (r.begin b).2.synced = r.synced ∧ (r.begin b).2.files = r.files := by
    unfold RDisk.begin RDisk.op
    repeat' split
    all_goals exact ⟨rfl, rfl⟩
  obtain ⟨a1, a2, a3, a4, a5, a6, a7, a8, a9, a10⟩ := e
  exact h'.numbers hs a1 a2 a3 a4 a5 a6 a7 e2.1 e2.2 a8 a9 a10
theorem Inv.rchanges (h : Inv i rho d r) : r.changes.length = d.changes.length := by rw [h.sim.changes, List.length_map]
theorem Inv.rsize (h : Inv i rho d r) : Maps.size r.synced = Maps.size d.synced := size_both h.nd h.nr h.sim.synced
theorem Inv.num (h : Inv i rho d r) (hi : i ≤ 1000) : Num d where
  ops := ⟨h.ops.1, by have := h.ops.2; omega⟩
  fuse := h.fuse
  fault := h.fault
  used := ⟨h.acc.order.1, h.acc.order.2, h.used, h.lim.2⟩
  names := by have := h.names; omega
  synced := by have := h.synced; omega
  changes := by have := h.synced; omega
  text := fun c hc => ⟨Nat.le_trans (h.text c hc).1 (by unfold maxLen; omega), Nat.le_trans (h.text c hc).2 (by unfold maxLen; omega)⟩
  bytes := fun g x hx => ⟨by have := (h.bytes g x hx).1; omega, (h.bytes g x hx).2⟩
theorem Inv.rnum (h : Inv i rho d r) (hi : i ≤ 1000) : RNum r where
  n := by rw [h.sim.n]; exact ⟨h.ops.1, by have := h.ops.2; omega⟩
  fuse := by rw [h.sim.fuse]; have := h.fuse; omega
  fault := by rw [h.sim.fault]; have := h.fault; omega
  limit := by rw [h.sim.limit]; exact h.lim
  synced := by rw [h.rsize]; have := h.synced; omega
  changes := by rw [h.rchanges]; have := h.synced; omega
  text := fun c hc => by
    rw [h.sim.changes] at hc
    obtain ⟨c', hc', rfl⟩ := List.mem_map.1 hc
    exact ⟨Nat.le_trans (h.text c' hc').1 (by unfold maxLen; omega), Nat.le_trans (h.text c' hc').2 (by unfold maxLen; omega)⟩
  bytes := fun g x hx => ⟨by have := (h.rbytes g x hx).1; omega, (h.rbytes g x hx).2⟩
/-- No more is told of than the code counts. -/
theorem Inv.rtotal (h : Inv i rho d r) {ls : List Nat} (hn : ls.Nodup) (ht : ∀ g, g ∈ ls → r.tells (r.changes.length + 1) g) : ls.length ≤ i ∧ (total r.files ls : Int) ≤ d.used := by
  obtain ⟨L, c1, c2⟩ := h.count
  refine ⟨?_, ?_⟩
  · have := length_sub (M := ls) (L := L.map rho) hn fun g hg => by
      obtain ⟨g0, h1, rfl⟩ := (h.sim.tells g).1 (ht g hg)
      exact List.mem_map.2 ⟨g0, c1 g0 h1, rfl⟩
    rw [List.length_map] at this
    omega
  · obtain ⟨K, M, a1, a2, a3, _⟩ := h.acc
    have hk : (K.map rho).Nodup := by
      refine List.pairwise_map.2 (List.Pairwise.imp_of_mem (fun {a b} ha hb hne e => hne ?_) a1)
      exact h.sim.inj a b ((a2 a).1 ha) ((a2 b).1 hb) e
    have h1 := total_sub r.files hn hk fun g hg => by
      obtain ⟨g0, h1, rfl⟩ := (h.sim.tells g).1 (ht g hg)
      exact List.mem_map.2 ⟨g0, (a2 g0).2 h1, rfl⟩
    have h2 : total r.files (K.map rho) = total d.files K := total_map K fun g hg => h.sim.files g ((a2 g).1 hg)
    rw [a3]
    omega
theorem Inv.fits (h : Inv i rho d r) (hi : i ≤ 1000) : r.fits := fun ls hn ht => by
  have h1 := h.rtotal hn ht
  have h2 := h.used
  have h3 := h.lim
  omega
theorem size_foldR (l : List Chg) : ∀ D : DataW Unit, Maps.size (l.foldl applyR D) ≤ Maps.size D + l.length := by
  induction l with
  | nil => exact fun D => Nat.le_refl _
  | cons c r ih =>
    intro D
    have h1 := ih (applyR D c)
    have h2 : Maps.size (applyR D c) ≤ Maps.size D + 1 := by
      have h0 : Maps.size (if c.went.size = 0 then D else D.del (key c.went)) ≤ Maps.size D := by
        split
        · exact Nat.le_refl _
        · exact size_del D _
      unfold applyR
      cases c.file with
      | none => exact Nat.le_trans h0 (Nat.le_succ _)
      | some g => exact Nat.le_trans (size_put _ _ _) (Nat.add_le_add_right h0 1)
    rw [List.foldl_cons, List.length_cons]
    omega
theorem Inv.rdir (h : Inv i rho d r) (k : Nat) : Maps.size (r.dir k) ≤ i := by
  have h1 := size_foldR (r.changes.take k) r.synced
  rw [List.length_take] at h1
  have h2 := h.rchanges
  have h3 := h.rsize
  have h4 := h.synced
  unfold RDisk.dir
  omega
theorem Inv.rnow (h : Inv i rho d r) : Maps.size r.now ≤ i := by
  have h1 := size_foldR r.changes r.synced
  have h2 := h.rchanges
  have h3 := h.rsize
  have h4 := h.synced
  unfold RDisk.now
  omega
theorem setF_live (g : Nat) (y : Fil) (k : Nat) : (d.setF g y).live k ↔ d.live k := Iff.rfl
theorem Inv.setF (h : Inv i rho d r) {g : Nat} {x y : Fil} (hg : d.live g) (hx : d.files g = some x) (hl : y.bytes.length = x.bytes.length) (hs : y.synced ≤ y.bytes.length) : Inv i rho (d.setF g y) (r.setF (rho g) y) where
  sim := h.sim.setF hg y
  uni := h.uni
  nd := h.nd
  nn := h.nn
  nr := h.nr
  acc := h.acc.setF hx hl
  live := fun k hk => by
    by_cases e : k = g
    · exact ⟨y, if_pos e⟩
    · obtain ⟨z, hz⟩ := h.live k hk
      exact ⟨z, (if_neg e).trans hz⟩
  count := h.count
  ops := h.ops
  lim := h.lim
  used := h.used
  fuse := h.fuse
  fault := h.fault
  names := h.names
  synced := h.synced
  text := h.text
  bytes := fun k z hz => by
    replace hz : (if k = g then some y else d.files k) = some z := hz
    split at hz
    · cases hz; exact ⟨by rw [hl]; exact (h.bytes g x hx).1, hs⟩
    · exact h.bytes k z hz
  rbytes := fun k z hz => by
    replace hz : (if k = rho g then some y else r.files k) = some z := hz
    split at hz
    · cases hz; exact ⟨by rw [hl]; exact (h.bytes g x hx).1, hs⟩
    · exact h.rbytes k z hz
  shorts := h.shorts
theorem Inv.put (h : Inv i rho d r) {g : Nat} {x : Fil} (hx : d.files g = some x) (hg : d.live g) (hn : named d.names g) (news : List (BitVec 8)) (hb : news.length ≤ 300) (hroom : (news.length : Int) ≤ d.limit - d.used) : Inv (i + 1) rho (d.put g x news) (r.setF (rho g) ⟨x.bytes ++ news, x.synced⟩) where
  sim := { h.sim.setF hg ⟨x.bytes ++ news, x.synced⟩ with }
  uni := h.uni
  nd := h.nd
  nn := h.nn
  nr := h.nr
  acc := h.acc.put hx hg hn news
  live := fun k hk => by
    by_cases e : k = g
    · exact ⟨⟨x.bytes ++ news, x.synced⟩, if_pos e⟩
    · obtain ⟨z, hz⟩ := h.live k hk
      exact ⟨z, (if_neg e).trans hz⟩
  count := let ⟨L, h1, h2⟩ := h.count; ⟨L, h1, Nat.le_succ_of_le h2⟩
  ops := ⟨h.ops.1, by have := h.ops.2; show d.ops ≤ _; omega⟩
  lim := h.lim
  used := by show d.used + (news.length : Int) ≤ d.limit; omega
  fuse := h.fuse
  fault := h.fault
  names := Nat.le_succ_of_le h.names
  synced := Nat.le_succ_of_le h.synced
  text := h.text
  bytes := fun k z hz => by
    replace hz : (if k = g then some ⟨x.bytes ++ news, x.synced⟩ else d.files k) = some z := hz
    have h1 := h.bytes g x hx
    split at hz
    · cases hz
      show (x.bytes ++ news).length ≤ _ ∧ x.synced ≤ (x.bytes ++ news).length
      rw [List.length_append]
      omega
    · have := h.bytes k z hz; omega
  rbytes := fun k z hz => by
    replace hz : (if k = rho g then some ⟨x.bytes ++ news, x.synced⟩ else r.files k) = some z := hz
    have h1 := h.bytes g x hx
    split at hz
    · cases hz
      show (x.bytes ++ news).length ≤ _ ∧ x.synced ≤ (x.bytes ++ news).length
      rw [List.length_append]
      omega
    · have := h.rbytes k z hz; omega
  shorts := h.shorts
theorem Inv.short (h : Inv i rho d r) {s : ByteArray} {g : Nat} (hs : fileOf d.names s = some g) : s.size ≤ 1000 := by
  rw [h.sim.names] at hs
  exact short_fold d.changes d.synced h.sim.dmap h.shorts h.text s g hs
end
end Go.Proofs.Ytefjljdgdoklmaa

/-
  The two file systems side by side: new files, names, crashes keep what holds between two calls.
-/
namespace Go.Proofs.Ytefjljdgdoklmaa
open Go.RowKit Go.Maps Go.Sort
section
variable {i : Nat} {rho : Nat → Nat} {d : Disk} {r : RDisk}
theorem Inv.uniNames (h : Inv i rho d r) : Uni d.names := fun s s' g h1 h2 => by
  have h3 := h.uni d.changes.length
  unfold Disk.dirAt at h3
  rw [List.take_length] at h3
  rw [h.sim.names] at h1 h2
  exact h3 s s' g h1 h2
theorem Inv.add (h : Inv i rho d r) {name : ByteArray} (hn : name ≠ noName) (hsz : name.size ≤ 1000) (hf : fileOf d.names name = none) {g g' : Nat} (hg : ¬ d.live g) (hg' : ∀ k, d.live k → rho k ≠ g') : Inv (i + 1) (fun k => if k = g then g' else rho k) (d.add name g) (r.add name g') := by
  have hlive : ∀ k, (d.add name g).live k → d.live k ∨ k = g := fun k hk => by
    rcases hk with hk | ⟨c, h1, h2⟩
    · exact .inl (.inl hk)
    · rcases List.mem_append.1 h1 with h1 | h1
      · exact .inl (.inr ⟨c, h1, h2⟩)
      · obtain rfl : c = ⟨⟨#[]⟩, name, some g⟩ := by simpa using h1
        exact .inr (by simpa using h2.symm)
  exact {
    sim := h.sim.add name hn g g' hg hg'
    uni := uni_change (d := d.setF g ⟨[], 0⟩) h.sim.dmap h.uni ⟨⟨#[]⟩, name, some g⟩ fun k hk s hs => by
      have e : g = k := by simpa using hk
      subst e
      refine absurd (h.sim.named (s := s) ?_) hg
      rw [h.sim.names]
      exact hs
    nd := h.nd
    nn := h.nn.apply ⟨⟨#[]⟩, name, some g⟩
    nr := h.nr
    acc := h.acc.add h.sim.nmap h.sim.noEmpty hf hg
    live := fun k hk => by
      by_cases e : k = g
      · exact ⟨⟨[], 0⟩, if_pos e⟩
      · obtain ⟨z, hz⟩ := h.live k ((hlive k hk).resolve_right e)
        exact ⟨z, (if_neg e).trans hz⟩
    count := by
      obtain ⟨L, h1, h2⟩ := h.count
      refine ⟨g :: L, fun k hk => ?_, by rw [List.length_cons]; omega⟩
      rcases hlive k hk with hk | hk
      · exact List.mem_cons_of_mem _ (h1 k hk)
      · rw [hk]; exact List.mem_cons_self
    ops := ⟨h.ops.1, by have := h.ops.2; show d.ops ≤ _; omega⟩
    lim := h.lim
    used := h.used
    fuse := h.fuse
    fault := h.fault
    names := Nat.le_trans (size_apply d.names ⟨⟨#[]⟩, name, some g⟩) (Nat.succ_le_succ h.names)
    synced := by
      have := h.synced
      show Maps.size d.synced + (d.changes ++ [(⟨⟨#[]⟩, name, some g⟩ : Chg)]).length ≤ i + 1
      rw [List.length_append, List.length_singleton]
      omega
    text := fun c hc => by
      rcases List.mem_append.1 hc with hc | hc
      · exact h.text c hc
      · obtain rfl : c = ⟨⟨#[]⟩, name, some g⟩ := by simpa using hc
        exact ⟨Nat.zero_le _, hsz⟩
    bytes := fun k z hz => by
      replace hz : (if k = g then some ⟨[], 0⟩ else d.files k) = some z := hz
      split at hz
      · cases hz; exact ⟨Nat.zero_le _, Nat.zero_le _⟩
      · have := h.bytes k z hz; omega
    rbytes := fun k z hz => by
      replace hz : (if k = g' then some ⟨[], 0⟩ else r.files k) = some z := hz
      split at hz
      · cases hz; exact ⟨Nat.zero_le _, Nat.zero_le _⟩
      · have := h.rbytes k z hz; omega
    shorts := h.shorts }
/-- A change of names that tells of no new file. -/
theorem Inv.changed (h : Inv i rho d r) (n : Int) (c : Chg) (hc : ∀ g, c.file = some g → d.live g ∧ c.became ≠ noName) (hu : ∀ g, c.file = some g → ∀ s, fileOf d.names s = some g → s = c.went) (ht : c.went.size ≤ 1000 ∧ c.became.size ≤ 1000) (ha : Acc ((d.lose n).change c)) : Inv (i + 1) rho ((d.lose n).change c) (r.change (c.to rho)) := by
  have hlive := live_change (d := d) (c := c) (fun g hg => (hc g hg).1) n
  exact {
    sim := Sim.change (d := d.lose n) { h.sim with } c hc
    uni := uni_change (d := d.lose n) h.sim.dmap h.uni c fun g hg s hs => hu g hg s (by rw [h.sim.names]; exact hs)
    nd := h.nd
    nn := h.nn.apply c
    nr := h.nr
    acc := ha
    live := fun k hk => h.live k ((hlive k).1 hk)
    count := let ⟨L, h1, h2⟩ := h.count; ⟨L, fun k hk => h1 k ((hlive k).1 hk), Nat.le_succ_of_le h2⟩
    ops := ⟨h.ops.1, by have := h.ops.2; show d.ops ≤ _; omega⟩
    lim := h.lim
    used := h.used
    fuse := h.fuse
    fault := h.fault
    names := Nat.le_trans (size_apply d.names c) (Nat.succ_le_succ h.names)
    synced := by
      have := h.synced
      show Maps.size d.synced + (d.changes ++ [c]).length ≤ i + 1
      rw [List.length_append, List.length_singleton]
      omega
    text := fun c' hc' => by
      rcases List.mem_append.1 hc' with hc' | hc'
      · exact h.text c' hc'
      · obtain rfl : c' = c := by simpa using hc'
        exact ht
    bytes := fun k z hz => by have := h.bytes k z hz; omega
    rbytes := fun k z hz => by have := h.rbytes k z hz; omega
    shorts := h.shorts }
theorem Inv.removed (h : Inv i rho d r) {name : ByteArray} (hsz : name.size ≤ 1000) {g : Nat} {x : Fil} (hs : fileOf d.names name = some g) (hx : d.files g = some x) : Inv (i + 1) rho ((d.lose x.bytes.length).change ⟨name, ⟨#[]⟩, none⟩) (r.change ⟨name, ⟨#[]⟩, none⟩) :=
  h.changed _ ⟨name, ⟨#[]⟩, none⟩ (fun g hg => by cases hg) (fun g hg => by cases hg) ⟨hsz, Nat.zero_le _⟩ (h.acc.removed h.sim.nmap h.uniNames hs hx (h.sim.named hs))
theorem Inv.renamed (h : Inv i rho d r) {s t : ByteArray} (hs1 : s.size ≤ 1000) (ht1 : t.size ≤ 1000) (ht0 : t ≠ noName) (hne : s ≠ t) {g : Nat} (hs : fileOf d.names s = some g) : Inv (i + 1) rho ((d.lose (d.lenAt t)).change ⟨s, t, some g⟩) (r.change ⟨s, t, some (rho g)⟩) :=
  h.changed _ ⟨s, t, some g⟩ (fun g' hg => by
    have e : g = g' := by simpa using hg
    exact e ▸ ⟨h.sim.named hs, ht0⟩) (fun g' hg s' hs' => by
    have e : g = g' := by simpa using hg
    exact h.uniNames s' s g (by rw [e]; exact hs') hs) ⟨hs1, ht1⟩ (h.acc.renamed h.sim.nmap h.uniNames (fun s' g' h' => ⟨h.sim.named h', h.live g' (h.sim.named h')⟩) hne hs)
theorem settled_live (h : Inv i rho d r) (k : Nat) (hk : d.settled.live k) : d.live k := by
  rcases hk with ⟨s, hs⟩ | ⟨c, h1, _⟩
  · exact h.sim.named (s := s) (by rw [h.sim.names]; exact hs)
  · cases h1
theorem Inv.settled (h : Inv i rho d r) : Inv i rho d.settled { r with synced := r.now, changes := [] } where
  sim := h.sim.settled
  uni := uni_settled h.uni
  nd := Nod.fold d.changes h.nd
  nn := h.nn
  nr := Nod.foldR r.changes h.nr
  acc := h.acc.settled h.sim.names (fun s g hs => h.sim.named hs)
  live := fun k hk => h.live k (settled_live h k hk)
  count := let ⟨L, h1, h2⟩ := h.count; ⟨L, fun k hk => h1 k (settled_live h k hk), h2⟩
  ops := h.ops
  lim := h.lim
  used := by have h1 := h.used; have h2 := h.acc.order.1; show d.used - d.lost ≤ d.limit; omega
  fuse := h.fuse
  fault := h.fault
  names := h.names
  synced := by
    have h1 := h.synced
    have h2 := size_fold d.changes d.synced
    show Maps.size (d.changes.foldl applyD d.synced) + 0 ≤ i
    omega
  text := fun c hc => by cases hc
  bytes := h.bytes
  rbytes := h.rbytes
  shorts := short_fold d.changes d.synced h.sim.dmap h.shorts h.text
theorem Inv.fused (h : Inv i rho d r) {a : Int} (ha : a ≤ 9223372036854775807) : Inv i rho { d with fuse := a } { r with fuse := max (-1) a } :=
  h.numbers (h.sim.fused a) rfl rfl rfl rfl rfl rfl rfl rfl rfl h.ops ha h.fault
theorem Inv.faulted (h : Inv i rho d r) {a z : Int} (ha : a ≤ 9223372036854775807) (hz : z ≠ 0) : Inv i rho { d with fault := a, fail := z } { r with fault := max (-1) a, fail := z } :=
  h.numbers (h.sim.faulted a z hz) rfl rfl rfl rfl rfl rfl rfl rfl rfl h.ops h.fuse ha
theorem crashed_live (h : Inv i rho d r) (dir : Int) (ks : List Int) (k : Nat) (hk : (d.crashed dir ks).live k) : d.live k := by
  rcases hk with ⟨s, hs⟩ | ⟨c, h1, _⟩
  · replace hs : fileOf (d.left dir) s = some k := hs
    rw [left_eq] at hs
    rcases fileOf_folded _ h.sim.dmap hs with hs | ⟨c, h1, h2⟩
    · exact .inl ⟨_, hs⟩
    · exact .inr ⟨c, List.mem_of_mem_take h1, h2⟩
  · cases h1
theorem crash_len (x : Fil) (k : Int) (h : x.synced ≤ x.bytes.length) : (x.crash k).bytes.length ≤ x.bytes.length ∧ (x.crash k).synced ≤ (x.crash k).bytes.length := by
  have h1 := crashN_le x k h
  show (x.bytes.take (crashN x k)).length ≤ _ ∧ crashN x k ≤ (x.bytes.take (crashN x k)).length
  rw [List.length_take]
  omega
theorem Inv.crashed (h : Inv i rho d r) (hi : i ≤ 1000) (dir : Int) (ks : List Int) (gs : List Anew)
    (hlen : gs.length = (namesOf (r.dir (keptN dir r.changes.length))).length)
    (hg : ∀ (j : Nat) (p : Anew), gs[j]? = some p → (namesOf (r.dir (keptN dir r.changes.length)))[j]? = some p.1 ∧ ∃ g x, fileOf (r.dir (keptN dir r.changes.length)) p.1 = some g ∧ r.files g = some x ∧ p.2.2 = x.crash (ks.getD j 0)) (hnd : (gs.map (·.2.1)).Nodup) :
    Inv i (rhoC rho (d.left dir) gs) (d.crashed dir ks) { newR r gs with synced := newD (r.dir (keptN dir r.changes.length)) gs, changes := [], off := false, fuse := -1, fault := -1 } := by
  have hacc := Acc.crashed h.uni h.nd h.sim.dmap h.live dir ks
  have hinv := crash_inv (d.left dir) (crashList (namesOf (d.left dir)) ks) (d.files, 0) (fun g x hx => ⟨by have := (h.bytes g x hx).1; omega, (h.bytes g x hx).2⟩) (Int.le_refl _)
  have hnl : Nod (d.left dir) := by rw [left_eq]; exact Nod.fold _ h.nd
  have hsz : Maps.size (d.left dir) ≤ i := by
    have h1 := size_fold (d.changes.take (keptN dir d.changes.length)) d.synced
    have h2 := h.synced
    rw [List.length_take] at h1
    rw [left_eq]
    unfold Disk.dirAt
    omega
  exact {
    sim := h.sim.crashed h.uni h.nd h.nr dir ks _ rfl gs hlen hg hnd
    uni := uni_crashed h.uni dir ks
    nd := hnl
    nn := hnl
    nr := (Nod.foldR _ h.nr).newD gs
    acc := hacc
    live := fun k hk => hinv.2.2.2 k (h.live k (crashed_live h dir ks k hk))
    count := let ⟨L, h1, h2⟩ := h.count; ⟨L, fun k hk => h1 k (crashed_live h dir ks k hk), h2⟩
    ops := h.ops
    lim := h.lim
    used := Int.le_trans (h.acc.crash_used h.sim.dmap dir ks hacc) h.used
    fuse := by show (-1 : Int) ≤ _; omega
    fault := by show (-1 : Int) ≤ _; omega
    names := hsz
    synced := by show Maps.size (d.left dir) + 0 ≤ i; omega
    text := fun c hc => by cases hc
    bytes := fun k z hz => by
      have h1 := crash_less (S := d.left dir) (crashList (namesOf (d.left dir)) ks) (d.files, 0) k
      have h2 := hinv.1 k z hz
      replace hz : (List.foldl (crashStep (d.left dir)) (d.files, 0) (crashList (namesOf (d.left dir)) ks)).1 k = some z := hz
      rw [hz] at h1
      refine ⟨?_, h2.2⟩
      cases e : d.files k with
      | none =>
        replace h1 : z.bytes.length ≤ lenF (d.files k) := h1
        rw [e] at h1
        exact Nat.le_trans h1 (Nat.zero_le _)
      | some y =>
        replace h1 : z.bytes.length ≤ lenF (d.files k) := h1
        rw [e] at h1
        exact Nat.le_trans h1 (h.bytes k y e).1
    rbytes := fun k z hz => by
      replace hz : (newR r gs).files k = some z := hz
      by_cases hk : ∃ p ∈ gs, k = p.2.1
      · obtain ⟨p, hp, rfl⟩ := hk
        rw [newR_mem r gs hnd p hp] at hz
        cases hz
        obtain ⟨j, hj⟩ := List.mem_iff_getElem?.1 hp
        obtain ⟨_, g, x, _, h2, h3⟩ := hg j p hj
        have h4 := h.rbytes g x h2
        have h5 := crash_len x (ks.getD j 0) h4.2
        rw [h3]
        exact ⟨Nat.le_trans h5.1 h4.1, h5.2⟩
      · rw [newR_old r gs k (fun p hp e => hk ⟨p, hp, e⟩)] at hz
        exact h.rbytes k z hz
    shorts := fun s g hs => by
      replace hs : fileOf (d.left dir) s = some g := hs
      rw [left_eq] at hs
      exact short_fold _ d.synced h.sim.dmap h.shorts (fun c hc => h.text c (List.mem_of_mem_take hc)) s g hs }
/-- The start. -/
def dzero (limit : Int) : Disk := { limit := limit, names := .map [], synced := .map [], changes := [], files := fun _ => none, used := 0, lost := 0, on := true, ops := 0, fuse := -1, fault := -1, fail := 0 }
theorem Inv.start (limit : Int) (h1 : 0 ≤ limit) (h2 : limit ≤ 1073741824) : Inv 0 id (dzero limit) (rzero limit) := by
  have hno : ∀ s, fileOf (.map [] : DataW Unit) s = none := fun s => rfl
  have hnl : ∀ g, ¬ (dzero limit).live g := fun g hg => by
    rcases hg with ⟨s, hs⟩ | ⟨c, hc, _⟩
    · cases (hno s).symm.trans hs
    · cases hc
  have hnod : Nod (.map [] : DataW Unit) := ⟨Full.empty, List.nodup_nil⟩
  exact {
    sim := {
      limit := rfl
      on := rfl
      n := rfl
      fuse := rfl
      fault := rfl
      fail := fun h => absurd h (by show ¬ (0 : Int) ≤ -1; omega)
      changes := rfl
      synced := fun s => rfl
      files := fun g hg => absurd hg (hnl g)
      inj := fun g g' hg => absurd hg (hnl g)
      names := fun s => rfl
      empty := rfl
      became := fun c hc => by cases hc
      dmap := ⟨[], rfl⟩
      nmap := ⟨[], rfl⟩
      rmap := ⟨[], rfl⟩ }
    uni := fun k s s' g hs => by
      have : (dzero limit).dirAt k = .map [] := by show ([].take k : List Chg).foldl applyD (.map []) = _; rw [List.take_nil]; rfl
      rw [this] at hs
      cases (hno s).symm.trans hs
    nd := hnod
    nn := hnod
    nr := hnod
    acc := ⟨[], [], List.nodup_nil, fun g => ⟨fun h => (by cases h), fun h => absurd h (hnl g)⟩, rfl, List.nodup_nil, fun g => ⟨fun h => (by cases h), fun h => absurd h.1 (hnl g)⟩, rfl⟩
    live := fun g hg => absurd hg (hnl g)
    count := ⟨[], fun g hg => absurd hg (hnl g), Nat.le_refl _⟩
    ops := ⟨Int.le_refl _, Int.le_refl _⟩
    lim := ⟨h1, h2⟩
    used := h1
    fuse := by show (-1 : Int) ≤ _; omega
    fault := by show (-1 : Int) ≤ _; omega
    names := Nat.le_refl _
    synced := Nat.le_refl _
    text := fun c hc => by cases hc
    bytes := fun g x hx => by cases hx
    rbytes := fun g x hx => by cases hx
    shorts := fun s g hs => by cases (hno s).symm.trans hs }
end
end Go.Proofs.Ytefjljdgdoklmaa
