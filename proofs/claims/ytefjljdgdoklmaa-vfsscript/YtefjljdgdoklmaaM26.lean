import Derived.Test.YtefjljdgdoklmaaM25
/-
  The two file systems side by side: plain mathematics.
-/
namespace Go.Proofs.Ytefjljdgdoklmaa
open Go.RowKit Go.Maps

def noName : ByteArray := ⟨#[]⟩
/-- A change, its file called by another name. -/
def Chg.to (rho : Nat → Nat) (c : Chg) : Chg := ⟨c.went, c.became, c.file.map rho⟩
/-- The directory behind the first k changes. -/
def Disk.dirAt (d : Disk) (k : Nat) : DataW Unit := (d.changes.take k).foldl applyD d.synced
/-- A file that the synced directory or a change tells of. -/
def Disk.live (d : Disk) (g : Nat) : Prop := (∃ s, fileOf d.synced s = some g) ∨ ∃ c, c ∈ d.changes ∧ c.file = some g
structure Sim (rho : Nat → Nat) (d : Disk) (r : RDisk) : Prop where
  limit : r.limit = d.limit
  on : r.off = !d.on
  n : r.n = d.ops
  fuse : r.fuse = max d.fuse (-1)
  fault : r.fault = max d.fault (-1)
  fail : 0 ≤ d.fault → r.fail = d.fail ∧ d.fail ≠ 0
  changes : r.changes = d.changes.map (Chg.to rho)
  synced : ∀ s, fileOf r.synced s = (fileOf d.synced s).map rho
  files : ∀ g, d.live g → r.files (rho g) = d.files g
  inj : ∀ g g', d.live g → d.live g' → rho g = rho g' → g = g'
  names : ∀ s, fileOf d.names s = fileOf (d.changes.foldl applyD d.synced) s
  empty : fileOf d.synced noName = none
  became : ∀ c, c ∈ d.changes → ∀ g, c.file = some g → c.became ≠ noName
  dmap : IsMap d.synced
  nmap : IsMap d.names
  rmap : IsMap r.synced

theorem size_zero {s : ByteArray} (h : s.size = 0) : s = noName := by
  obtain ⟨⟨l⟩⟩ := s
  cases l with
  | nil => rfl
  | cons a t => simp [ByteArray.size] at h
/-- One change, in both words. -/
theorem apply_both (rho : Nat → Nat) (D E : DataW Unit) (hD : IsMap D) (hE : IsMap E) (c : Chg) (h : ∀ s, fileOf E s = (fileOf D s).map rho) (h0 : fileOf D noName = none) (hc : ∀ g, c.file = some g → c.became ≠ noName) :
    (∀ s, fileOf (applyR E (c.to rho)) s = (fileOf (applyD D c) s).map rho) ∧ fileOf (applyD D c) noName = none := by
  obtain ⟨went, became, file⟩ := c
  refine ⟨fun s => ?_, ?_⟩
  · rw [fileOf_applyR' E hE, fileOf_apply D hD]
    cases file with
    | none =>
      show (if s = went ∧ went.size ≠ 0 then none else fileOf E s) = (if s = went then none else fileOf D s).map rho
      by_cases e : s = went
      · rw [if_pos e]
        by_cases hw : went.size = 0
        · rw [if_neg (fun x => x.2 hw), h, e, size_zero hw, h0]
        · rw [if_pos ⟨e, hw⟩]; rfl
      · rw [if_neg e, if_neg (fun x => e x.1), h]
    | some g =>
      show (if s = became then some (rho g) else if s = went ∧ went.size ≠ 0 then none else fileOf E s) = (if s = became then some g else if s = went then none else fileOf D s).map rho
      by_cases e1 : s = became
      · rw [if_pos e1, if_pos e1]; rfl
      · rw [if_neg e1, if_neg e1]
        by_cases e : s = went
        · rw [if_pos e]
          by_cases hw : went.size = 0
          · rw [if_neg (fun x => x.2 hw), h, e, size_zero hw, h0]
          · rw [if_pos ⟨e, hw⟩]; rfl
        · rw [if_neg e, if_neg (fun x => e x.1), h]
  · rw [fileOf_apply D hD]
    cases file with
    | none =>
      show (if noName = went then none else fileOf D noName) = none
      split
      · rfl
      · exact h0
    | some g =>
      show (if noName = became then some g else if noName = went then none else fileOf D noName) = none
      rw [if_neg (fun e => hc g rfl e.symm)]
      split
      · rfl
      · exact h0
theorem fold_both (rho : Nat → Nat) (l : List Chg) : ∀ (D E : DataW Unit), IsMap D → IsMap E → (∀ s, fileOf E s = (fileOf D s).map rho) → fileOf D noName = none → (∀ c, c ∈ l → ∀ g, c.file = some g → c.became ≠ noName) →
    (∀ s, fileOf ((l.map (Chg.to rho)).foldl applyR E) s = (fileOf (l.foldl applyD D) s).map rho) ∧ fileOf (l.foldl applyD D) noName = none := by
  induction l with
  | nil => exact fun D E _ _ h h0 _ => ⟨h, h0⟩
  | cons c r ih =>
    intro D E hD hE h h0 hc
    have h1 := apply_both rho D E hD hE c h h0 (hc c (by simp))
    exact ih _ _ (isMap_apply hD c) (isMap_applyR hE _) h1.1 h1.2 (fun c' h' => hc c' (by simp [h']))
section
variable {rho : Nat → Nat} {d : Disk} {r : RDisk}
theorem Sim.dir (h : Sim rho d r) (k : Nat) (s : ByteArray) : fileOf (r.dir k) s = (fileOf (d.dirAt k) s).map rho := by
  unfold RDisk.dir Disk.dirAt
  rw [h.changes, ← List.map_take]
  exact (fold_both rho (d.changes.take k) d.synced r.synced h.dmap h.rmap h.synced h.empty (fun c hc => h.became c (List.mem_of_mem_take hc))).1 s
theorem Sim.now (h : Sim rho d r) (s : ByteArray) : fileOf r.now s = (fileOf d.names s).map rho := by
  rw [h.names]
  unfold RDisk.now
  rw [h.changes]
  exact (fold_both rho d.changes d.synced r.synced h.dmap h.rmap h.synced h.empty h.became).1 s
theorem Sim.noEmpty (h : Sim rho d r) : fileOf d.names noName = none := by
  rw [h.names]
  exact (fold_both rho d.changes d.synced r.synced h.dmap h.rmap h.synced h.empty h.became).2
/-- What is named now is live. -/
theorem Sim.named (h : Sim rho d r) {s : ByteArray} {g : Nat} (hs : fileOf d.names s = some g) : d.live g := by
  rw [h.names] at hs
  rcases fileOf_folded d.changes h.dmap hs with hs | ⟨c, h1, h2⟩
  · exact .inl ⟨s, hs⟩
  · exact .inr ⟨c, h1, h2⟩
theorem tick_max (z : Int) : tick (max z (-1)) = max (tick z) (-1) := by
  unfold tick
  split <;> split <;> omega
theorem Sim.tick (h : Sim rho d r) : Sim rho d.tick r.tick where
  limit := h.limit
  on := h.on
  n := by show r.n + 1 = d.ops + 1; rw [h.n]
  fuse := by show Ytefjljdgdoklmaa.tick r.fuse = max (Ytefjljdgdoklmaa.tick d.fuse) (-1); rw [h.fuse, tick_max]
  fault := by show Ytefjljdgdoklmaa.tick r.fault = max (Ytefjljdgdoklmaa.tick d.fault) (-1); rw [h.fault, tick_max]
  fail := fun h0 => h.fail (by
    have h1 : 0 ≤ Ytefjljdgdoklmaa.tick d.fault := h0
    unfold Ytefjljdgdoklmaa.tick at h1
    split at h1 <;> omega)
  changes := h.changes
  synced := h.synced
  files := h.files
  inj := h.inj
  names := h.names
  empty := h.empty
  became := h.became
  dmap := h.dmap
  nmap := h.nmap
  rmap := h.rmap
theorem Sim.guard (h : Sim rho d r) (right : Bool) : Sim rho (d.guard right).2 (r.begin right).2 ∧ ((d.guard right).1 = none → (r.begin right).1 = 0 ∧ (d.guard right).2 = d.tick ∧ (r.begin right).2 = r.tick) ∧ ∀ z, (d.guard right).1 = some z → (r.begin right).1 = z ∧ z ≠ 0 := by
  have bad : ∀ (e : Int) (d1 : Disk) (r1 : RDisk), d.guard right = (some e, d1) → r.begin right = (e, r1) → e ≠ 0 → Sim rho d1 r1 → Sim rho (d.guard right).2 (r.begin right).2 ∧ ((d.guard right).1 = none → (r.begin right).1 = 0 ∧ (d.guard right).2 = d.tick ∧ (r.begin right).2 = r.tick) ∧ ∀ z, (d.guard right).1 = some z → (r.begin right).1 = z ∧ z ≠ 0 := by
    intro e d1 r1 h1 h2 h3 h4
    rw [h1, h2]
    refine ⟨h4, fun x => (by cases x), fun z x => ?_⟩
    obtain rfl : e = z := by simpa using x
    exact ⟨rfl, h3⟩
  have hon := h.on
  have hf := h.fuse
  have hg := h.fault
  cases right with
  | false => exact bad 2 d r rfl rfl (by decide) h
  | true =>
    cases hd : d.on with
    | false =>
      have ho : r.off = true := by rw [hon, hd]; rfl
      refine bad 9 d r ?_ ?_ (by decide) h
      · unfold Disk.guard; rw [if_neg (by decide), if_pos hd]
      · unfold RDisk.begin RDisk.op; rw [if_pos rfl, if_pos ho]
    | true =>
      have ho : ¬ r.off = true := by rw [hon, hd]; decide
      have hd' : ¬ d.on = false := by rw [hd]; decide
      by_cases h1 : d.fuse = 0
      · refine bad 9 { d.tick with on := false } { r.tick with off := true } ?_ ?_ (by decide) { h.tick with on := rfl }
        · unfold Disk.guard; rw [if_neg (by decide), if_neg hd', if_pos h1]
        · unfold RDisk.begin RDisk.op; rw [if_pos rfl, if_neg ho, if_pos (by omega)]
      · by_cases h2 : d.fault = 0
        · have h3 := h.fail (by omega)
          refine bad d.fail d.tick r.tick ?_ ?_ h3.2 h.tick
          · unfold Disk.guard; rw [if_neg (by decide), if_neg hd', if_neg h1, if_pos h2]
          · unfold RDisk.begin RDisk.op; rw [if_pos rfl, if_neg ho, if_neg (by omega), if_pos (by omega), h3.1]
        · have e1 : d.guard true = (none, d.tick) := by unfold Disk.guard; rw [if_neg (by decide), if_neg hd', if_neg h1, if_neg h2]
          have e2 : r.begin true = (0, r.tick) := by unfold RDisk.begin RDisk.op; rw [if_pos rfl, if_neg ho, if_neg (by omega), if_neg (by omega)]
          rw [e1, e2]
          exact ⟨h.tick, fun _ => ⟨rfl, rfl, rfl⟩, fun z x => by cases x⟩
/-- A file's bytes are others, in both. -/
theorem Sim.setF (h : Sim rho d r) {g : Nat} (hg : d.live g) (x : Fil) : Sim rho (d.setF g x) (r.setF (rho g) x) where
  limit := h.limit
  on := h.on
  n := h.n
  fuse := h.fuse
  fault := h.fault
  fail := h.fail
  changes := h.changes
  synced := h.synced
  files := fun g' hg' => by
    show (if rho g' = rho g then some x else r.files (rho g')) = if g' = g then some x else d.files g'
    by_cases e : g' = g
    · rw [if_pos e, e, if_pos rfl]
    · rw [if_neg e, if_neg (fun e' => e (h.inj g' g hg' hg e'))]
      exact h.files g' hg'
  inj := h.inj
  names := h.names
  empty := h.empty
  became := h.became
  dmap := h.dmap
  nmap := h.nmap
  rmap := h.rmap
/-- A change that tells of no new file, in both. -/
theorem Sim.change (h : Sim rho d r) (c : Chg) (hc : ∀ g, c.file = some g → d.live g ∧ c.became ≠ noName) : Sim rho (d.change c) (r.change (c.to rho)) := by
  have hlive : ∀ g, (d.change c).live g → d.live g := fun g hg => by
    rcases hg with hg | ⟨c', h1, h2⟩
    · exact .inl hg
    · rcases List.mem_append.1 h1 with h1 | h1
      · exact .inr ⟨c', h1, h2⟩
      · obtain rfl : c' = c := by simpa using h1
        exact (hc g h2).1
  exact {
    limit := h.limit
    on := h.on
    n := h.n
    fuse := h.fuse
    fault := h.fault
    fail := h.fail
    changes := by show r.changes ++ [c.to rho] = (d.changes ++ [c]).map (Chg.to rho); rw [h.changes, List.map_append]; rfl
    synced := h.synced
    files := fun g hg => h.files g (hlive g hg)
    inj := fun g g' hg hg' => h.inj g g' (hlive g hg) (hlive g' hg')
    names := fun s => by
      show fileOf (applyD d.names c) s = fileOf ((d.changes ++ [c]).foldl applyD d.synced) s
      rw [List.foldl_append]
      show _ = fileOf (applyD (d.changes.foldl applyD d.synced) c) s
      rw [fileOf_apply d.names h.nmap, fileOf_apply _ (isMap_fold d.changes h.dmap), h.names]
    empty := h.empty
    became := fun c' h1 g hg => by
      rcases List.mem_append.1 h1 with h1 | h1
      · exact h.became c' h1 g hg
      · obtain rfl : c' = c := by simpa using h1
        exact (hc g hg).2
    dmap := h.dmap
    nmap := isMap_apply h.nmap c
    rmap := h.rmap }
end
end Go.Proofs.Ytefjljdgdoklmaa

/-
  The two file systems side by side: new files, a synced directory, a crash.
-/
namespace Go.Proofs.Ytefjljdgdoklmaa
open Go.RowKit Go.Maps
section
variable {rho : Nat → Nat} {d : Disk} {r : RDisk}
/-- What files that are not live are called does not matter. -/
theorem Sim.recall (h : Sim rho d r) {rho' : Nat → Nat} (he : ∀ g, d.live g → rho' g = rho g) : Sim rho' d r where
  limit := h.limit
  on := h.on
  n := h.n
  fuse := h.fuse
  fault := h.fault
  fail := h.fail
  changes := by
    rw [h.changes]
    refine List.map_congr_left fun c hc => ?_
    obtain ⟨went, became, file⟩ := c
    cases file with
    | none => rfl
    | some g => show Chg.mk went became (some (rho g)) = Chg.mk went became (some (rho' g)); rw [he g (.inr ⟨_, hc, rfl⟩)]
  synced := fun s => by
    rw [h.synced]
    cases e : fileOf d.synced s with
    | none => rfl
    | some g => show some (rho g) = some (rho' g); rw [he g (.inl ⟨s, e⟩)]
  files := fun g hg => by rw [he g hg]; exact h.files g hg
  inj := fun g g' hg hg' e => h.inj g g' hg hg' (by rw [← he g hg, ← he g' hg']; exact e)
  names := h.names
  empty := h.empty
  became := h.became
  dmap := h.dmap
  nmap := h.nmap
  rmap := h.rmap
theorem Sim.add (h : Sim rho d r) (name : ByteArray) (hn : name ≠ noName) (g g' : Nat) (hg : ¬ d.live g) (hg' : ∀ k, d.live k → rho k ≠ g') : Sim (fun k => if k = g then g' else rho k) (d.add name g) (r.add name g') := by
  have hne : ∀ k, d.live k → k ≠ g := fun k hk e => hg (e ▸ hk)
  have h1 : Sim (fun k => if k = g then g' else rho k) d r := h.recall (fun k hk => if_neg (hne k hk))
  have hlive : ∀ k, (d.add name g).live k → d.live k ∨ k = g := fun k hk => by
    rcases hk with hk | ⟨c, h1, h2⟩
    · exact .inl (.inl hk)
    · rcases List.mem_append.1 h1 with h1 | h1
      · exact .inl (.inr ⟨c, h1, h2⟩)
      · obtain rfl : c = ⟨⟨#[]⟩, name, some g⟩ := by simpa using h1
        exact .inr (by simpa using h2.symm)
  exact {
    limit := h.limit
    on := h.on
    n := h.n
    fuse := h.fuse
    fault := h.fault
    fail := h.fail
    changes := by
      show r.changes ++ [⟨⟨#[]⟩, name, some g'⟩] = (d.changes ++ [(⟨⟨#[]⟩, name, some g⟩ : Chg)]).map (Chg.to fun k => if k = g then g' else rho k)
      rw [h1.changes, List.map_append]
      simp [Chg.to]
    synced := h1.synced
    files := fun k hk => by
      show (if (if k = g then g' else rho k) = g' then some ⟨[], 0⟩ else r.files (if k = g then g' else rho k)) = if k = g then some ⟨[], 0⟩ else d.files k
      rcases hlive k hk with hk | rfl
      · have e := hne k hk
        rw [if_neg e, if_neg (hg' k hk), if_neg e]
        exact h.files k hk
      · rw [if_pos rfl, if_pos rfl, if_pos rfl]
    inj := fun a b ha hb e => by
      show a = b
      have e : (if a = g then g' else rho a) = (if b = g then g' else rho b) := e
      rcases hlive a ha with ha | ea
      · rcases hlive b hb with hb | eb
        · rw [if_neg (hne a ha), if_neg (hne b hb)] at e
          exact h.inj a b ha hb e
        · rw [if_neg (hne a ha), if_pos eb] at e
          exact absurd e (hg' a ha)
      · rcases hlive b hb with hb | eb
        · rw [if_pos ea, if_neg (hne b hb)] at e
          exact absurd e.symm (hg' b hb)
        · rw [ea, eb]
    names := fun s => by
      show fileOf (applyD d.names ⟨⟨#[]⟩, name, some g⟩) s = fileOf ((d.changes ++ [(⟨⟨#[]⟩, name, some g⟩ : Chg)]).foldl applyD d.synced) s
      rw [List.foldl_append, List.foldl_cons, List.foldl_nil]
      rw [fileOf_apply d.names h.nmap, fileOf_apply _ (isMap_fold d.changes h.dmap), h.names]
    empty := h.empty
    became := fun c h2 k hk => by
      rcases List.mem_append.1 h2 with h2 | h2
      · exact h.became c h2 k hk
      · obtain rfl : c = ⟨⟨#[]⟩, name, some g⟩ := by simpa using h2
        exact hn
    dmap := h.dmap
    nmap := isMap_apply h.nmap ⟨⟨#[]⟩, name, some g⟩
    rmap := h.rmap }
theorem isMap_foldR (l : List Chg) : ∀ {D : DataW Unit}, IsMap D → IsMap (l.foldl applyR D) := by
  induction l with
  | nil => exact fun h => h
  | cons c r ih => exact fun h => ih (isMap_applyR h c)
/-- The directory is synced, in both. -/
theorem Sim.settled (h : Sim rho d r) : Sim rho d.settled { r with synced := r.now, changes := [] } := by
  have hfold := fold_both rho d.changes d.synced r.synced h.dmap h.rmap h.synced h.empty h.became
  have hlive : ∀ g, d.settled.live g → d.live g := fun g hg => by
    rcases hg with ⟨s, hs⟩ | ⟨c, h1, _⟩
    · exact h.named (s := s) (by rw [h.names]; exact hs)
    · cases h1
  exact {
    limit := h.limit
    on := h.on
    n := h.n
    fuse := h.fuse
    fault := h.fault
    fail := h.fail
    changes := rfl
    synced := fun s => by show fileOf r.now s = _; rw [h.now, h.names]; rfl
    files := fun g hg => h.files g (hlive g hg)
    inj := fun g g' hg hg' => h.inj g g' (hlive g hg) (hlive g' hg')
    names := fun s => h.names s
    empty := hfold.2
    became := fun c hc => by cases hc
    dmap := isMap_fold d.changes h.dmap
    nmap := h.nmap
    rmap := isMap_foldR r.changes h.rmap }
/-- Fuses and faults, in both. -/
theorem Sim.fused (h : Sim rho d r) (a : Int) : Sim rho { d with fuse := a } { r with fuse := max (-1) a } := { h with fuse := Int.max_comm _ _ }
theorem Sim.faulted (h : Sim rho d r) (a z : Int) (hz : z ≠ 0) : Sim rho { d with fault := a, fail := z } { r with fault := max (-1) a, fail := z } := { h with fault := Int.max_comm _ _, fail := fun _ => ⟨rfl, hz⟩ }
end
end Go.Proofs.Ytefjljdgdoklmaa

/-
  The two file systems side by side: the names of a directory, and which files have them.
-/
namespace Go.Proofs.Ytefjljdgdoklmaa
open Go.RowKit Go.Maps Go.Sort
theorem mem_strKeys {S : DataW Unit} (h : Full S) {s : ByteArray} {g : Nat} (hs : fileOf S s = some g) : s.data.toList ∈ strKeys S := by
  obtain ⟨es, rfl, h⟩ := h
  unfold fileOf at hs
  simp only [DataW.atKey] at hs
  cases e : es.find? (fun p => p.1.sameKey (key s)) with
  | none => rw [e] at hs; simp at hs
  | some q =>
    have hq := List.mem_of_find?_eq_some e
    have hk := List.find?_some e
    obtain ⟨y, g', rfl⟩ := h q hq
    have : y = s.data.toList := by simpa [Lit.sameKey, key] using hk
    exact List.mem_map.2 ⟨_, hq, by rw [← this]; rfl⟩
/-- A name is in the list of a directory's names just if it is a file there. -/
theorem mem_namesOf {S : DataW Unit} (h : Full S) (s : ByteArray) : s ∈ namesOf S ↔ ∃ g, fileOf S s = some g := by
  refine ⟨names_file h, fun ⟨g, hg⟩ => ?_⟩
  refine List.mem_map.2 ⟨s.data.toList, (List.mergeSort_perm _ _).mem_iff.2 (mem_strKeys h hg), ?_⟩
  simp [toBA]
/-- Two directories with the same names list them alike. -/
theorem namesOf_eq {D E : DataW Unit} (hD : Full D) (hE : Full E) (dD : (strKeys D).Nodup) (dE : (strKeys E).Nodup) (h : ∀ s, (∃ g, fileOf D s = some g) ↔ ∃ g, fileOf E s = some g) : namesOf D = namesOf E := by
  have hm : ∀ x, x ∈ strKeys D ↔ x ∈ strKeys E := fun x => by
    constructor
    · intro hx
      obtain ⟨g, hg⟩ := (h (toBA x)).1 (hD.name hx)
      have := mem_strKeys hE hg
      simpa [toBA] using this
    · intro hx
      obtain ⟨g, hg⟩ := (h (toBA x)).2 (hE.name hx)
      have := mem_strKeys hD hg
      simpa [toBA] using this
  have hp : (strKeys D).Perm (strKeys E) := (List.perm_ext_iff_of_nodup dD dE).2 hm
  unfold namesOf
  rw [show (strKeys D).mergeSort leB = (strKeys E).mergeSort leB from mergeSort_of_perm hp]
theorem insert_perm {H : Type} (x : Lit × DataW H) : ∀ l : List (Lit × DataW H), (DataW.insert x l).Perm (x :: l)
  | [] => by simp [DataW.insert]
  | y :: r => by
    unfold DataW.insert
    split
    · exact List.Perm.refl _
    · exact ((insert_perm x r).cons y).trans (List.Perm.swap x y r)
/-- A directory: names with files, each name once. -/
def Nod (D : DataW Unit) : Prop := Full D ∧ (strKeys D).Nodup
theorem Nod.del {D : DataW Unit} (h : Nod D) (k : Lit) : Nod (D.del k) := by
  refine ⟨h.1.del k, ?_⟩
  obtain ⟨⟨es, rfl, _⟩, hn⟩ := h
  show ((es.filter fun p => !p.1.sameKey k).map fun p => strOf p.1).Nodup
  exact List.Nodup.sublist (List.Sublist.map _ List.filter_sublist) hn
theorem Nod.put {D : DataW Unit} (h : Nod D) (x : List UInt8) (g : Nat) : Nod (D.put (.string x) (.lit (.int .i64 (g : Nat)))) := by
  refine ⟨h.1.put x g, ?_⟩
  obtain ⟨⟨es, rfl, hf⟩, hn⟩ := h
  show ((DataW.insert (.string x, .lit (.int .i64 (g : Nat))) (es.filter fun p => !p.1.sameKey (.string x))).map fun p => strOf p.1).Nodup
  refine (((insert_perm _ _).map _).nodup_iff).2 ?_
  rw [List.map_cons, List.nodup_cons]
  refine ⟨fun hx => ?_, List.Nodup.sublist (List.Sublist.map _ List.filter_sublist) hn⟩
  obtain ⟨p, hp, e⟩ := List.mem_map.1 hx
  obtain ⟨h1, h2⟩ := List.mem_filter.1 hp
  obtain ⟨y, g', rfl⟩ := hf p h1
  have : y = x := by simpa [strOf] using e
  subst this
  simp [Lit.sameKey] at h2
theorem Nod.apply {D : DataW Unit} (h : Nod D) (c : Chg) : Nod (applyD D c) := by
  obtain ⟨went, became, file⟩ := c
  cases file with
  | none => exact h.del _
  | some g => exact (h.del _).put _ _
theorem Nod.applyR {D : DataW Unit} (h : Nod D) (c : Chg) : Nod (applyR D c) := by
  have hE : Nod (if c.went.size = 0 then D else D.del (key c.went)) := by
    split
    · exact h
    · exact h.del _
  obtain ⟨went, became, file⟩ := c
  cases file with
  | none => exact hE
  | some g => exact hE.put _ _
theorem Nod.fold (l : List Chg) : ∀ {D : DataW Unit}, Nod D → Nod (l.foldl applyD D) := by
  induction l with
  | nil => exact fun h => h
  | cons c r ih => exact fun h => ih (h.apply c)
theorem Nod.foldR (l : List Chg) : ∀ {D : DataW Unit}, Nod D → Nod (l.foldl Go.Proofs.Ytefjljdgdoklmaa.applyR D) := by
  induction l with
  | nil => exact fun h => h
  | cons c r ih => exact fun h => ih (h.applyR c)
/-- Both sides list the same names. -/
theorem namesOf_both {rho : Nat → Nat} {D E : DataW Unit} (hD : Nod D) (hE : Nod E) (h : ∀ s, fileOf E s = (fileOf D s).map rho) : namesOf E = namesOf D := by
  refine (namesOf_eq hD.1 hE.1 hD.2 hE.2 fun s => ?_).symm
  rw [h]
  cases fileOf D s with
  | none => simp
  | some g => simp
end Go.Proofs.Ytefjljdgdoklmaa

/-
  The two file systems side by side: no file has two names; a crash.
-/
namespace Go.Proofs.Ytefjljdgdoklmaa
open Go.RowKit Go.Maps Go.Sort
/-- No file has two names in a directory. -/
def Uni (D : DataW Unit) : Prop := ∀ s s' g, fileOf D s = some g → fileOf D s' = some g → s = s'
/-- No directory that a crash could leave gives a file two names. -/
def Disk.uni (d : Disk) : Prop := ∀ k, Uni (d.dirAt k)
theorem Uni.apply {D : DataW Unit} (hD : IsMap D) (h : Uni D) (c : Chg) (hc : ∀ g, c.file = some g → (∀ s, fileOf D s = some g → s = c.went)) : Uni (applyD D c) := by
  obtain ⟨went, became, file⟩ := c
  intro s s' g hs hs'
  rw [fileOf_apply D hD] at hs hs'
  cases file with
  | none =>
    replace hs : (if s = went then none else fileOf D s) = some g := hs
    replace hs' : (if s' = went then none else fileOf D s') = some g := hs'
    split at hs
    · cases hs
    · split at hs'
      · cases hs'
      · exact h s s' g hs hs'
  | some f =>
    replace hs : (if s = became then some f else if s = went then none else fileOf D s) = some g := hs
    replace hs' : (if s' = became then some f else if s' = went then none else fileOf D s') = some g := hs'
    have hw : ∀ t, fileOf D t = some f → t = went := hc f rfl
    by_cases e1 : s = became
    · by_cases e2 : s' = became
      · rw [e1, e2]
      · rw [if_pos e1] at hs
        rw [if_neg e2] at hs'
        split at hs'
        · cases hs'
        · next e3 => cases hs; exact absurd (hw s' hs') e3
    · rw [if_neg e1] at hs
      split at hs
      · cases hs
      · next e3 =>
        by_cases e2 : s' = became
        · rw [if_pos e2] at hs'
          cases hs'
          exact absurd (hw s hs) e3
        · rw [if_neg e2] at hs'
          split at hs'
          · cases hs'
          · exact h s s' g hs hs'
theorem uni_change {d : Disk} (hm : IsMap d.synced) (h : d.uni) (c : Chg) (hc : ∀ g, c.file = some g → ∀ s, fileOf (d.changes.foldl applyD d.synced) s = some g → s = c.went) : (d.change c).uni := by
  intro k
  show Uni (((d.changes ++ [c]).take k).foldl applyD d.synced)
  by_cases hk : k ≤ d.changes.length
  · rw [List.take_append_of_le_length hk]
    exact h k
  · have e : (d.changes ++ [c]).take k = d.changes ++ [c] := List.take_of_length_le (by simp; omega)
    rw [e, List.foldl_append, List.foldl_cons, List.foldl_nil]
    have h1 := h d.changes.length
    unfold Disk.dirAt at h1
    rw [List.take_length] at h1
    exact h1.apply (isMap_fold d.changes hm) c hc
theorem uni_settled {d : Disk} (h : d.uni) : d.settled.uni := by
  intro k
  show Uni (([].take k : List Chg).foldl applyD (d.changes.foldl applyD d.synced))
  rw [List.take_nil, List.foldl_nil]
  have h1 := h d.changes.length
  unfold Disk.dirAt at h1
  rwa [List.take_length] at h1
theorem left_eq (d : Disk) (dir : Int) : d.left dir = d.dirAt (keptN dir d.changes.length) := rfl
theorem uni_crashed {d : Disk} (h : d.uni) (dir : Int) (ks : List Int) : (d.crashed dir ks).uni := by
  intro k
  show Uni (([].take k : List Chg).foldl applyD (d.left dir))
  rw [List.take_nil, List.foldl_nil, left_eq]
  exact h _

/-- The files behind a crash. -/
theorem crash_other {S : DataW Unit} (l : List (ByteArray × Int)) : ∀ (st : (Nat → Option Fil) × Int) (g : Nat), (∀ p ∈ l, fileOf S p.1 ≠ some g) → (l.foldl (crashStep S) st).1 g = st.1 g := by
  induction l with
  | nil => exact fun _ _ _ => rfl
  | cons p r ih =>
    intro st g h
    rw [List.foldl_cons, ih _ g (fun q hq => h q (by simp [hq]))]
    have hp := h p (by simp)
    unfold crashStep
    cases e : fileOf S p.1 with
    | none => rfl
    | some k =>
      simp only
      cases e2 : st.1 k with
      | none => rfl
      | some x => exact if_neg (fun e3 => hp (by rw [e, e3]))
theorem crash_file {S : DataW Unit} (hu : Uni S) (l : List (ByteArray × Int)) : ∀ (st : (Nat → Option Fil) × Int), (l.map (·.1)).Nodup → ∀ p ∈ l, ∀ g x, fileOf S p.1 = some g → st.1 g = some x → (l.foldl (crashStep S) st).1 g = some (x.crash p.2) := by
  induction l with
  | nil => exact fun _ _ p hp => by cases hp
  | cons a r ih =>
    intro st hnd p hp g x hg hx
    rw [List.map_cons, List.nodup_cons] at hnd
    rw [List.foldl_cons]
    have hne : ∀ q ∈ r, q.1 ≠ a.1 := fun q hq e => hnd.1 (List.mem_map.2 ⟨q, hq, e⟩)
    rcases List.mem_cons.1 hp with rfl | hp'
    · rw [crash_other r _ g (fun q hq e => hne q hq (hu _ _ g e hg))]
      obtain ⟨s, kv⟩ := p
      rw [crashStep_some S st s kv g x hg hx]
      exact if_pos rfl
    · refine ih _ hnd.2 p hp' g x hg ?_
      have h1 : (crashStep S st a).1 g = st.1 g := crash_other [a] st g (fun q hq e => by
        have e0 : q = a := by simpa using hq
        rw [e0] at e
        exact hne p hp' (hu _ _ g hg e))
      rw [h1, hx]
end Go.Proofs.Ytefjljdgdoklmaa
