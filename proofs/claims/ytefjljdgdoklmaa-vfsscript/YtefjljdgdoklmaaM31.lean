import Derived.Test.YtefjljdgdoklmaaM30
/-
  The two file systems side by side: new files, names, crashes keep what holds between two calls.
-/
namespace Go.Proofs.Ytefjljdgdoklmaa
open Go.RowKit Go.Maps Go.Sort
section
variable {i : Nat} {rho : Nat → Nat} {d : Disk} {r : RDisk}
theorem Inv.uniNames (h : Inv i rho d r) : Uni d.names := fun s s' g h1 h2 => by
  have h3 := h.uni d.changes.length
  unfold Disk.dirAt at h3
  rw [List.take_length] at h3
  rw [h.sim.names] at h1 h2
  exact h3 s s' g h1 h2
theorem Inv.add (h : Inv i rho d r) {name : ByteArray} (hn : name ≠ noName) (hsz : name.size ≤ 1000) (hf : fileOf d.names name = none) {g g' : Nat} (hg : ¬ d.live g) (hg' : ∀ k, d.live k → rho k ≠ g') : Inv (i + 1) (fun k => if k = g then g' else rho k) (d.add name g) (r.add name g') := by
  have hlive : ∀ k, (d.add name g).live k → d.live k ∨ k = g := fun k hk => by
    rcases hk with hk | ⟨c, h1, h2⟩
    · exact .inl (.inl hk)
    · rcases List.mem_append.1 h1 with h1 | h1
      · exact .inl (.inr ⟨c, h1, h2⟩)
      · obtain rfl : c = ⟨⟨#[]⟩, name, some g⟩ := by simpa using h1
        exact .inr (by simpa using h2.symm)
  exact {
    sim := h.sim.add name hn g g' hg hg'
    uni := uni_change (d := d.setF g ⟨[], 0⟩) h.sim.dmap h.uni ⟨⟨#[]⟩, name, some g⟩ fun k hk s hs => by
      have e : g = k := by simpa using hk
      subst e
      refine absurd (h.sim.named (s := s) ?_) hg
      rw [h.sim.names]
      exact hs
    nd := h.nd
    nn := h.nn.apply ⟨⟨#[]⟩, name, some g⟩
    nr := h.nr
    acc := h.acc.add h.sim.nmap h.sim.noEmpty hf hg
    live := fun k hk => by
      by_cases e : k = g
      · exact ⟨⟨[], 0⟩, if_pos e⟩
      · obtain ⟨z, hz⟩ := h.live k ((hlive k hk).resolve_right e)
        exact ⟨z, (if_neg e).trans hz⟩
    count := by
      obtain ⟨L, h1, h2⟩ := h.count
      refine ⟨g :: L, fun k hk => ?_, by rw [List.length_cons]; omega⟩
      rcases hlive k hk with hk | hk
      · exact List.mem_cons_of_mem _ (h1 k hk)
      · rw [hk]; exact List.mem_cons_self
    ops := ⟨h.ops.1, by have := h.ops.2; show d.ops ≤ _; omega⟩
    lim := h.lim
    used := h.used
    fuse := h.fuse
    fault := h.fault
    names := Nat.le_trans (size_apply d.names ⟨⟨#[]⟩, name, some g⟩) (Nat.succ_le_succ h.names)
    synced := by
      have := h.synced
      show Maps.size d.synced + (d.changes ++ [(⟨⟨#[]⟩, name, some g⟩ : Chg)]).length ≤ i + 1
      rw [List.length_append, List.length_singleton]
      omega
    text := fun c hc => by
      rcases List.mem_append.1 hc with hc | hc
      · exact h.text c hc
      · obtain rfl : c = ⟨⟨#[]⟩, name, some g⟩ := by simpa using hc
        exact ⟨Nat.zero_le _, hsz⟩
    bytes := fun k z hz => by
      replace hz : (if k = g then some ⟨[], 0⟩ else d.files k) = some z := hz
      split at hz
      · cases hz; exact ⟨Nat.zero_le _, Nat.zero_le _⟩
      · have := h.bytes k z hz; omega
    rbytes := fun k z hz => by
      replace hz : (if k = g' then some ⟨[], 0⟩ else r.files k) = some z := hz
      split at hz
      · cases hz; exact ⟨Nat.zero_le _, Nat.zero_le _⟩
      · have := h.rbytes k z hz; omega
    shorts := h.shorts }
/-- A change of names that tells of no new file. -/
theorem Inv.changed (h : Inv i rho d r) (n : Int) (c : Chg) (hc : ∀ g, c.file = some g → d.live g ∧ c.became ≠ noName) (hu : ∀ g, c.file = some g → ∀ s, fileOf d.names s = some g → s = c.went) (ht : c.went.size ≤ 1000 ∧ c.became.size ≤ 1000) (ha : Acc ((d.lose n).change c)) : Inv (i + 1) rho ((d.lose n).change c) (r.change (c.to rho)) := by
  have hlive := live_change (d := d) (c := c) (fun g hg => (hc g hg).1) n
  exact {
    sim := Sim.change (d := d.lose n) { h.sim with } c hc
    uni := uni_change (d := d.lose n) h.sim.dmap h.uni c fun g hg s hs => hu g hg s (by rw [h.sim.names]; exact hs)
    nd := h.nd
    nn := h.nn.apply c
    nr := h.nr
    acc := ha
    live := fun k hk => h.live k ((hlive k).1 hk)
    count := let ⟨L, h1, h2⟩ := h.count; ⟨L, fun k hk => h1 k ((hlive k).1 hk), Nat.le_succ_of_le h2⟩
    ops := ⟨h.ops.1, by have := h.ops.2; show d.ops ≤ _; omega⟩
    lim := h.lim
    used := h.used
    fuse := h.fuse
    fault := h.fault
    names := Nat.le_trans (size_apply d.names c) (Nat.succ_le_succ h.names)
    synced := by
      have := h.synced
      show Maps.size d.synced + (d.changes ++ [c]).length ≤ i + 1
      rw [List.length_append, List.length_singleton]
      omega
    text := fun c' hc' => by
      rcases List.mem_append.1 hc' with hc' | hc'
      · exact h.text c' hc'
      · obtain rfl : c' = c := by simpa using hc'
        exact ht
    bytes := fun k z hz => by have := h.bytes k z hz; omega
    rbytes := fun k z hz => by have := h.rbytes k z hz; omega
    shorts := h.shorts }
theorem Inv.removed (h : Inv i rho d r) {name : ByteArray} (hsz : name.size ≤ 1000) {g : Nat} {x : Fil} (hs : fileOf d.names name = some g) (hx : d.files g = some x) : Inv (i + 1) rho ((d.lose x.bytes.length).change ⟨name, ⟨#[]⟩, none⟩) (r.change ⟨name, ⟨#[]⟩, none⟩) :=
  h.changed _ ⟨name, ⟨#[]⟩, none⟩ (fun g hg => by cases hg) (fun g hg => by cases hg) ⟨hsz, Nat.zero_le _⟩ (h.acc.removed h.sim.nmap h.uniNames hs hx (h.sim.named hs))
theorem Inv.renamed (h : Inv i rho d r) {s t : ByteArray} (hs1 : s.size ≤ 1000) (ht1 : t.size ≤ 1000) (ht0 : t ≠ noName) (hne : s ≠ t) {g : Nat} (hs : fileOf d.names s = some g) : Inv (i + 1) rho ((d.lose (d.lenAt t)).change ⟨s, t, some g⟩) (r.change ⟨s, t, some (rho g)⟩) :=
  h.changed _ ⟨s, t, some g⟩ (fun g' hg => by
    have e : g = g' := by simpa using hg
    exact e ▸ ⟨h.sim.named hs, ht0⟩) (fun g' hg s' hs' => by
    have e : g = g' := by simpa using hg
    exact h.uniNames s' s g (by rw [e]; exact hs') hs) ⟨hs1, ht1⟩ (h.acc.renamed h.sim.nmap h.uniNames (fun s' g' h' => ⟨h.sim.named h', h.live g' (h.sim.named h')⟩) hne hs)
theorem settled_live (h : Inv i rho d r) (k : Nat) (hk : d.settled.live k) : d.live k := by
  rcases hk with ⟨s, hs⟩ | ⟨c, h1, _⟩
  · exact h.sim.named (s := s) (by rw [h.sim.names]; exact hs)
  · cases h1
theorem Inv.settled (h : Inv i rho d r) : Inv i rho d.settled { r with synced := r.now, changes := [] } where
  sim := h.sim.settled
  uni := uni_settled h.uni
  nd := Nod.fold d.changes h.nd
  nn := h.nn
  nr := Nod.foldR r.changes h.nr
  acc := h.acc.settled h.sim.names (fun s g hs => h.sim.named hs)
  live := fun k hk => h.live k (settled_live h k hk)
  count := let ⟨L, h1, h2⟩ := h.count; ⟨L, fun k hk => h1 k (settled_live h k hk), h2⟩
  ops := h.ops
  lim := h.lim
  used := by have h1 := h.used; have h2 := h.acc.order.1; show d.used - d.lost ≤ d.limit; omega
  fuse := h.fuse
  fault := h.fault
  names := h.names
  synced := by
    have h1 := h.synced
    have h2 := size_fold d.changes d.synced
    show Maps.size (d.changes.foldl applyD d.synced) + 0 ≤ i
    omega
  text := fun c hc => by cases hc
  bytes := h.bytes
  rbytes := h.rbytes
  shorts := short_fold d.changes d.synced h.sim.dmap h.shorts h.text
theorem Inv.fused (h : Inv i rho d r) {a : Int} (ha : a ≤ 9223372036854775807) : Inv i rho { d with fuse := a } { r with fuse := max (-1) a } :=
  h.numbers (h.sim.fused a) rfl rfl rfl rfl rfl rfl rfl rfl rfl h.ops ha h.fault
theorem Inv.faulted (h : Inv i rho d r) {a z : Int} (ha : a ≤ 9223372036854775807) (hz : z ≠ 0) : Inv i rho { d with fault := a, fail := z } { r with fault := max (-1) a, fail := z } :=
  h.numbers (h.sim.faulted a z hz) rfl rfl rfl rfl rfl rfl rfl rfl rfl h.ops h.fuse ha
theorem crashed_live (h : Inv i rho d r) (dir : Int) (ks : List Int) (k : Nat) (hk : (d.crashed dir ks).live k) : d.live k := by
  rcases hk with ⟨s, hs⟩ | ⟨c, h1, _⟩
  · replace hs : fileOf (d.left dir) s = some k := hs
    rw [left_eq] at hs
    rcases fileOf_folded _ h.sim.dmap hs with hs | ⟨c, h1, h2⟩
    · exact .inl ⟨_, hs⟩
    · exact .inr ⟨c, List.mem_of_mem_take h1, h2⟩
  · cases h1
theorem crash_len (x : Fil) (k : Int) (h : x.synced ≤ x.bytes.length) : (x.crash k).bytes.length ≤ x.bytes.length ∧ (x.crash k).synced ≤ (x.crash k).bytes.length := by
  have h1 := crashN_le x k h
  show (x.bytes.take (crashN x k)).length ≤ _ ∧ crashN x k ≤ (x.bytes.take (crashN x k)).length
  rw [List.length_take]
  omega
theorem Inv.crashed (h : Inv i rho d r) (hi : i ≤ 1000) (dir : Int) (ks : List Int) (gs : List Anew)
    (hlen : gs.length = (namesOf (r.dir (keptN dir r.changes.length))).length)
    (hg : ∀ (j : Nat) (p : Anew), gs[j]? = some p → (namesOf (r.dir (keptN dir r.changes.length)))[j]? = some p.1 ∧ ∃ g x, fileOf (r.dir (keptN dir r.changes.length)) p.1 = some g ∧ r.files g = some x ∧ p.2.2 = x.crash (ks.getD j 0)) (hnd : (gs.map (·.2.1)).Nodup) :
    Inv i (rhoC rho (d.left dir) gs) (d.crashed dir ks) { newR r gs with synced := newD (r.dir (keptN dir r.changes.length)) gs, changes := [], off := false, fuse := -1, fault := -1 } := by
  have hacc := Acc.crashed h.uni h.nd h.sim.dmap h.live dir ks
  have hinv := crash_inv (d.left dir) (crashList (namesOf (d.left dir)) ks) (d.files, 0) (fun g x hx => ⟨by have := (h.bytes g x hx).1; omega, (h.bytes g x hx).2⟩) (Int.le_refl _)
  have hnl : Nod (d.left dir) := by rw [left_eq]; exact Nod.fold _ h.nd
  have hsz : Maps.size (d.left dir) ≤ i := by
    have h1 := size_fold (d.changes.take (keptN dir d.changes.length)) d.synced
    have h2 := h.synced
    rw [List.length_take] at h1
    rw [left_eq]
    unfold Disk.dirAt
    omega
  exact {
    sim := h.sim.crashed h.uni h.nd h.nr dir ks _ rfl gs hlen hg hnd
    uni := uni_crashed h.uni dir ks
    nd := hnl
    nn := hnl
    nr := (Nod.foldR _ h.nr).newD gs
    acc := hacc
    live := fun k hk => hinv.2.2.2 k (h.live k (crashed_live h dir ks k hk))
    count := let ⟨L, h1, h2⟩ := h.count; ⟨L, fun k hk => h1 k (crashed_live h dir ks k hk), h2⟩
    ops := h.ops
    lim := h.lim
    used := Int.le_trans (h.acc.crash_used h.sim.dmap dir ks hacc) h.used
    fuse := by show (-1 : Int) ≤ _; omega
    fault := by show (-1 : Int) ≤ _; omega
    names := hsz
    synced := by show Maps.size (d.left dir) + 0 ≤ i; omega
    text := fun c hc => by cases hc
    bytes := fun k z hz => by
      have h1 := crash_less (S := d.left dir) (crashList (namesOf (d.left dir)) ks) (d.files, 0) k
      have h2 := hinv.1 k z hz
      replace hz : (List.foldl (crashStep (d.left dir)) (d.files, 0) (crashList (namesOf (d.left dir)) ks)).1 k = some z := hz
      rw [hz] at h1
      refine ⟨?_, h2.2⟩
      cases e : d.files k with
      | none =>
        replace h1 : z.bytes.length ≤ lenF (d.files k) := h1
        rw [e] at h1
        exact Nat.le_trans h1 (Nat.zero_le _)
      | some y =>
        replace h1 : z.bytes.length ≤ lenF (d.files k) := h1
        rw [e] at h1
        exact Nat.le_trans h1 (h.bytes k y e).1
    rbytes := fun k z hz => by
      replace hz : (newR r gs).files k = some z := hz
      by_cases hk : ∃ p ∈ gs, k = p.2.1
      · obtain ⟨p, hp, rfl⟩ := hk
        rw [newR_mem r gs hnd p hp] at hz
        cases hz
        obtain ⟨j, hj⟩ := List.mem_iff_getElem?.1 hp
        obtain ⟨_, g, x, _, h2, h3⟩ := hg j p hj
        have h4 := h.rbytes g x h2
        have h5 := crash_len x (ks.getD j 0) h4.2
        rw [h3]
        exact ⟨Nat.le_trans h5.1 h4.1, h5.2⟩
      · rw [newR_old r gs k (fun p hp e => hk ⟨p, hp, e⟩)] at hz
        exact h.rbytes k z hz
    shorts := fun s g hs => by
      replace hs : fileOf (d.left dir) s = some g := hs
      rw [left_eq] at hs
      exact short_fold _ d.synced h.sim.dmap h.shorts (fun c hc => h.text c (List.mem_of_mem_take hc)) s g hs }
/-- The start. -/
def dzero (limit : Int) : Disk := { limit := limit, names := .map [], synced := .map [], changes := [], files := fun _ => none, used := 0, lost := 0, on := true, ops := 0, fuse := -1, fault := -1, fail := 0 }
theorem Inv.start (limit : Int) (h1 : 0 ≤ limit) (h2 : limit ≤ 1073741824) : Inv 0 id (dzero limit) (rzero limit) := by
  have hno : ∀ s, fileOf (.map [] : DataW Unit) s = none := fun s => rfl
  have hnl : ∀ g, ¬ (dzero limit).live g := fun g hg => by
    rcases hg with ⟨s, hs⟩ | ⟨c, hc, _⟩
    · cases (hno s).symm.trans hs
    · cases hc
  have hnod : Nod (.map [] : DataW Unit) := ⟨Full.empty, List.nodup_nil⟩
  exact {
    sim := {
      limit := rfl
      on := rfl
      n := rfl
      fuse := rfl
      fault := rfl
      fail := fun h => absurd h (by show ¬ (0 : Int) ≤ -1; omega)
      changes := rfl
      synced := fun s => rfl
      files := fun g hg => absurd hg (hnl g)
      inj := fun g g' hg => absurd hg (hnl g)
      names := fun s => rfl
      empty := rfl
      became := fun c hc => by cases hc
      dmap := ⟨[], rfl⟩
      nmap := ⟨[], rfl⟩
      rmap := ⟨[], rfl⟩ }
    uni := fun k s s' g hs => by
      have : (dzero limit).dirAt k = .map [] := by show ([].take k : List Chg).foldl applyD (.map []) = _; rw [List.take_nil]; rfl
      rw [this] at hs
      cases (hno s).symm.trans hs
    nd := hnod
    nn := hnod
    nr := hnod
    acc := ⟨[], [], List.nodup_nil, fun g => ⟨fun h => (by cases h), fun h => absurd h (hnl g)⟩, rfl, List.nodup_nil, fun g => ⟨fun h => (by cases h), fun h => absurd h.1 (hnl g)⟩, rfl⟩
    live := fun g hg => absurd hg (hnl g)
    count := ⟨[], fun g hg => absurd hg (hnl g), Nat.le_refl _⟩
    ops := ⟨Int.le_refl _, Int.le_refl _⟩
    lim := ⟨h1, h2⟩
    used := h1
    fuse := by show (-1 : Int) ≤ _; omega
    fault := by show (-1 : Int) ≤ _; omega
    names := Nat.le_refl _
    synced := Nat.le_refl _
    text := fun c hc => by cases hc
    bytes := fun g x hx => by cases hx
    rbytes := fun g x hx => by cases hx
    shorts := fun s g hs => by cases (hno s).symm.trans hs }
end
end Go.Proofs.Ytefjljdgdoklmaa
