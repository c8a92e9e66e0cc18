import Derived.Test.YtefjljdgdoklmaaM29
/-
  The two file systems side by side: what holds between two calls, and that each call keeps it.
-/
namespace Go.Proofs.Ytefjljdgdoklmaa
open Go.RowKit Go.Maps Go.Sort

theorem size_del (D : DataW Unit) (k : Lit) : Maps.size (D.del k) ≤ Maps.size D := by
  cases D with
  | map es => exact List.length_filter_le _ _
  | _ => exact Nat.le_refl _
theorem insert_length {H : Type} (x : Lit × DataW H) (l : List (Lit × DataW H)) : (DataW.insert x l).length = l.length + 1 := by
  rw [(insert_perm x l).length_eq, List.length_cons]
theorem size_put (D : DataW Unit) (k : Lit) (y : DataW Unit) : Maps.size (D.put k y) ≤ Maps.size D + 1 := by
  cases D with
  | map es =>
    show (DataW.insert (k, y) (es.filter fun p => !p.1.sameKey k)).length ≤ es.length + 1
    rw [insert_length]
    have := List.length_filter_le (fun p : Lit × DataW Unit => !p.1.sameKey k) es
    omega
  | _ => exact Nat.zero_le _
theorem size_apply (D : DataW Unit) (c : Chg) : Maps.size (applyD D c) ≤ Maps.size D + 1 := by
  obtain ⟨went, became, file⟩ := c
  cases file with
  | none => exact Nat.le_trans (size_del D _) (Nat.le_succ _)
  | some g => exact Nat.le_trans (size_put _ _ _) (Nat.add_le_add_right (size_del D _) 1)
theorem size_fold (l : List Chg) : ∀ D : DataW Unit, Maps.size (l.foldl applyD D) ≤ Maps.size D + l.length := by
  induction l with
  | nil => exact fun D => Nat.le_refl _
  | cons c r ih =>
    intro D
    have h1 := ih (applyD D c)
    have h2 := size_apply D c
    rw [List.foldl_cons, List.length_cons]
    omega
theorem nod_size {D : DataW Unit} (h : Nod D) : Maps.size D = (namesOf D).length := by
  obtain ⟨⟨es, rfl, _⟩, _⟩ := h
  unfold namesOf
  rw [List.length_map, List.length_mergeSort]
  show es.length = (es.map fun p => strOf p.1).length
  rw [List.length_map]
theorem size_both {rho : Nat → Nat} {D E : DataW Unit} (hD : Nod D) (hE : Nod E) (h : ∀ s, fileOf E s = (fileOf D s).map rho) : Maps.size E = Maps.size D := by
  rw [nod_size hD, nod_size hE, namesOf_both hD hE h]
theorem Nod.newD {D : DataW Unit} (h : Nod D) (gs : List Anew) : Nod (newD D gs) := by
  induction gs generalizing D with
  | nil => exact h
  | cons p r ih => exact ih (h.put _ _)
theorem length_sub : ∀ {M L : List Nat}, M.Nodup → (∀ g, g ∈ M → g ∈ L) → M.length ≤ L.length
  | [], _, _, _ => Nat.zero_le _
  | a :: r, L, hn, h => by
    have hn' := List.nodup_cons.1 hn
    have h1 := length_sub (M := r) (L := L.erase a) hn'.2 fun g hg => by
      have hne : g ≠ a := fun e => hn'.1 (e ▸ hg)
      exact (List.mem_erase_of_ne hne).2 (h g (by simp [hg]))
    have h2 := List.length_erase_of_mem (h a (by simp))
    have h3 := List.length_pos_of_mem (h a (by simp))
    rw [List.length_cons]
    omega

theorem short_fold (l : List Chg) : ∀ (D : DataW Unit), IsMap D → (∀ s g, fileOf D s = some g → s.size ≤ 1000) → (∀ c, c ∈ l → c.went.size ≤ 1000 ∧ c.became.size ≤ 1000) → ∀ s g, fileOf (l.foldl applyD D) s = some g → s.size ≤ 1000 := by
  induction l with
  | nil => exact fun D _ h _ => h
  | cons c r ih =>
    intro D hD h hc
    refine ih (applyD D c) (isMap_apply hD c) (fun s g hs => ?_) (fun c' h' => hc c' (by simp [h']))
    rw [fileOf_apply D hD] at hs
    have h1 := (hc c (by simp)).2
    cases e : c.file with
    | none =>
      rw [e] at hs
      simp only at hs
      split at hs
      · cases hs
      · exact h s g hs
    | some k =>
      rw [e] at hs
      simp only at hs
      split at hs
      · next e1 => rw [e1]; exact h1
      · split at hs
        · cases hs
        · exact h s g hs
/-- What holds of the two file systems behind i steps. -/
structure Inv (i : Nat) (rho : Nat → Nat) (d : Disk) (r : RDisk) : Prop where
  sim : Sim rho d r
  uni : d.uni
  nd : Nod d.synced
  nn : Nod d.names
  nr : Nod r.synced
  acc : Acc d
  live : ∀ g, d.live g → ∃ x, d.files g = some x
  count : ∃ L : List Nat, (∀ g, d.live g → g ∈ L) ∧ L.length ≤ i
  ops : 0 ≤ d.ops ∧ d.ops ≤ i
  lim : 0 ≤ d.limit ∧ d.limit ≤ 1073741824
  used : d.used ≤ d.limit
  fuse : d.fuse ≤ 9223372036854775807
  fault : d.fault ≤ 9223372036854775807
  names : Maps.size d.names ≤ i
  synced : Maps.size d.synced + d.changes.length ≤ i
  text : ∀ c, c ∈ d.changes → c.went.size ≤ 1000 ∧ c.became.size ≤ 1000
  bytes : ∀ g x, d.files g = some x → x.bytes.length ≤ 300 * i ∧ x.synced ≤ x.bytes.length
  rbytes : ∀ g x, r.files g = some x → x.bytes.length ≤ 300 * i ∧ x.synced ≤ x.bytes.length
  shorts : ∀ s g, fileOf d.synced s = some g → s.size ≤ 1000

section
variable {i : Nat} {rho : Nat → Nat} {d : Disk} {r : RDisk}
theorem Inv.mono (h : Inv i rho d r) {j : Nat} (hj : i ≤ j) : Inv j rho d r :=
  { h with
    count := let ⟨L, h1, h2⟩ := h.count; ⟨L, h1, Nat.le_trans h2 hj⟩
    ops := ⟨h.ops.1, by have := h.ops.2; omega⟩
    names := Nat.le_trans h.names hj
    synced := Nat.le_trans h.synced hj
    bytes := fun g x hx => ⟨by have := (h.bytes g x hx).1; omega, (h.bytes g x hx).2⟩
    rbytes := fun g x hx => ⟨by have := (h.rbytes g x hx).1; omega, (h.rbytes g x hx).2⟩ }
/-- Only numbers are others. -/
theorem Inv.numbers (h : Inv i rho d r) {d' : Disk} {r' : RDisk} (hs : Sim rho d' r') (e1 : d'.names = d.names) (e2 : d'.synced = d.synced) (e3 : d'.changes = d.changes) (e4 : d'.files = d.files) (e5 : d'.used = d.used) (e6 : d'.lost = d.lost) (e7 : d'.limit = d.limit)
    (e8 : r'.synced = r.synced) (e9 : r'.files = r.files) (h1 : 0 ≤ d'.ops ∧ d'.ops ≤ i) (h2 : d'.fuse ≤ 9223372036854775807) (h3 : d'.fault ≤ 9223372036854775807) : Inv i rho d' r' := by
  have hl : ∀ g, d'.live g ↔ d.live g := fun g => by unfold Disk.live; rw [e2, e3]
  exact {
    sim := hs
    uni := fun k => by have := h.uni k; unfold Disk.dirAt at this ⊢; rw [e2, e3]; exact this
    nd := e2 ▸ h.nd
    nn := e1 ▸ h.nn
    nr := e8 ▸ h.nr
    acc := h.acc.same e5 e6 e2 e3 e1 (fun L => by rw [e4])
    live := fun g hg => by rw [e4]; exact h.live g ((hl g).1 hg)
    count := let ⟨L, h1, h2⟩ := h.count; ⟨L, fun g hg => h1 g ((hl g).1 hg), h2⟩
    ops := h1
    lim := e7 ▸ h.lim
    used := by rw [e5, e7]; exact h.used
    fuse := h2
    fault := h3
    names := e1 ▸ h.names
    synced := by rw [e2, e3]; exact h.synced
    text := e3 ▸ h.text
    bytes := e4 ▸ h.bytes
    rbytes := e9 ▸ h.rbytes
    shorts := e2 ▸ h.shorts }
theorem tick_le {z : Int} (h : z ≤ 9223372036854775807) : Ytefjljdgdoklmaa.tick z ≤ 9223372036854775807 := by
  unfold Ytefjljdgdoklmaa.tick
  split <;> omega
theorem Inv.guard (h : Inv i rho d r) (b : Bool) : Inv (i + 1) rho (d.guard b).2 (r.begin b).2 := by
  have hs := (h.sim.guard b).1
  have h' := h.mono (Nat.le_succ i)
  have e : (d.guard b).2.names = d.names ∧ (d.guard b).2.synced = d.synced ∧ (d.guard b).2.changes = d.changes ∧ (d.guard b).2.files = d.files ∧ (d.guard b).2.used = d.used ∧ (d.guard b).2.lost = d.lost ∧ (d.guard b).2.limit = d.limit ∧ (0 ≤ (d.guard b).2.ops ∧ (d.guard b).2.ops ≤ (i + 1 : Nat)) ∧ (d.guard b).2.fuse ≤ 9223372036854775807 ∧ (d.guard b).2.fault ≤ 9223372036854775807 := by
    have ho := h.ops
    have hf := h.fuse
    have hg := h.fault
    have hf' := tick_le hf
    have hg' := tick_le hg
    unfold Disk.guard
    split
    · exact ⟨rfl, rfl, rfl, rfl, rfl, rfl, rfl, ⟨ho.1, by show d.ops ≤ _; omega⟩, hf, hg⟩
    · split
      · exact ⟨rfl, rfl, rfl, rfl, rfl, rfl, rfl, ⟨ho.1, by show d.ops ≤ _; omega⟩, hf, hg⟩
      · split
        · exact ⟨rfl, rfl, rfl, rfl, rfl, rfl, rfl, ⟨by show 0 ≤ d.ops + 1; omega, by show d.ops + 1 ≤ _; omega⟩, hf', hg'⟩
        · split
          · exact ⟨rfl, rfl, rfl, rfl, rfl, rfl, rfl, ⟨by show 0 ≤ d.ops + 1; omega, by show d.ops + 1 ≤ _; omega⟩, hf', hg'⟩
          · exact ⟨rfl, rfl, rfl, rfl, rfl, rfl, rfl, ⟨by show 0 ≤ d.ops + 1; omega, by show d.ops + 1 ≤ _; omega⟩, hf', hg'⟩
  have e2 : (r.begin b).2.synced = r.synced ∧ (r.begin b).2.files = r.files := by
    unfold RDisk.begin RDisk.op
    repeat' split
    all_goals exact ⟨rfl, rfl⟩
  obtain ⟨a1, a2, a3, a4, a5, a6, a7, a8, a9, a10⟩ := e
  exact h'.numbers hs a1 a2 a3 a4 a5 a6 a7 e2.1 e2.2 a8 a9 a10
theorem Inv.rchanges (h : Inv i rho d r) : r.changes.length = d.changes.length := by rw [h.sim.changes, List.length_map]
theorem Inv.rsize (h : Inv i rho d r) : Maps.size r.synced = Maps.size d.synced := size_both h.nd h.nr h.sim.synced
theorem Inv.num (h : Inv i rho d r) (hi : i ≤ 1000) : Num d where
  ops := ⟨h.ops.1, by have := h.ops.2; omega⟩
  fuse := h.fuse
  fault := h.fault
  used := ⟨h.acc.order.1, h.acc.order.2, h.used, h.lim.2⟩
  names := by have := h.names; omega
  synced := by have := h.synced; omega
  changes := by have := h.synced; omega
  text := fun c hc => ⟨Nat.le_trans (h.text c hc).1 (by unfold maxLen; omega), Nat.le_trans (h.text c hc).2 (by unfold maxLen; omega)⟩
  bytes := fun g x hx => ⟨by have := (h.bytes g x hx).1; omega, (h.bytes g x hx).2⟩
theorem Inv.rnum (h : Inv i rho d r) (hi : i ≤ 1000) : RNum r where
  n := by rw [h.sim.n]; exact ⟨h.ops.1, by have := h.ops.2; omega⟩
  fuse := by rw [h.sim.fuse]; have := h.fuse; omega
  fault := by rw [h.sim.fault]; have := h.fault; omega
  limit := by rw [h.sim.limit]; exact h.lim
  synced := by rw [h.rsize]; have := h.synced; omega
  changes := by rw [h.rchanges]; have := h.synced; omega
  text := fun c hc => by
    rw [h.sim.changes] at hc
    obtain ⟨c', hc', rfl⟩ := List.mem_map.1 hc
    exact ⟨Nat.le_trans (h.text c' hc').1 (by unfold maxLen; omega), Nat.le_trans (h.text c' hc').2 (by unfold maxLen; omega)⟩
  bytes := fun g x hx => ⟨by have := (h.rbytes g x hx).1; omega, (h.rbytes g x hx).2⟩
/-- No more is told of than the code counts. -/
theorem Inv.rtotal (h : Inv i rho d r) {ls : List Nat} (hn : ls.Nodup) (ht : ∀ g, g ∈ ls → r.tells (r.changes.length + 1) g) : ls.length ≤ i ∧ (total r.files ls : Int) ≤ d.used := by
  obtain ⟨L, c1, c2⟩ := h.count
  refine ⟨?_, ?_⟩
  · have := length_sub (M := ls) (L := L.map rho) hn fun g hg => by
      obtain ⟨g0, h1, rfl⟩ := (h.sim.tells g).1 (ht g hg)
      exact List.mem_map.2 ⟨g0, c1 g0 h1, rfl⟩
    rw [List.length_map] at this
    omega
  · obtain ⟨K, M, a1, a2, a3, _⟩ := h.acc
    have hk : (K.map rho).Nodup := by
      refine List.pairwise_map.2 (List.Pairwise.imp_of_mem (fun {a b} ha hb hne e => hne ?_) a1)
      exact h.sim.inj a b ((a2 a).1 ha) ((a2 b).1 hb) e
    have h1 := total_sub r.files hn hk fun g hg => by
      obtain ⟨g0, h1, rfl⟩ := (h.sim.tells g).1 (ht g hg)
      exact List.mem_map.2 ⟨g0, (a2 g0).2 h1, rfl⟩
    have h2 : total r.files (K.map rho) = total d.files K := total_map K fun g hg => h.sim.files g ((a2 g).1 hg)
    rw [a3]
    omega
theorem Inv.fits (h : Inv i rho d r) (hi : i ≤ 1000) : r.fits := fun ls hn ht => by
  have h1 := h.rtotal hn ht
  have h2 := h.used
  have h3 := h.lim
  omega
theorem size_foldR (l : List Chg) : ∀ D : DataW Unit, Maps.size (l.foldl applyR D) ≤ Maps.size D + l.length := by
  induction l with
  | nil => exact fun D => Nat.le_refl _
  | cons c r ih =>
    intro D
    have h1 := ih (applyR D c)
    have h2 : Maps.size (applyR D c) ≤ Maps.size D + 1 := by
      have h0 : Maps.size (if c.went.size = 0 then D else D.del (key c.went)) ≤ Maps.size D := by
        split
        · exact Nat.le_refl _
        · exact size_del D _
      unfold applyR
      cases c.file with
      | none => exact Nat.le_trans h0 (Nat.le_succ _)
      | some g => exact Nat.le_trans (size_put _ _ _) (Nat.add_le_add_right h0 1)
    rw [List.foldl_cons, List.length_cons]
    omega
theorem Inv.rdir (h : Inv i rho d r) (k : Nat) : Maps.size (r.dir k) ≤ i := by
  have h1 := size_foldR (r.changes.take k) r.synced
  rw [List.length_take] at h1
  have h2 := h.rchanges
  have h3 := h.rsize
  have h4 := h.synced
  unfold RDisk.dir
  omega
theorem Inv.rnow (h : Inv i rho d r) : Maps.size r.now ≤ i := by
  have h1 := size_foldR r.changes r.synced
  have h2 := h.rchanges
  have h3 := h.rsize
  have h4 := h.synced
  unfold RDisk.now
  omega
theorem setF_live (g : Nat) (y : Fil) (k : Nat) : (d.setF g y).live k ↔ d.live k := Iff.rfl
theorem Inv.setF (h : Inv i rho d r) {g : Nat} {x y : Fil} (hg : d.live g) (hx : d.files g = some x) (hl : y.bytes.length = x.bytes.length) (hs : y.synced ≤ y.bytes.length) : Inv i rho (d.setF g y) (r.setF (rho g) y) where
  sim := h.sim.setF hg y
  uni := h.uni
  nd := h.nd
  nn := h.nn
  nr := h.nr
  acc := h.acc.setF hx hl
  live := fun k hk => by
    by_cases e : k = g
    · exact ⟨y, if_pos e⟩
    · obtain ⟨z, hz⟩ := h.live k hk
      exact ⟨z, (if_neg e).trans hz⟩
  count := h.count
  ops := h.ops
  lim := h.lim
  used := h.used
  fuse := h.fuse
  fault := h.fault
  names := h.names
  synced := h.synced
  text := h.text
  bytes := fun k z hz => by
    replace hz : (if k = g then some y else d.files k) = some z := hz
    split at hz
    · cases hz; exact ⟨by rw [hl]; exact (h.bytes g x hx).1, hs⟩
    · exact h.bytes k z hz
  rbytes := fun k z hz => by
    replace hz : (if k = rho g then some y else r.files k) = some z := hz
    split at hz
    · cases hz; exact ⟨by rw [hl]; exact (h.bytes g x hx).1, hs⟩
    · exact h.rbytes k z hz
  shorts := h.shorts
theorem Inv.put (h : Inv i rho d r) {g : Nat} {x : Fil} (hx : d.files g = some x) (hg : d.live g) (hn : named d.names g) (news : List (BitVec 8)) (hb : news.length ≤ 300) (hroom : (news.length : Int) ≤ d.limit - d.used) : Inv (i + 1) rho (d.put g x news) (r.setF (rho g) ⟨x.bytes ++ news, x.synced⟩) where
  sim := { h.sim.setF hg ⟨x.bytes ++ news, x.synced⟩ with }
  uni := h.uni
  nd := h.nd
  nn := h.nn
  nr := h.nr
  acc := h.acc.put hx hg hn news
  live := fun k hk => by
    by_cases e : k = g
    · exact ⟨⟨x.bytes ++ news, x.synced⟩, if_pos e⟩
    · obtain ⟨z, hz⟩ := h.live k hk
      exact ⟨z, (if_neg e).trans hz⟩
  count := let ⟨L, h1, h2⟩ := h.count; ⟨L, h1, Nat.le_succ_of_le h2⟩
  ops := ⟨h.ops.1, by have := h.ops.2; show d.ops ≤ _; omega⟩
  lim := h.lim
  used := by show d.used + (news.length : Int) ≤ d.limit; omega
  fuse := h.fuse
  fault := h.fault
  names := Nat.le_succ_of_le h.names
  synced := Nat.le_succ_of_le h.synced
  text := h.text
  bytes := fun k z hz => by
    replace hz : (if k = g then some ⟨x.bytes ++ news, x.synced⟩ else d.files k) = some z := hz
    have h1 := h.bytes g x hx
    split at hz
    · cases hz
      show (x.bytes ++ news).length ≤ _ ∧ x.synced ≤ (x.bytes ++ news).length
      rw [List.length_append]
      omega
    · have := h.bytes k z hz; omega
  rbytes := fun k z hz => by
    replace hz : (if k = rho g then some ⟨x.bytes ++ news, x.synced⟩ else r.files k) = some z := hz
    have h1 := h.bytes g x hx
    split at hz
    · cases hz
      show (x.bytes ++ news).length ≤ _ ∧ x.synced ≤ (x.bytes ++ news).length
      rw [List.length_append]
      omega
    · have := h.rbytes k z hz; omega
  shorts := h.shorts
theorem Inv.short (h : Inv i rho d r) {s : ByteArray} {g : Nat} (hs : fileOf d.names s = some g) : s.size ≤ 1000 := by
  rw [h.sim.names] at hs
  exact short_fold d.changes d.synced h.sim.dmap h.shorts h.text s g hs
end
end Go.Proofs.Ytefjljdgdoklmaa
