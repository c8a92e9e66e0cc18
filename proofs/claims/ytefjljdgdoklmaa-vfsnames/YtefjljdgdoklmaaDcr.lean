/-
  Create of any file system; what a change makes of a directory.
-/
import Derived.Test.YtefjljdgdoklmaaDsk
namespace Go.Proofs.Ytefjljdgdoklmaa
open Go.RowKit Go.Maps

/-- The blocks of a file system behind a step: those that it had, and new ones. -/
def Grow (A : Nat → Prop) (w : World) : Nat → Prop := fun k => A k ∨ w.heap.size ≤ k
def Disk.change (d : Disk) (c : Chg) : Disk := { d with names := applyD d.names c, changes := d.changes ++ [c] }
def Disk.setF (d : Disk) (g : Nat) (x : Fil) : Disk := { d with files := fun k => if k = g then some x else d.files k }
def Disk.add (d : Disk) (name : ByteArray) (g : Nat) : Disk := (d.setF g ⟨[], 0⟩).change ⟨⟨#[]⟩, name, some g⟩

theorem keyLit (s : ByteArray) : WideAt.IsKeyLit (key s) := trivial
theorem key_ne {s t : ByteArray} (h : s ≠ t) : key s ≠ key t := fun e => h (by
  unfold key at e
  injection e with e
  cases s; cases t
  congr
  exact Array.toList_inj.1 e)
theorem fileOf_lit (D : DataW Unit) (s : ByteArray) (g : Nat) (h : D.atKey (key s) .nil = .lit (.int .i64 (g : Nat))) : fileOf D s = some g := by
  unfold fileOf
  rw [h]
  simp
theorem fileOf_congr {D D' : DataW Unit} {s : ByteArray} (h : D.atKey (key s) .nil = D'.atKey (key s) .nil) : fileOf D s = fileOf D' s := by
  unfold fileOf
  rw [h]
/-- Which file a name is behind a change. -/
theorem fileOf_apply (D : DataW Unit) (hD : IsMap D) (c : Chg) (s : ByteArray) :
    fileOf (applyD D c) s = match c.file with
      | none => if s = c.went then none else fileOf D s
      | some g => if s = c.became then some g else if s = c.went then none else fileOf D s := by
  obtain ⟨went, became, file⟩ := c
  have hdel : fileOf (D.del (key went)) s = if s = went then none else fileOf D s := by
    by_cases e : s = went
    · rw [if_pos e, e]
      unfold fileOf
      rw [atKey_del_same]
    · rw [if_neg e]
      exact fileOf_congr (atKey_del_other (key_ne e) _)
  cases file with
  | none => exact hdel
  | some g =>
    show fileOf ((D.del (key went)).put (key became) (.lit (.int .i64 (g : Nat)))) s = if s = became then some g else if s = went then none else fileOf D s
    by_cases e : s = became
    · rw [if_pos e, e]
      exact fileOf_lit _ _ _ (atKey_put_same (hD.del _) (keyLit _) _ _)
    · rw [if_neg e, ← hdel]
      exact fileOf_congr (atKey_put_other (key_ne e) _ _)
theorem isMap_apply {D : DataW Unit} (hD : IsMap D) (c : Chg) : IsMap (applyD D c) := by
  obtain ⟨went, became, file⟩ := c
  cases file with
  | none => exact hD.del _
  | some g => exact (hD.del _).put _ _
theorem isMap_fold (l : List Chg) : ∀ {D : DataW Unit}, IsMap D → IsMap (l.foldl applyD D) := by
  induction l with
  | nil => exact fun h => h
  | cons c r ih => exact fun h => ih (isMap_apply h c)
theorem fileOf_applied {D : DataW Unit} (hD : IsMap D) {c : Chg} {s : ByteArray} {g : Nat} (h : fileOf (applyD D c) s = some g) : fileOf D s = some g ∨ c.file = some g := by
  rw [fileOf_apply D hD] at h
  cases e : c.file with
  | none =>
    rw [e] at h
    simp only at h
    split at h
    · cases h
    · exact .inl h
  | some q =>
    rw [e] at h
    simp only at h
    split at h
    · exact .inr h
    · split at h
      · cases h
      · exact .inl h
theorem fileOf_folded (l : List Chg) : ∀ {D : DataW Unit}, IsMap D → ∀ {s : ByteArray} {g : Nat}, fileOf (l.foldl applyD D) s = some g → fileOf D s = some g ∨ ∃ c, c ∈ l ∧ c.file = some g := by
  induction l with
  | nil =>
    intro D hD s g h
    exact .inl h
  | cons c r ih =>
    intro D hD s g h
    rcases ih (isMap_apply hD c) h with h | ⟨x, h1, h2⟩
    · rcases fileOf_applied hD h with h | h
      · exact .inl h
      · exact .inr ⟨c, by simp, h⟩
    · exact .inr ⟨x, by simp [h1], h2⟩

theorem grow_of {A : Nat → Prop} {w w1 : World} (h : w.heap.size ≤ w1.heap.size) : ∀ k, Grow A w1 k → Grow A w k := fun _ hk => hk.imp id (Nat.le_trans h)

set_option maxHeartbeats 1000000 in
theorem create_rep (A : Nat → Prop) (f : Nat) (d : Disk) (name : ByteArray) (w : World) (h : Rep A w f d) (hn : Num d) (hnm : name.size ≤ maxLen) (R : Ending → World → Prop)
    (HE : ∀ z w', (d.guard (goodN name)).1 = some z → Rep (Grow A w) w' f (d.guard (goodN name)).2 → Turns A w w' → R (.returned (.int .i64 z)) w')
    (HT : (d.guard (goodN name)).1 = none → ∀ g w', fileOf d.names name = some g → Rep (Grow A w) w' f d.tick → Turns A w w' → R (.returned (.int .i64 5)) w')
    (HN : (d.guard (goodN name)).1 = none → fileOf d.names name = none → ∀ g w', w.heap.size ≤ g → Rep (Grow A w) w' f (d.tick.add name g) → Turns A w w' → R (.returned (.int .i64 0)) w') :
    Calls Try.prog 9 #[.pointer (some ⟨f, 0, none⟩), .string name] w R := by
  obtain ⟨bn, bs, ch, fv, h⟩ := h
  have hfw := lt_of_heap h.cells
  have hbw := h.names.lt
  refine create_via _ name w _ fun w1 pf pn t1 x0 x1 hpf hpn => ?_
  have h1 := h.quiet t1
  refine operate_rep A f 37 _ (enters37 _) d (goodN name) w1 bn bs ch fv h1 hn _ (fun z w' hg hr ht => ?_) (fun hg wc hr ht => ?_)
  · exact ⟨z, rfl, HE z w' hg ⟨bn, bs, ch, fv, hr.mono fun k _ hk => .inl hk⟩ ((t1.mono fun _ _ x => x.elim).trans (ht.mono fun k _ e => by rw [e]; exact h.af)), ht.mono fun k _ e => by rw [e]; exact hfw⟩
  · have hfa : Turns A w wc := (t1.mono fun _ _ x => x.elim).trans (ht.mono fun k _ e => by rw [e]; exact h.af)
    have hsm : Turns (fun k => k < w.heap.size) w1 wc := ht.mono fun k _ e => by rw [e]; exact hfw
    have y0 := ht.cell x0 (by show ¬ pf = f; omega)
    have y1 := ht.cell x1 (by show ¬ pn = f; omega)
    cases hfile : fileOf d.names name with
    | some g =>
      refine (create1_there f bn _ pf pn g d.names name wc y0 y1 (cell_of_row wc f 1 _ 57 (0, 0) hr.cells) hr.names hnm hfile).mono ?_
      rintro e w2 ⟨rfl, m, rfl⟩
      exact ⟨5, rfl, 5, rfl, HT hg g _ hfile ⟨bn, bs, ch, fv, (hr.mono fun k _ hk => .inl hk).quiet ((Turns.refl _ wc).drewN m)⟩ (hfa.drewN m), hsm.drewN m⟩
    | none =>
      refine (create1_new f bn (Maps.size d.names) pf pn d.names d.changes name d.limit d.used d.lost (d.ops + 1) (tick d.fuse) (tick d.fault) d.fail d.on _ ch wc y0 y1 hr.cells hr.names hr.chs (by have := hn.names; unfold maxLen; omega) (by have := hn.changes; omega) hnm hfile).mono ?_
      rintro e w2 ⟨rfl, ch', k1, k2, k3, k4, k5, k6⟩
      have hww : w.heap.size ≤ wc.heap.size := hfa.size
      -- the world in which the file was made: its blocks are those of the last one
      have hall : RepAt (Grow A wc) w2 f (d.tick.add name wc.heap.size) bn bs ch' (fun k => if k = wc.heap.size then .slice none 0 0 else fv k) := by
        have hnil : ∀ k, ¬ inRow (.slice none 0 0) k := fun k hk => by obtain ⟨_, _, e⟩ := hk; cases e
        have hkeep : ∀ q x, d.files q = some x → FileAt (Grow A wc) w2 q (fv q) x := fun q x hq => by
          refine ((hr.files.each q x hq).mono (A' := Grow A wc) fun k _ hk => .inl hk).keep k5 (fun e => ?_) (fun k hk e => ?_)
          · rcases e with e | e | e
            · exact (hr.file (d := d.tick) hq).1 e
            · exact (hr.file (d := d.tick) hq).2.1 e
            · exact (hr.file (d := d.tick) hq).2.2.2.1 e
          · rcases e with e | e | e
            · exact (hr.row (d := d.tick) hq hk).1 e
            · exact (hr.row (d := d.tick) hq hk).2.1 e
            · exact (hr.row (d := d.tick) hq hk).2.2.2.1 e
        have hnew : d.files wc.heap.size = none := hr.new (d := d.tick) (Nat.le_refl _)
        have hup : ∀ q, (∃ x, d.files q = some x) → ∃ x, (d.tick.add name wc.heap.size).files q = some x := fun q ⟨x, hx⟩ => by
          by_cases e : q = wc.heap.size
          · exact ⟨⟨[], 0⟩, by simp [Disk.add, Disk.change, Disk.setF, e]⟩
          · exact ⟨x, by simp [Disk.add, Disk.change, Disk.setF, e, Disk.tick, hx]⟩
        have hself : ∃ x, (d.tick.add name wc.heap.size).files wc.heap.size = some x := ⟨⟨[], 0⟩, by simp [Disk.add, Disk.change, Disk.setF]⟩
        refine ⟨k1, k3.tight, ?_, k4, hr.ne, .inl hr.af, .inl hr.an, .inl hr.ay, fun k hk => (k6 k hk).imp (hr.ac k) id, ⟨fun q x hq => ?_, fun q q' x x' k hq hq' hne hk => ?_⟩, ⟨show Full (applyD d.names ⟨⟨#[]⟩, name, some wc.heap.size⟩) from h.refs.fn.apply _, h.refs.fs, fun s q hs => ?_, fun s q hs => hup q (h.refs.synced s q hs), fun c hc q hq => ?_⟩⟩
        · refine hr.synced.keep k5 fun e => ?_
          rcases e with e | e | e
          · exact hr.fs e.symm
          · exact hr.ne e.symm
          · exact (hr.chrow e).2.2.1 rfl
        · by_cases e : q = wc.heap.size
          · subst e
            have hx : (⟨[], 0⟩ : Fil) = x := by simpa [Disk.add, Disk.change, Disk.setF] using hq
            subst hx
            rw [if_pos rfl]
            exact ⟨k2, .inl ⟨rfl, rfl⟩, .inr (Nat.le_refl _), fun k hk => (hnil k hk).elim⟩
          · rw [if_neg e]
            exact hkeep q x (by simpa [Disk.add, Disk.change, Disk.setF, e, Disk.tick] using hq)
        · by_cases e : q = wc.heap.size
          · rw [if_pos e] at hk
            exact (hnil k hk).elim
          · rw [if_neg e] at hk
            by_cases e' : q' = wc.heap.size
            · rw [if_pos e']
              exact hnil k
            · rw [if_neg e']
              exact h.files.apart q q' x x' k (by simpa [Disk.add, Disk.change, Disk.setF, e, Disk.tick] using hq) (by simpa [Disk.add, Disk.change, Disk.setF, e', Disk.tick] using hq') hne hk
        · have hs' : fileOf (applyD d.names ⟨⟨#[]⟩, name, some wc.heap.size⟩) s = some q := hs
          rcases fileOf_applied (D := d.names) h.names.isMap hs' with hs | hs
          · exact hup q (h.refs.names s q hs)
          · obtain rfl : wc.heap.size = q := by simpa using hs
            exact hself
        · have hc' : c ∈ d.changes ++ [⟨⟨#[]⟩, name, some wc.heap.size⟩] := hc
          rcases List.mem_append.1 hc' with hc | hc
          · exact hup q (h.refs.changes c hc q hq)
          · obtain rfl : c = ⟨⟨#[]⟩, name, some wc.heap.size⟩ := by simpa using hc
            obtain rfl : wc.heap.size = q := by simpa using hq
            exact hself
      refine ⟨0, rfl, 0, rfl, HN hg hfile wc.heap.size w2 hww ⟨bn, bs, ch', _, hall.mono fun k _ => grow_of hww k⟩ (hfa.trans (k5.mono fun k _ e => ?_)), hsm.trans (k5.mono fun k _ e => ?_)⟩
      · rcases e with e | e | e
        · rw [e]; exact h.af
        · rw [e]; exact h.an
        · exact h.ac k e
      · rcases e with e | e | e
        · rw [e]; exact hfw
        · rw [e]; exact hbw
        · exact (h.chrow e).2.2.2.2
end Go.Proofs.Ytefjljdgdoklmaa
