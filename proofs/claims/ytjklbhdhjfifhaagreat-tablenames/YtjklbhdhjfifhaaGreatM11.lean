import Derived.Test.YtjklbhdhjfifhaaGreatM10
import Derived.Deep.Upon
/-
  A file system as its operations see it, how it lies in memory, and the guard that every operation goes through.
-/
namespace Go.Proofs.YtjklbhdhjfifhaaGreat
open Go.RowKit Go.Maps

/-- A file: its bytes, and how many of them are synced. -/
structure Fil where
  bytes : List (BitVec 8)
  synced : Nat
/-- A file system. A file is named by its block. -/
structure Disk where
  limit : Int
  names : DataW Unit
  synced : DataW Unit
  changes : List Chg
  files : Nat → Option Fil
  used : Int
  lost : Int
  on : Bool
  ops : Int
  fuse : Int
  fault : Int
  fail : Int
def Disk.cells (d : Disk) (bn bs : Nat) (ch : Value) : Array Value := fsCells d.limit (.map (some bn)) (.map (some bs)) ch d.used d.lost d.on d.ops d.fuse d.fault d.fail
/-- A file of its own block and row. -/
structure FileAt (A : Nat → Prop) (w : World) (g : Nat) (v : Value) (x : Fil) : Prop where
  cell : w.heap[g]? = some (.cells #[v, .int .i64 (x.synced : Nat)] 99 (0, 0))
  own : OwnB w v x.bytes
  ag : A g
  ar : ∀ k, inRowV v k → A k
structure Files (A : Nat → Prop) (w : World) (fv : Nat → Value) (F : Nat → Option Fil) : Prop where
  each : ∀ g x, F g = some x → FileAt A w g (fv g) x
  apart : ∀ g g' x x' k, F g = some x → F g' = some x' → g ≠ g' → inRowV (fv g) k → ¬ inRowV (fv g') k
/-- A directory: each entry is a name and a file's block. -/
def Full (D : DataW Unit) : Prop := ∃ es, D = .map es ∧ ∀ p ∈ es, ∃ (x : List UInt8) (g : Nat), p = (.string x, .lit (.int .i64 (g : Nat)))
theorem mem_insert {x p : Lit × DataW Unit} : ∀ {l : List (Lit × DataW Unit)}, p ∈ DataW.insert x l → p = x ∨ p ∈ l
  | [], h => by
    simp [DataW.insert] at h
    exact .inl h
  | y :: r, h => by
    unfold DataW.insert at h
    split at h
    · rcases List.mem_cons.1 h with h | h
      · exact .inl h
      · exact .inr h
    · rcases List.mem_cons.1 h with h | h
      · exact .inr (by simp [h])
      · rcases mem_insert h with h | h
        · exact .inl h
        · exact .inr (by simp [h])
theorem Full.del {D : DataW Unit} (h : Full D) (k : Lit) : Full (D.del k) := by
  obtain ⟨es, rfl, h⟩ := h
  exact ⟨_, rfl, fun p hp => h p (List.mem_filter.1 hp).1⟩
theorem Full.put {D : DataW Unit} (h : Full D) (x : List UInt8) (g : Nat) : Full (D.put (.string x) (.lit (.int .i64 (g : Nat)))) := by
  obtain ⟨es, rfl, h⟩ := h
  refine ⟨_, rfl, fun p hp => ?_⟩
  rcases mem_insert hp with rfl | hp
  · exact ⟨x, g, rfl⟩
  · exact h p (List.mem_filter.1 hp).1
theorem Full.apply {D : DataW Unit} (h : Full D) (c : Chg) : Full (applyD D c) := by
  obtain ⟨went, became, file⟩ := c
  cases file with
  | none => exact h.del _
  | some g => exact (h.del _).put _ _
theorem Full.empty : Full (.map []) := ⟨[], rfl, fun p hp => by cases hp⟩
/-- Every file that is told of is there. -/
structure Refs (d : Disk) : Prop where
  fn : Full d.names
  fs : Full d.synced
  names : ∀ s g, fileOf d.names s = some g → ∃ x, d.files g = some x
  synced : ∀ s g, fileOf d.synced s = some g → ∃ x, d.files g = some x
  changes : ∀ c, c ∈ d.changes → ∀ g, c.file = some g → ∃ x, d.files g = some x
/-- A file system in memory: all its blocks are among A. -/
structure RepAt (A : Nat → Prop) (w : World) (f : Nat) (d : Disk) (bn bs : Nat) (ch : Value) (fv : Nat → Value) : Prop where
  cells : w.heap[f]? = some (.cells (d.cells bn bs ch) 72 (0, 0))
  names : Dir w bn (Maps.size d.names) d.names
  synced : Dir w bs (Maps.size d.synced) d.synced
  chs : Chs w ch d.changes
  ne : bn ≠ bs
  af : A f
  an : A bn
  ay : A bs
  ac : ∀ k, inRowV ch k → A k
  files : Files A w fv d.files
  refs : Refs d
def Rep (A : Nat → Prop) (w : World) (f : Nat) (d : Disk) : Prop := ∃ bn bs ch fv, RepAt A w f d bn bs ch fv

theorem FileAt.keep {A S : Nat → Prop} {w w' : World} {g : Nat} {v : Value} {x : Fil} (h : FileAt A w g v x) (t : Turns S w w') (hg : ¬ S g) (hr : ∀ k, inRowV v k → ¬ S k) : FileAt A w' g v x :=
  ⟨t.heap h.cell hg, h.own.keep t hr, h.ag, h.ar⟩
theorem FileAt.mono {A A' : Nat → Prop} {w : World} {g : Nat} {v : Value} {x : Fil} (h : FileAt A w g v x) (hA : ∀ k, k < w.heap.size → A k → A' k) : FileAt A' w g v x :=
  ⟨h.cell, h.own, hA _ (lt_of_heap h.cell) h.ag, fun k hk => by
    obtain ⟨cs, hc⟩ := h.own.row hk
    exact hA _ (lt_of_heap hc) (h.ar k hk)⟩

theorem one_type {w : World} {k : Nat} {cs cs' : Array Value} {t t' : TypeId} {fr fr' : Nat × Nat} (h : w.heap[k]? = some (.cells cs t fr)) (h' : w.heap[k]? = some (.cells cs' t' fr')) : t = t' := by
  rw [h] at h'
  injection h' with h'
  injection h'

section
variable {A : Nat → Prop} {w : World} {f : Nat} {d : Disk} {bn bs : Nat} {ch : Value} {fv : Nat → Value}
theorem RepAt.fn (h : RepAt A w f d bn bs ch fv) : f ≠ bn := h.names.ne_cells h.cells
theorem RepAt.fs (h : RepAt A w f d bn bs ch fv) : f ≠ bs := h.synced.ne_cells h.cells
theorem RepAt.file (h : RepAt A w f d bn bs ch fv) {g : Nat} {x : Fil} (hg : d.files g = some x) : g ≠ f ∧ g ≠ bn ∧ g ≠ bs ∧ ¬ inRowV ch g ∧ g < w.heap.size := by
  have hc := (h.files.each g x hg).cell
  refine ⟨fun e => ?_, h.names.ne_cells hc, h.synced.ne_cells hc, fun e => ?_, lt_of_heap hc⟩
  · rw [e] at hc; exact absurd (one_type h.cells hc) (by decide)
  · obtain ⟨cs, hc'⟩ := h.chs.row e
    exact absurd (one_type hc hc') (by decide)
theorem RepAt.row (h : RepAt A w f d bn bs ch fv) {g k : Nat} {x : Fil} (hg : d.files g = some x) (hk : inRowV (fv g) k) : k ≠ f ∧ k ≠ bn ∧ k ≠ bs ∧ ¬ inRowV ch k ∧ d.files k = none ∧ k < w.heap.size := by
  obtain ⟨cs, hc⟩ := (h.files.each g x hg).own.row hk
  refine ⟨fun e => ?_, h.names.ne_cells hc, h.synced.ne_cells hc, fun e => ?_, ?_, lt_of_heap hc⟩
  · rw [e] at hc; exact absurd (one_type h.cells hc) (by decide)
  · obtain ⟨cs', hc'⟩ := h.chs.row e
    exact absurd (one_type hc hc') (by decide)
  · cases e : d.files k with
    | none => rfl
    | some y =>
      have hc' := (h.files.each k y e).cell
      exact absurd (one_type hc hc') (by decide)
theorem RepAt.chrow (h : RepAt A w f d bn bs ch fv) {k : Nat} (hk : inRowV ch k) : k ≠ f ∧ k ≠ bn ∧ k ≠ bs ∧ d.files k = none ∧ k < w.heap.size := by
  obtain ⟨cs, hc⟩ := h.chs.row hk
  refine ⟨fun e => ?_, h.names.ne_cells hc, h.synced.ne_cells hc, ?_, lt_of_heap hc⟩
  · rw [e] at hc; exact absurd (one_type h.cells hc) (by decide)
  · cases e : d.files k with
    | none => rfl
    | some y =>
      have hc' := (h.files.each k y e).cell
      exact absurd (one_type hc hc') (by decide)
theorem RepAt.new (h : RepAt A w f d bn bs ch fv) {k : Nat} (hk : w.heap.size ≤ k) : d.files k = none := by
  cases e : d.files k with
  | none => rfl
  | some y => have := (h.file e).2.2.2.2; omega

theorem RepAt.keep (h : RepAt A w f d bn bs ch fv) {S : Nat → Prop} {w' : World} (t : Turns S w w') (hS : ∀ k, k < w.heap.size → A k → ¬ S k) : RepAt A w' f d bn bs ch fv where
  cells := t.heap h.cells (hS _ (lt_of_heap h.cells) h.af)
  names := h.names.keep t (hS _ h.names.lt h.an)
  synced := h.synced.keep t (hS _ h.synced.lt h.ay)
  chs := h.chs.keep t fun k hk => hS _ (h.chrow hk).2.2.2.2 (h.ac k hk)
  ne := h.ne
  af := h.af
  an := h.an
  ay := h.ay
  ac := h.ac
  files := ⟨fun g x hg => (h.files.each g x hg).keep t (hS _ (h.file hg).2.2.2.2 (h.files.each g x hg).ag) fun k hk => hS _ (h.row hg hk).2.2.2.2.2 ((h.files.each g x hg).ar k hk), h.files.apart⟩
  refs := h.refs
theorem RepAt.mono (h : RepAt A w f d bn bs ch fv) {A' : Nat → Prop} (hA : ∀ k, k < w.heap.size → A k → A' k) : RepAt A' w f d bn bs ch fv where
  cells := h.cells
  names := h.names
  synced := h.synced
  chs := h.chs
  ne := h.ne
  af := hA _ (lt_of_heap h.cells) h.af
  an := hA _ h.names.lt h.an
  ay := hA _ h.synced.lt h.ay
  ac := fun k hk => hA _ (h.chrow hk).2.2.2.2 (h.ac k hk)
  files := ⟨fun g x hg => (h.files.each g x hg).mono hA, h.files.apart⟩
  refs := h.refs
theorem RepAt.quiet (h : RepAt A w f d bn bs ch fv) {w' : World} (t : Turns (fun _ => False) w w') : RepAt A w' f d bn bs ch fv := h.keep t fun _ _ _ x => x
/-- Only the file system's own block has turned: its numbers are others. -/
theorem RepAt.turn (h : RepAt A w f d bn bs ch fv) {w' : World} {d' : Disk} (t : Turns (fun k => k = f) w w') (hc : w'.heap[f]? = some (.cells (d'.cells bn bs ch) 72 (0, 0))) (e1 : d'.names = d.names) (e2 : d'.synced = d.synced) (e3 : d'.changes = d.changes) (e4 : d'.files = d.files) : RepAt A w' f d' bn bs ch fv where
  cells := hc
  names := by rw [e1]; exact h.names.keep t h.fn.symm
  synced := by rw [e2]; exact h.synced.keep t h.fs.symm
  chs := by rw [e3]; exact h.chs.keep t fun k hk => (h.chrow hk).1
  ne := h.ne
  af := h.af
  an := h.an
  ay := h.ay
  ac := h.ac
  files := by rw [e4]; exact ⟨fun g x hg => (h.files.each g x hg).keep t (h.file hg).1 fun k hk => (h.row hg hk).1, h.files.apart⟩
  refs := ⟨by rw [e1]; exact h.refs.fn, by rw [e2]; exact h.refs.fs, by rw [e1, e4]; exact h.refs.names, by rw [e2, e4]; exact h.refs.synced, by rw [e3, e4]; exact h.refs.changes⟩
end

theorem Rep.quiet {A : Nat → Prop} {w w' : World} {f : Nat} {d : Disk} (h : Rep A w f d) (t : Turns (fun _ => False) w w') : Rep A w' f d := by
  obtain ⟨bn, bs, ch, fv, h⟩ := h
  exact ⟨bn, bs, ch, fv, h.quiet t⟩
theorem Rep.keep {A S : Nat → Prop} {w w' : World} {f : Nat} {d : Disk} (h : Rep A w f d) (t : Turns S w w') (hS : ∀ k, k < w.heap.size → A k → ¬ S k) : Rep A w' f d := by
  obtain ⟨bn, bs, ch, fv, h⟩ := h
  exact ⟨bn, bs, ch, fv, h.keep t hS⟩
theorem Rep.mono {A A' : Nat → Prop} {w : World} {f : Nat} {d : Disk} (h : Rep A w f d) (hA : ∀ k, k < w.heap.size → A k → A' k) : Rep A' w f d := by
  obtain ⟨bn, bs, ch, fv, h⟩ := h
  exact ⟨bn, bs, ch, fv, h.mono hA⟩
theorem Rep.lt {A : Nat → Prop} {w : World} {f : Nat} {d : Disk} (h : Rep A w f d) : f < w.heap.size := by
  obtain ⟨bn, bs, ch, fv, h⟩ := h
  exact lt_of_heap h.cells
theorem Rep.af {A : Nat → Prop} {w : World} {f : Nat} {d : Disk} (h : Rep A w f d) : A f := by
  obtain ⟨bn, bs, ch, fv, h⟩ := h
  exact h.af

/-- What the numbers of a file system keep to. -/
structure Num (d : Disk) : Prop where
  ops : 0 ≤ d.ops ∧ d.ops ≤ 1000000
  fuse : d.fuse ≤ 9223372036854775807
  fault : d.fault ≤ 9223372036854775807
  used : 0 ≤ d.lost ∧ d.lost ≤ d.used ∧ d.used ≤ d.limit ∧ d.limit ≤ 1073741824
  names : Maps.size d.names ≤ 1000000
  synced : Maps.size d.synced ≤ 1000000
  changes : d.changes.length ≤ 1000000
  text : ∀ c, c ∈ d.changes → c.went.size ≤ maxLen ∧ c.became.size ≤ maxLen
  bytes : ∀ g x, d.files g = some x → x.bytes.length ≤ 1073741824 ∧ x.synced ≤ x.bytes.length

def Disk.tick (d : Disk) : Disk := { d with ops := d.ops + 1, fuse := YtjklbhdhjfifhaaGreat.tick d.fuse, fault := YtjklbhdhjfifhaaGreat.tick d.fault }
/-- The guard: why an operation is not done, or none; and what is left. -/
def Disk.guard (d : Disk) (right : Bool) : Option Int × Disk :=
  if right = false then (some 2, d)
  else if d.on = false then (some 9, d)
  else if d.fuse = 0 then (some 9, { d.tick with on := false })
  else if d.fault = 0 then (some d.fail, d.tick)
  else (none, d.tick)

theorem operate_rep (A : Nat → Prop) (f N : Nat) (caps : Array Value) (hent : ∀ w, (callFunc N caps).run Tryz.prog w = .ok (.enter N caps) w) (d : Disk) (right : Bool) (w : World) (bn bs : Nat) (ch : Value) (fv : Nat → Value) (h : RepAt A w f d bn bs ch fv) (hn : Num d) (R : Ending → World → Prop)
    (HE : ∀ z w', (d.guard right).1 = some z → RepAt A w' f (d.guard right).2 bn bs ch fv → Turns (fun k => k = f) w w' → R (.returned (.int .i64 z)) w')
    (HG : (d.guard right).1 = none → ∀ wc, RepAt A wc f d.tick bn bs ch fv → Turns (fun k => k = f) w wc → Calls Tryz.prog N caps wc fun e w' => ∃ z : Int, e = .returned (.int .i64 z) ∧ R (.returned (.int .i64 z)) w') :
    Calls Tryz.prog 59 #[.pointer (some ⟨f, 0, none⟩), .bool right, .func (.func N) #[] caps] w R := by
  have hc := h.cells
  unfold Disk.cells at hc
  cases right with
  | false =>
    have hg : d.guard false = (some 2, d) := rfl
    refine (operate_arg f bn _ w (cell_of_row w f 1 _ 72 (0, 0) hc)).mono ?_
    rintro e w' ⟨rfl, rfl⟩
    rw [hg] at HE
    exact HE 2 _ rfl h (Turns.refl _ _)
  | true =>
    cases hon : d.on with
    | false =>
      have hg : d.guard true = (some 9, d) := by unfold Disk.guard; rw [if_neg (by decide), if_pos hon]
      rw [hon] at hc
      refine (operate_off f bn _ d.limit d.used d.lost d.ops d.fuse d.fault d.fail _ _ w hc).mono ?_
      rintro e w' ⟨rfl, rfl⟩
      rw [hg] at HE
      exact HE 9 _ rfl h (Turns.refl _ _)
    | true =>
      rw [hon] at hc
      by_cases h8 : d.fuse = 0
      · have hg : d.guard true = (some 9, { d.tick with on := false }) := by unfold Disk.guard; rw [if_neg (by decide), if_neg (by rw [hon]; decide), if_pos h8]
        refine (operate_fuse f bn _ d.limit d.used d.lost d.ops d.fuse d.fault d.fail _ _ w hc hn.ops hn.fuse hn.fault h8).mono ?_
        rintro e w' ⟨rfl, t⟩
        rw [hg] at HE
        exact HE 9 _ rfl (h.turn (Turns.of_tickV t) t.1 rfl rfl rfl rfl) (Turns.of_tickV t)
      · by_cases h9 : d.fault = 0
        · have hg : d.guard true = (some d.fail, d.tick) := by unfold Disk.guard; rw [if_neg (by decide), if_neg (by rw [hon]; decide), if_neg h8, if_pos h9]
          refine (operate_fault f bn _ d.limit d.used d.lost d.ops d.fuse d.fault d.fail _ _ w hc hn.ops hn.fuse hn.fault h8 h9).mono ?_
          rintro e w' ⟨rfl, t⟩
          rw [hg] at HE
          refine HE _ _ rfl (h.turn (Turns.of_tickV t) ?_ rfl rfl rfl rfl) (Turns.of_tickV t)
          rw [t.1, Disk.cells, Disk.tick, hon]
        · have hg : d.guard true = (none, d.tick) := by unfold Disk.guard; rw [if_neg (by decide), if_neg (by rw [hon]; decide), if_neg h8, if_neg h9]
          refine operate_go f bn N caps hent d.limit d.used d.lost d.ops d.fuse d.fault d.fail _ _ w hc hn.ops hn.fuse hn.fault h8 h9 R fun wc t => ?_
          rw [hg] at HG
          refine HG rfl wc (h.turn (Turns.of_tickV t) ?_ rfl rfl rfl rfl) (Turns.of_tickV t)
          rw [t.1, Disk.cells, Disk.tick, hon]
end Go.Proofs.YtjklbhdhjfifhaaGreat

/-
  Create of any file system; what a change makes of a directory.
-/
namespace Go.Proofs.YtjklbhdhjfifhaaGreat
open Go.RowKit Go.Maps

/-- The blocks of a file system behind a step: those that it had, and new ones. -/
def GrowV (A : Nat → Prop) (w : World) : Nat → Prop := fun k => A k ∨ w.heap.size ≤ k
def Disk.change (d : Disk) (c : Chg) : Disk := { d with names := applyD d.names c, changes := d.changes ++ [c] }
def Disk.setF (d : Disk) (g : Nat) (x : Fil) : Disk := { d with files := fun k => if k = g then some x else d.files k }
def Disk.add (d : Disk) (name : ByteArray) (g : Nat) : Disk := (d.setF g ⟨[], 0⟩).change ⟨⟨#[]⟩, name, some g⟩

theorem keyLit (s : ByteArray) : WideAt.IsKeyLit (key s) := trivial
theorem key_ne {s t : ByteArray} (h : s ≠ t) : key s ≠ key t := fun e => h (by
  unfold key at e
  injection e with e
  cases s; cases t
  congr
  exact Array.toList_inj.1 e)
theorem fileOf_lit (D : DataW Unit) (s : ByteArray) (g : Nat) (h : D.atKey (key s) .nil = .lit (.int .i64 (g : Nat))) : fileOf D s = some g := by
  unfold fileOf
  rw [h]
  simp
theorem fileOf_congr {D D' : DataW Unit} {s : ByteArray} (h : D.atKey (key s) .nil = D'.atKey (key s) .nil) : fileOf D s = fileOf D' s := by
  unfold fileOf
  rw [h]
/-- Which file a name is behind a change. -/
theorem fileOf_apply (D : DataW Unit) (hD : IsMap D) (c : Chg) (s : ByteArray) :
    fileOf (applyD D c) s = match c.file with
      | none => if s = c.went then none else fileOf D s
      | some g => if s = c.became then some g else if s = c.went then none else fileOf D s := by
  obtain ⟨went, became, file⟩ := c
  have hdel : fileOf (D.del (key went)) s = if s = went then none else fileOf D s := by
    by_cases e : s = went
    · rw [if_pos e, e]
      unfold fileOf
      rw [atKey_del_same]
    · rw [if_neg e]
      exact fileOf_congr (atKey_del_other (key_ne e) _)
  cases file with
  | none => exact hdel
  | some g =>
    show fileOf ((D.del (key went)).put (key became) (.lit (.int .i64 (g : Nat)))) s = if s = became then some g else if s = went then none else fileOf D s
    by_cases e : s = became
    · rw [if_pos e, e]
      exact fileOf_lit _ _ _ (atKey_put_same (hD.del _) (keyLit _) _ _)
    · rw [if_neg e, ← hdel]
      exact fileOf_congr (atKey_put_other (key_ne e) _ _)
theorem fileOf_applied {D : DataW Unit} (hD : IsMap D) {c : Chg} {s : ByteArray} {g : Nat} (h : fileOf (applyD D c) s = some g) : fileOf D s = some g ∨ c.file = some g := by
  rw [fileOf_apply D hD] at h
  cases e : c.file with
  | none =>
    rw [e] at h
    simp only at h
    split at h
    · cases h
    · exact .inl h
  | some q =>
    rw [e] at h
    simp only at h
    split at h
    · exact .inr h
    · split at h
      · cases h
      · exact .inl h
theorem grow_of {A : Nat → Prop} {w w1 : World} (h : w.heap.size ≤ w1.heap.size) : ∀ k, GrowV A w1 k → GrowV A w k := fun _ hk => hk.imp id (Nat.le_trans h)

set_option maxHeartbeats 1000000 in
theorem create_rep (A : Nat → Prop) (f : Nat) (d : Disk) (name : ByteArray) (w : World) (h : Rep A w f d) (hn : Num d) (hnm : name.size ≤ maxLen) (R : Ending → World → Prop)
    (HE : ∀ z w', (d.guard (goodN name)).1 = some z → Rep (GrowV A w) w' f (d.guard (goodN name)).2 → Turns A w w' → R (.returned (.int .i64 z)) w')
    (HT : (d.guard (goodN name)).1 = none → ∀ g w', fileOf d.names name = some g → Rep (GrowV A w) w' f d.tick → Turns A w w' → R (.returned (.int .i64 5)) w')
    (HN : (d.guard (goodN name)).1 = none → fileOf d.names name = none → ∀ g w', w.heap.size ≤ g → Rep (GrowV A w) w' f (d.tick.add name g) → Turns A w w' → R (.returned (.int .i64 0)) w') :
    Calls Tryz.prog 36 #[.pointer (some ⟨f, 0, none⟩), .string name] w R := by
  obtain ⟨bn, bs, ch, fv, h⟩ := h
  have hfw := lt_of_heap h.cells
  have hbw := h.names.lt
  refine create_via _ name w _ fun w1 pf pn t1 x0 x1 hpf hpn => ?_
  have h1 := h.quiet t1
  refine operate_rep A f 61 _ (enters61 _) d (goodN name) w1 bn bs ch fv h1 hn _ (fun z w' hg hr ht => ?_) (fun hg wc hr ht => ?_)
  · exact ⟨z, rfl, HE z w' hg ⟨bn, bs, ch, fv, hr.mono fun k _ hk => .inl hk⟩ ((t1.mono fun _ _ x => x.elim).trans (ht.mono fun k _ e => by rw [e]; exact h.af)), ht.mono fun k _ e => by rw [e]; exact hfw⟩
  · have hfa : Turns A w wc := (t1.mono fun _ _ x => x.elim).trans (ht.mono fun k _ e => by rw [e]; exact h.af)
    have hsm : Turns (fun k => k < w.heap.size) w1 wc := ht.mono fun k _ e => by rw [e]; exact hfw
    have y0 := ht.cell x0 (by show ¬ pf = f; omega)
    have y1 := ht.cell x1 (by show ¬ pn = f; omega)
    cases hfile : fileOf d.names name with
    | some g =>
      refine (create1_there f bn _ pf pn g d.names name wc y0 y1 (cell_of_row wc f 1 _ 72 (0, 0) hr.cells) hr.names hnm hfile).mono ?_
      rintro e w2 ⟨rfl, m, rfl⟩
      exact ⟨5, rfl, 5, rfl, HT hg g _ hfile ⟨bn, bs, ch, fv, (hr.mono fun k _ hk => .inl hk).quiet ((Turns.refl _ wc).drewN m)⟩ (hfa.drewN m), hsm.drewN m⟩
    | none =>
      refine (create1_new f bn (Maps.size d.names) pf pn d.names d.changes name d.limit d.used d.lost (d.ops + 1) (tick d.fuse) (tick d.fault) d.fail d.on _ ch wc y0 y1 hr.cells hr.names hr.chs (by have := hn.names; unfold maxLen; omega) (by have := hn.changes; omega) hnm hfile).mono ?_
      rintro e w2 ⟨rfl, ch', k1, k2, k3, k4, k5, k6⟩
      have hww : w.heap.size ≤ wc.heap.size := hfa.size
      -- the world in which the file was made: its blocks are those of the last one
      have hall : RepAt (GrowV A wc) w2 f (d.tick.add name wc.heap.size) bn bs ch' (fun k => if k = wc.heap.size then .slice none 0 0 else fv k) := by
        have hnil : ∀ k, ¬ inRowV (.slice none 0 0) k := fun k hk => by obtain ⟨_, _, e⟩ := hk; cases e
        have hkeep : ∀ q x, d.files q = some x → FileAt (GrowV A wc) w2 q (fv q) x := fun q x hq => by
          refine ((hr.files.each q x hq).mono (A' := GrowV A wc) fun k _ hk => .inl hk).keep k5 (fun e => ?_) (fun k hk e => ?_)
          · rcases e with e | e | e
            · exact (hr.file (d := d.tick) hq).1 e
            · exact (hr.file (d := d.tick) hq).2.1 e
            · exact (hr.file (d := d.tick) hq).2.2.2.1 e
          · rcases e with e | e | e
            · exact (hr.row (d := d.tick) hq hk).1 e
            · exact (hr.row (d := d.tick) hq hk).2.1 e
            · exact (hr.row (d := d.tick) hq hk).2.2.2.1 e
        have hnew : d.files wc.heap.size = none := hr.new (d := d.tick) (Nat.le_refl _)
        have hup : ∀ q, (∃ x, d.files q = some x) → ∃ x, (d.tick.add name wc.heap.size).files q = some x := fun q ⟨x, hx⟩ => by
          by_cases e : q = wc.heap.size
          · exact ⟨⟨[], 0⟩, by simp [Disk.add, Disk.change, Disk.setF, e]⟩
          · exact ⟨x, by simp [Disk.add, Disk.change, Disk.setF, e, Disk.tick, hx]⟩
        have hself : ∃ x, (d.tick.add name wc.heap.size).files wc.heap.size = some x := ⟨⟨[], 0⟩, by simp [Disk.add, Disk.change, Disk.setF]⟩
        refine ⟨k1, k3.tight, ?_, k4, hr.ne, .inl hr.af, .inl hr.an, .inl hr.ay, fun k hk => (k6 k hk).imp (hr.ac k) id, ⟨fun q x hq => ?_, fun q q' x x' k hq hq' hne hk => ?_⟩, ⟨show Full (applyD d.names ⟨⟨#[]⟩, name, some wc.heap.size⟩) from h.refs.fn.apply _, h.refs.fs, fun s q hs => ?_, fun s q hs => hup q (h.refs.synced s q hs), fun c hc q hq => ?_⟩⟩
        · refine hr.synced.keep k5 fun e => ?_
          rcases e with e | e | e
          · exact hr.fs e.symm
          · exact hr.ne e.symm
          · exact (hr.chrow e).2.2.1 rfl
        · by_cases e : q = wc.heap.size
          · subst e
            have hx : (⟨[], 0⟩ : Fil) = x := by simpa [Disk.add, Disk.change, Disk.setF] using hq
            subst hx
            rw [if_pos rfl]
            exact ⟨k2, .inl ⟨rfl, rfl⟩, .inr (Nat.le_refl _), fun k hk => (hnil k hk).elim⟩
          · rw [if_neg e]
            exact hkeep q x (by simpa [Disk.add, Disk.change, Disk.setF, e, Disk.tick] using hq)
        · by_cases e : q = wc.heap.size
          · rw [if_pos e] at hk
            exact (hnil k hk).elim
          · rw [if_neg e] at hk
            by_cases e' : q' = wc.heap.size
            · rw [if_pos e']
              exact hnil k
            · rw [if_neg e']
              exact h.files.apart q q' x x' k (by simpa [Disk.add, Disk.change, Disk.setF, e, Disk.tick] using hq) (by simpa [Disk.add, Disk.change, Disk.setF, e', Disk.tick] using hq') hne hk
        · have hs' : fileOf (applyD d.names ⟨⟨#[]⟩, name, some wc.heap.size⟩) s = some q := hs
          rcases fileOf_applied (D := d.names) h.names.isMap hs' with hs | hs
          · exact hup q (h.refs.names s q hs)
          · obtain rfl : wc.heap.size = q := by simpa using hs
            exact hself
        · have hc' : c ∈ d.changes ++ [⟨⟨#[]⟩, name, some wc.heap.size⟩] := hc
          rcases List.mem_append.1 hc' with hc | hc
          · exact hup q (h.refs.changes c hc q hq)
          · obtain rfl : c = ⟨⟨#[]⟩, name, some wc.heap.size⟩ := by simpa using hc
            obtain rfl : wc.heap.size = q := by simpa using hq
            exact hself
      refine ⟨0, rfl, 0, rfl, HN hg hfile wc.heap.size w2 hww ⟨bn, bs, ch', _, hall.mono fun k _ => grow_of hww k⟩ (hfa.trans (k5.mono fun k _ e => ?_)), hsm.trans (k5.mono fun k _ e => ?_)⟩
      · rcases e with e | e | e
        · rw [e]; exact h.af
        · rw [e]; exact h.an
        · exact h.ac k e
      · rcases e with e | e | e
        · rw [e]; exact hfw
        · rw [e]; exact hbw
        · exact (h.chrow e).2.2.2.2
end Go.Proofs.YtjklbhdhjfifhaaGreat

/-
  Operations on the file of a name, of any file system: Sync, Append, Remove, Rename.
-/
namespace Go.Proofs.YtjklbhdhjfifhaaGreat
open Go.RowKit Go.Maps

/-- An operation on the file of a name. -/
theorem onfile_rep (A : Nat → Prop) (f M q : Nat) (caps : Array Value) (hent : ∀ g w, (callFunc M (#[.pointer (some ⟨g, 0, none⟩)] ++ caps)).run Tryz.prog w = .ok (.enter M (#[.pointer (some ⟨g, 0, none⟩)] ++ caps)) w) (d : Disk) (right : Bool) (name : ByteArray) (w : World) (bn bs : Nat) (ch : Value) (fv : Nat → Value) (h : RepAt A w f d bn bs ch fv) (hn : Num d) (hnm : name.size ≤ maxLen) (hv : OnVars w q (some ⟨f, 0, none⟩) name M caps) (hq : f < q) (R : Ending → World → Prop)
    (HE : ∀ z w', (d.guard right).1 = some z → RepAt A w' f (d.guard right).2 bn bs ch fv → Turns (fun k => k = f) w w' → R (.returned (.int .i64 z)) w')
    (HN : (d.guard right).1 = none → fileOf d.names name = none → ∀ w', RepAt A w' f d.tick bn bs ch fv → Turns (fun k => k = f) w w' → R (.returned (.int .i64 6)) w')
    (HS : (d.guard right).1 = none → ∀ g x, fileOf d.names name = some g → d.files g = some x → ∀ wm, RepAt A wm f d.tick bn bs ch fv → Turns (fun k => k = f) w wm → Calls Tryz.prog M (#[.pointer (some ⟨g, 0, none⟩)] ++ caps) wm fun e w' => ∃ z : Int, e = .returned (.int .i64 z) ∧ R (.returned (.int .i64 z)) w') :
    Calls Tryz.prog 59 #[.pointer (some ⟨f, 0, none⟩), .bool right, onVal q] w R := by
  obtain ⟨v0, v1, v2⟩ := hv
  refine operate_rep A f 105 _ (enters105 _) d right w bn bs ch fv h hn _ HE (fun hg wc hr ht => ?_)
  have xf : ∀ k, k ≠ f → ∀ v, w.cell? ⟨k, 0, none⟩ = some v → wc.cell? ⟨k, 0, none⟩ = some v := fun k hk v hv => ht.cell hv hk
  have c1 : wc.cell? ⟨f, 1, none⟩ = some (.map (some bn)) := cell_of_row wc f 1 _ 72 (0, 0) hr.cells
  cases hfile : fileOf d.names name with
  | none =>
    refine (onFile1_none f bn (Maps.size d.names) q (q + 1) (q + 2) d.names name wc (xf _ (by omega) _ v0) (xf _ (by omega) _ v1) c1 hr.names hnm hfile).mono ?_
    rintro e w2 ⟨rfl, m, rfl⟩
    exact ⟨6, rfl, HN hg hfile _ (hr.quiet ((Turns.refl _ wc).drewN m)) (ht.drewN m)⟩
  | some g =>
    obtain ⟨x, hx⟩ := h.refs.names name g hfile
    refine onFile1_some f bn (Maps.size d.names) q (q + 1) (q + 2) g M caps d.names name wc (hent g) (xf _ (by omega) _ v0) (xf _ (by omega) _ v1) c1 (xf _ (by omega) _ v2) hr.names hnm hfile _ fun m => ?_
    refine (HS hg g x hfile hx _ (hr.quiet ((Turns.refl _ wc).drewN m)) (ht.drewN m)).mono ?_
    rintro e w2 ⟨z, rfl, hz⟩
    exact ⟨z, rfl, z, rfl, hz⟩

section
variable {A : Nat → Prop} {w w' : World} {f : Nat} {d : Disk} {bn bs : Nat} {ch : Value} {fv : Nat → Value}
/-- One file has turned, and the file system's own numbers. -/
theorem RepAt.filedTo {A' : Nat → Prop} (hA : ∀ k, A k → A' k) (h : RepAt A w f d bn bs ch fv) {d' : Disk} {g : Nat} {x x' : Fil} {v' : Value} (hx : d.files g = some x) (hf : w'.heap[f]? = some (.cells (d'.cells bn bs ch) 72 (0, 0))) (hg : w'.heap[g]? = some (.cells #[v', .int .i64 (x'.synced : Nat)] 99 (0, 0))) (ho : OwnB w' v' x'.bytes) (t : Turns (fun k => k = f ∨ k = g ∨ inRowV (fv g) k) w w') (hr : ∀ k, inRowV v' k → inRowV (fv g) k ∨ w.heap.size ≤ k ∧ A' k)
    (e1 : d'.names = d.names) (e2 : d'.synced = d.synced) (e3 : d'.changes = d.changes) (e4 : d'.files = (d.setF g x').files) : RepAt A' w' f d' bn bs ch (fun k => if k = g then v' else fv k) where
  cells := hf
  names := by
    rw [e1]
    refine h.names.keep t fun e => ?_
    rcases e with e | e | e
    · exact h.fn e.symm
    · exact (h.file hx).2.1 e.symm
    · exact (h.row hx e).2.1 rfl
  synced := by
    rw [e2]
    refine h.synced.keep t fun e => ?_
    rcases e with e | e | e
    · exact h.fs e.symm
    · exact (h.file hx).2.2.1 e.symm
    · exact (h.row hx e).2.2.1 rfl
  chs := by
    rw [e3]
    refine h.chs.keep t fun k hk e => ?_
    rcases e with e | e | e
    · exact (h.chrow hk).1 e
    · rw [e] at hk; exact (h.file hx).2.2.2.1 hk
    · exact (h.row hx e).2.2.2.1 hk
  ne := h.ne
  af := hA _ h.af
  an := hA _ h.an
  ay := hA _ h.ay
  ac := fun k hk => hA _ (h.ac k hk)
  files := by
    rw [e4]
    refine ⟨fun q y hq => ?_, fun q q' y y' k hq hq' hne hk => ?_⟩
    · by_cases e : q = g
      · subst e
        have hy : x' = y := by simpa [Disk.setF] using hq
        subst hy
        rw [if_pos rfl]
        exact ⟨hg, ho, hA _ (h.files.each q x hx).ag, fun k hk => (hr k hk).elim (fun e => hA _ ((h.files.each q x hx).ar k e)) And.right⟩
      · rw [if_neg e]
        have hq' : d.files q = some y := by simpa [Disk.setF, e] using hq
        refine ((h.files.each q y hq').mono (A' := A') fun k _ hk => hA k hk).keep t (fun u => ?_) (fun k hk u => ?_)
        · rcases u with u | u | u
          · exact (h.file hq').1 u
          · exact e u
          · rw [(h.row hx u).2.2.2.2.1] at hq'; cases hq'
        · rcases u with u | u | u
          · exact (h.row hq' hk).1 u
          · have := (h.row hq' hk).2.2.2.2.1
            rw [u, hx] at this; cases this
          · exact h.files.apart q g y x k hq' hx e hk u
    · by_cases e : q = g
      · rw [if_pos e] at hk
        have e' : q' ≠ g := fun e' => hne (e.trans e'.symm)
        rw [if_neg e']
        have hq2 : d.files q' = some y' := by simpa [Disk.setF, e'] using hq'
        intro u
        rcases hr k hk with v | v
        · exact h.files.apart q' g y' x k hq2 hx e' u v
        · have := (h.row hq2 u).2.2.2.2.2; have := v.1; omega
      · rw [if_neg e] at hk
        have hq2 : d.files q = some y := by simpa [Disk.setF, e] using hq
        by_cases e' : q' = g
        · rw [if_pos e']
          intro u
          rcases hr k u with v | v
          · exact h.files.apart q g y x k hq2 hx e hk v
          · have := (h.row hq2 hk).2.2.2.2.2; have := v.1; omega
        · rw [if_neg e']
          exact h.files.apart q q' y y' k hq2 (by simpa [Disk.setF, e'] using hq') hne hk
  refs := by
    have hup : ∀ q, (∃ y, d.files q = some y) → ∃ y, d'.files q = some y := fun q ⟨y, hy⟩ => by
      rw [e4]
      by_cases e : q = g
      · exact ⟨x', by simp [Disk.setF, e]⟩
      · exact ⟨y, by simp [Disk.setF, e, hy]⟩
    exact ⟨by rw [e1]; exact h.refs.fn, by rw [e2]; exact h.refs.fs, by rw [e1]; exact fun s q hs => hup q (h.refs.names s q hs), by rw [e2]; exact fun s q hs => hup q (h.refs.synced s q hs), by rw [e3]; exact fun c hc q hq => hup q (h.refs.changes c hc q hq)⟩
theorem RepAt.filed (h : RepAt A w f d bn bs ch fv) {d' : Disk} {g : Nat} {x x' : Fil} {v' : Value} (hx : d.files g = some x) (hf : w'.heap[f]? = some (.cells (d'.cells bn bs ch) 72 (0, 0))) (hg : w'.heap[g]? = some (.cells #[v', .int .i64 (x'.synced : Nat)] 99 (0, 0))) (ho : OwnB w' v' x'.bytes) (t : Turns (fun k => k = f ∨ k = g ∨ inRowV (fv g) k) w w') (hr : ∀ k, inRowV v' k → inRowV (fv g) k ∨ w.heap.size ≤ k)
    (e1 : d'.names = d.names) (e2 : d'.synced = d.synced) (e3 : d'.changes = d.changes) (e4 : d'.files = (d.setF g x').files) : RepAt (GrowV A w) w' f d' bn bs ch (fun k => if k = g then v' else fv k) :=
  h.filedTo (A' := GrowV A w) (fun _ hk => .inl hk) hx hf hg ho t (fun k hk => (hr k hk).imp id fun e => ⟨e, .inr e⟩) e1 e2 e3 e4
end

theorem OwnB.slice {w : World} {v : Value} {bs : List (BitVec 8)} (h : OwnB w v bs) : ∃ a c, v = .slice a bs.length c := by
  rcases h with ⟨rfl, rfl⟩ | ⟨r, c, n, rfl, rfl, _⟩
  · exact ⟨_, _, rfl⟩
  · exact ⟨_, _, rfl⟩

set_option maxHeartbeats 1000000 in
theorem sync_rep (A : Nat → Prop) (f : Nat) (d : Disk) (name : ByteArray) (w : World) (h : Rep A w f d) (hn : Num d) (hnm : name.size ≤ maxLen) (R : Ending → World → Prop)
    (HE : ∀ z w', (d.guard (goodN name)).1 = some z → Rep (GrowV A w) w' f (d.guard (goodN name)).2 → Turns A w w' → R (.returned (.int .i64 z)) w')
    (HN : (d.guard (goodN name)).1 = none → fileOf d.names name = none → ∀ w', Rep (GrowV A w) w' f d.tick → Turns A w w' → R (.returned (.int .i64 6)) w')
    (HS : (d.guard (goodN name)).1 = none → ∀ g x w', fileOf d.names name = some g → d.files g = some x → Rep (GrowV A w) w' f (d.tick.setF g ⟨x.bytes, x.bytes.length⟩) → Turns A w w' → R (.returned (.int .i64 0)) w') :
    Calls Tryz.prog 52 #[.pointer (some ⟨f, 0, none⟩), .string name] w R := by
  obtain ⟨bn, bs, ch, fv, h⟩ := h
  have hfw := lt_of_heap h.cells
  refine sync_via _ name w _ fun w1 t1 hv => ?_
  have tA : ∀ {w'}, Turns (fun k => k = f) w1 w' → Turns A w w' := fun t => (t1.mono fun _ _ x => x.elim).trans (t.mono fun k _ e => by rw [e]; exact h.af)
  refine onfile_rep A f 92 w.heap.size #[] (fun g w => enters92 _ w) d (goodN name) name w1 bn bs ch fv (h.quiet t1) hn hnm hv hfw _ (fun z w' hg hr ht => ?_) (fun hg hfile w' hr ht => ?_) (fun hg g x hfile hx wm hr ht => ?_)
  · exact ⟨z, rfl, HE z w' hg ⟨bn, bs, ch, fv, hr.mono fun k _ hk => .inl hk⟩ (tA ht)⟩
  · exact ⟨6, rfl, HN hg hfile w' ⟨bn, bs, ch, fv, hr.mono fun k _ hk => .inl hk⟩ (tA ht)⟩
  · have hF := hr.files.each g x hx
    obtain ⟨fa, fc, hfv⟩ := hF.own.slice
    have hc := hF.cell
    rw [hfv] at hc
    refine (sync1_any g x.bytes.length (x.synced : Nat) fa fc wm hc).mono ?_
    rintro e w2 ⟨rfl, k1⟩
    have u2 := Turns.of_tickV k1
    have hrow : ∀ k, inRowV (fv g) k → ¬ k = g := fun k hk e => by
      have := (hr.row (d := d.tick) hx hk).2.2.2.2.1
      rw [e] at this
      rw [show d.tick.files g = d.files g from rfl, hx] at this
      cases this
    have hR : RepAt (GrowV A wm) w2 f (d.tick.setF g ⟨x.bytes, x.bytes.length⟩) bn bs ch _ := hr.filed (d := d.tick) (d' := d.tick.setF g ⟨x.bytes, x.bytes.length⟩) (g := g) (x := x) (x' := ⟨x.bytes, x.bytes.length⟩) (v' := .slice fa x.bytes.length fc) hx (u2.heap hr.cells (fun e => (hr.file (d := d.tick) hx).1 e.symm)) k1.1 (by
        rw [← hfv]
        exact hF.own.keep u2 hrow) (u2.mono fun k _ e => .inr (.inl e)) (fun k hk => .inl (by rw [hfv]; exact hk)) rfl rfl rfl rfl
    have hsz : w.heap.size ≤ wm.heap.size := Nat.le_trans t1.size ht.size
    exact ⟨0, rfl, 0, rfl, HS hg g x w2 hfile hx ⟨bn, bs, ch, _, hR.mono fun k _ => grow_of hsz k⟩ ((tA ht).trans (u2.mono fun k _ e => by rw [e]; exact (h.files.each g x hx).ag))⟩
end Go.Proofs.YtjklbhdhjfifhaaGreat
