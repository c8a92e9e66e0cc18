import Derived.Test.YtjklbhdhjfifhaaGreatM11
import Derived.Test.YtjklbhdhjfifhaaGreatM12
import Derived.Test.YtjklbhdhjfifhaaGreatM10
import Derived.Test.YtjklbhdhjfifhaaGreatM09
/-
  Append and SyncDir of any file system.
-/
namespace Go.Proofs.YtjklbhdhjfifhaaGreat
open Go.RowKit Go.Maps

def Disk.put (d : Disk) (g : Nat) (x : Fil) (news : List (BitVec 8)) : Disk := { d.setF g ⟨x.bytes ++ news, x.synced⟩ with used := d.used + news.length }

theorem Bytes.keep {S : Nat → Prop} {w w' : World} {a : Option Addr} {n c : Nat} {bs : List (BitVec 8)} (h : Bytes w (.slice a n c) bs) (t : Turns S w w') (ha : ∀ q o, a = some ⟨q, o, none⟩ → ¬ S q) : Bytes w' (.slice a n c) bs := by
  obtain ⟨a', c', e, hc⟩ := h
  have e3 : a = a' := by cases e; rfl
  refine ⟨a', c', e, fun k hk => ?_⟩
  obtain ⟨q, o, e1, e2⟩ := hc k hk
  exact ⟨q, o, e1, t.cell e2 (ha q o (e3.trans e1))⟩

set_option maxHeartbeats 1000000 in
theorem append_rep (A : Nat → Prop) (f : Nat) (d : Disk) (name : ByteArray) (a : Option Addr) (n c : Nat) (news : List (BitVec 8)) (w : World) (h : Rep A w f d) (hn : Num d) (hnm : name.size ≤ maxLen) (hb : Bytes w (.slice a n c) news) (hbf : ∀ q o, a = some ⟨q, o, none⟩ → q ≠ f) (R : Ending → World → Prop)
    (HE : ∀ z w', (d.guard (goodN name)).1 = some z → Rep (GrowV A w) w' f (d.guard (goodN name)).2 → Turns A w w' → R (.returned (.int .i64 z)) w')
    (HN : (d.guard (goodN name)).1 = none → fileOf d.names name = none → ∀ w', Rep (GrowV A w) w' f d.tick → Turns A w w' → R (.returned (.int .i64 6)) w')
    (HF : (d.guard (goodN name)).1 = none → ∀ g x w', fileOf d.names name = some g → d.files g = some x → d.limit - d.used < (news.length : Int) → Rep (GrowV A w) w' f d.tick → Turns A w w' → R (.returned (.int .i64 7)) w')
    (HS : (d.guard (goodN name)).1 = none → ∀ g x w', fileOf d.names name = some g → d.files g = some x → (news.length : Int) ≤ d.limit - d.used → Rep (GrowV A w) w' f (d.tick.put g x news) → Turns A w w' → R (.returned (.int .i64 0)) w') :
    Calls Tryz.prog 37 #[.pointer (some ⟨f, 0, none⟩), .string name, .slice a n c] w R := by
  obtain ⟨bn, bs, ch, fv, h⟩ := h
  have hfw := lt_of_heap h.cells
  have hnl := hb.len
  refine append_via _ name a n c w _ fun w1 t1 x0 x1 hv => ?_
  have tA : ∀ {w'}, Turns (fun k => k = f) w1 w' → Turns A w w' := fun t => (t1.mono fun _ _ x => x.elim).trans (t.mono fun k _ e => by rw [e]; exact h.af)
  have tS : ∀ {w'}, Turns (fun k => k = f) w1 w' → Turns (fun k => k < w.heap.size) w1 w' := fun t => t.mono fun k _ e => by rw [e]; exact hfw
  refine onfile_rep A f 64 (w.heap.size + 2) _ (fun g w => enters64 _ w) d (goodN name) name w1 bn bs ch fv (h.quiet t1) hn hnm hv (by omega) _ (fun z w' hg hr ht => ?_) (fun hg hfile w' hr ht => ?_) (fun hg g x hfile hx wm hr ht => ?_)
  · exact ⟨z, rfl, HE z w' hg ⟨bn, bs, ch, fv, hr.mono fun k _ hk => .inl hk⟩ (tA ht), tS ht⟩
  · exact ⟨6, rfl, HN hg hfile w' ⟨bn, bs, ch, fv, hr.mono fun k _ hk => .inl hk⟩ (tA ht), tS ht⟩
  · have hF := hr.files.each g x hx
    have y0 := ht.cell x0 (by show ¬ w.heap.size = f; omega)
    have y1 := ht.cell x1 (by show ¬ w.heap.size + 1 = f; omega)
    have hu := hn.used
    have hu' : 0 ≤ d.used ∧ d.used ≤ d.limit ∧ d.limit ≤ 1073741824 := by omega
    by_cases hroom : (n : Int) ≤ d.limit - d.used
    · have hgw := (h.file hx).2.2.2.2
      have hrl : ∀ k, inRowV (fv g) k → k < w.heap.size := fun k hk => (h.row hx hk).2.2.2.2.2
      refine (append1_all f w.heap.size (w.heap.size + 1) g _ (fv g) (x.synced : Nat) x.bytes news n a c d.limit d.used wm y0 y1 hr.cells rfl rfl hu' hroom hF.cell hF.own ((hb.keep t1 fun _ _ _ x => x).keep ht hbf) (hn.bytes g x hx).1 (by omega) (by omega) (fun e => by have := hrl _ e; omega) (fun e => by have := hrl _ e; omega)).mono ?_
      rintro e w2 ⟨rfl, v', k1, k2, k3, k4, k5⟩
      have hR : RepAt (GrowV A wm) w2 f (d.tick.put g x news) bn bs ch _ := hr.filed (d := d.tick) (d' := d.tick.put g x news) (g := g) (x := x) (x' := ⟨x.bytes ++ news, x.synced⟩) (v' := v') hx (by
          rw [k3, hnl]
          rfl) k1 k2 k4 k5 rfl rfl rfl rfl
      have hsz : w.heap.size ≤ wm.heap.size := Nat.le_trans t1.size ht.size
      refine ⟨0, rfl, 0, rfl, HS hg g x w2 hfile hx (by omega) ⟨bn, bs, ch, _, hR.mono fun k _ => grow_of hsz k⟩ ((tA ht).trans (k4.mono fun k _ e => ?_)), (tS ht).trans (k4.mono fun k _ e => ?_)⟩
      · rcases e with e | e | e
        · rw [e]; exact h.af
        · rw [e]; exact (h.files.each g x hx).ag
        · exact (h.files.each g x hx).ar k e
      · rcases e with e | e | e
        · rw [e]; exact hfw
        · rw [e]; exact hgw
        · exact hrl k e
    · refine (append1_full f w.heap.size (w.heap.size + 1) _ n a c d.limit d.used wm y0 y1 (cell_of_row wm f 0 _ 72 (0, 0) hr.cells) (cell_of_row wm f 4 _ 72 (0, 0) hr.cells) hu' (by omega)).mono ?_
      rintro e w2 ⟨rfl, m, rfl⟩
      exact ⟨7, rfl, 7, rfl, HF hg g x _ hfile hx (by omega) ⟨bn, bs, ch, fv, (hr.mono fun k _ hk => .inl hk).quiet ((Turns.refl _ wm).drewN m)⟩ ((tA ht).drewN m), (tS ht).drewN m⟩

def Disk.settled (d : Disk) : Disk := { d with synced := d.changes.foldl applyD d.synced, changes := [], used := d.used - d.lost, lost := 0 }

end Go.Proofs.YtjklbhdhjfifhaaGreat

/-
  What a file loses its name for; the closures of Remove and Rename.
-/
namespace Go.Proofs.YtjklbhdhjfifhaaGreat
open Go.RowKit Go.Maps

end Go.Proofs.YtjklbhdhjfifhaaGreat

/-
  The closure of Rename.
-/
namespace Go.Proofs.YtjklbhdhjfifhaaGreat
open Go.RowKit Go.Maps

/-- The directory behind a rename has lost the file that had the name. -/
def lostOf (o : Option Nat) : Int := match o with | none => 0 | some m => (m : Int)

end Go.Proofs.YtjklbhdhjfifhaaGreat

/-
  Remove, Rename and Read of any file system.
-/
namespace Go.Proofs.YtjklbhdhjfifhaaGreat
open Go.RowKit Go.Maps

def Disk.lose (d : Disk) (n : Int) : Disk := { d with lost := d.lost + n }
def Disk.lenAt (d : Disk) (s : ByteArray) : Int := match fileOf d.names s with
  | none => 0
  | some g => match d.files g with
    | none => 0
    | some x => (x.bytes.length : Int)

section
variable {A : Nat → Prop} {w w' : World} {f : Nat} {d : Disk} {bn bs : Nat} {ch ch' : Value} {fv : Nat → Value}
/-- A change was made, and so many bytes lost. -/
theorem RepAt.lost (h : RepAt A w f d bn bs ch fv) (c : Chg) (m : Int) {n : Nat} (hf : w'.heap[f]? = some (.cells (((d.lose m).change c).cells bn bs ch') 72 (0, 0))) (hd : Dir w' bn n (applyD d.names c)) (hc : Chs w' ch' (d.changes ++ [c])) (t : Turns (fun k => k = f ∨ k = bn ∨ inRowV ch k) w w') (hr : ∀ k, inRowV ch' k → inRowV ch k ∨ w.heap.size ≤ k)
    (hx : ∀ g, c.file = some g → ∃ x, d.files g = some x) : RepAt (GrowV A w) w' f ((d.lose m).change c) bn bs ch' fv := by
  have hp : RepAt A w f d bn bs ch fv := h
  have hfl : Files (GrowV A w) w' fv d.files := by
    refine ⟨fun g x hg => ?_, h.files.apart⟩
    refine ((h.files.each g x hg).mono (A' := GrowV A w) fun k _ hk => .inl hk).keep t (fun e => ?_) (fun k hk e => ?_)
    · rcases e with e | e | e
      · exact (hp.file hg).1 e
      · exact (hp.file hg).2.1 e
      · exact (hp.file hg).2.2.2.1 e
    · rcases e with e | e | e
      · exact (hp.row hg hk).1 e
      · exact (hp.row hg hk).2.1 e
      · exact (hp.row hg hk).2.2.2.1 e
  refine ⟨hf, hd.tight, ?_, hc, h.ne, .inl h.af, .inl h.an, .inl h.ay, fun k hk => (hr k hk).imp (h.ac k) id, hfl, ⟨h.refs.fn.apply c, h.refs.fs, fun s g hs => ?_, h.refs.synced, fun x hxm g hg => ?_⟩⟩
  · refine h.synced.keep t fun e => ?_
    rcases e with e | e | e
    · exact h.fs e.symm
    · exact h.ne e.symm
    · exact (h.chrow e).2.2.1 rfl
  · have hs' : fileOf (applyD d.names c) s = some g := hs
    rcases fileOf_applied h.names.isMap hs' with hs | hs
    · exact h.refs.names s g hs
    · exact hx g hs
  · have hxm' : x ∈ d.changes ++ [c] := hxm
    rcases List.mem_append.1 hxm' with hxm | hxm
    · exact h.refs.changes x hxm g hg
    · obtain rfl : x = c := by simpa using hxm
      exact hx g hg
end

def Disk.right (name : ByteArray) (at' n : Int) : Bool := goodN name && decide (0 ≤ at') && decide (0 ≤ n)

set_option maxHeartbeats 1000000 in
theorem read_rep (A : Nat → Prop) (f : Nat) (d : Disk) (name : ByteArray) (at' n : Int) (w : World) (h : Rep A w f d) (hn : Num d) (hnm : name.size ≤ maxLen) (b1 : at' ≤ 9223372036854775807) (b2 : n ≤ 9223372036854775807) (R : Ending → World → Prop)
    (HE : ∀ z w', (d.guard (Disk.right name at' n)).1 = some z → Rep (GrowV A w) w' f (d.guard (Disk.right name at' n)).2 → Turns A w w' → R (.returned (.tuple #[.slice none 0 0, .int .i64 z])) w')
    (HN : (d.guard (Disk.right name at' n)).1 = none → fileOf d.names name = none → ∀ w', Rep (GrowV A w) w' f d.tick → Turns A w w' → R (.returned (.tuple #[.slice none 0 0, .int .i64 6])) w')
    (HS : (d.guard (Disk.right name at' n)).1 = none → ∀ g x w' a m c, fileOf d.names name = some g → d.files g = some x → OwnB w' (.slice a m c) (readOf x.bytes at'.toNat n.toNat) → (∀ k, inRowV (.slice a m c) k → w.heap.size ≤ k) → Rep A w' f d.tick → Turns A w w' → R (.returned (.tuple #[.slice a m c, .int .i64 0])) w') :
    Calls Tryz.prog 222 #[.pointer (some ⟨f, 0, none⟩), .string name, .int .i64 at', .int .i64 n] w R := by
  obtain ⟨bn, bs, ch, fv, h⟩ := h
  have hfw := lt_of_heap h.cells
  refine read_via_all _ name at' n w _ fun w1 t1 x0 x1 x2 hv => ?_
  have tA : ∀ {w'}, Turns (fun k => k = f) w1 w' → Turns A w w' := fun t => (t1.mono fun _ _ x => x.elim).trans (t.mono fun k _ e => by rw [e]; exact h.af)
  refine onfile_rep A f 223 (w.heap.size + 3) _ (fun g w => enters223 _ w) d (Disk.right name at' n) name w1 bn bs ch fv (h.quiet t1) hn hnm hv (by omega) _ (fun z w' hg hr ht => ?_) (fun hg hfile w' hr ht => ?_) (fun hg g x hfile hx wm hr ht => ?_)
  · refine ⟨z, _, rfl, cell_of_row w' _ 0 _ 28 (0, 0) (ht.heap x2 (by show ¬ w.heap.size + 2 = f; omega)), HE z w' hg ⟨bn, bs, ch, fv, hr.mono fun k _ hk => .inl hk⟩ (tA ht)⟩
  · refine ⟨6, _, rfl, cell_of_row w' _ 0 _ 28 (0, 0) (ht.heap x2 (by show ¬ w.heap.size + 2 = f; omega)), HN hg hfile w' ⟨bn, bs, ch, fv, hr.mono fun k _ hk => .inl hk⟩ (tA ht)⟩
  · have hright : Disk.right name at' n = true := by
      cases e : Disk.right name at' n with
      | true => rfl
      | false => rw [e] at hg; cases hg
    unfold Disk.right at hright
    rw [Bool.and_eq_true, Bool.and_eq_true, decide_eq_true_eq, decide_eq_true_eq] at hright
    obtain ⟨⟨_, p1⟩, p2⟩ := hright
    have hF := hr.files.each g x hx
    have y0 := ht.cell x0 (by show ¬ w.heap.size = f; omega)
    have y1 := ht.cell x1 (by show ¬ w.heap.size + 1 = f; omega)
    rw [show at' = ((at'.toNat : Nat) : Int) by omega] at y0
    rw [show n = ((n.toNat : Nat) : Int) by omega] at y1
    refine (read1_all g w.heap.size (w.heap.size + 1) (w.heap.size + 2) (fv g) (x.synced : Nat) x.bytes at'.toNat n.toNat wm y0 y1 (ht.heap x2 (by show ¬ w.heap.size + 2 = f; omega)) hF.cell hF.own (hn.bytes g x hx).1 (by omega) (by omega)).mono ?_
    rintro e w2 ⟨rfl, a, m, c, k1, k2, k3, k4⟩
    have hsz : w.heap.size ≤ wm.heap.size := Nat.le_trans t1.size ht.size
    have hall : ∀ k, A k → k < w.heap.size → ¬ k = w.heap.size + 2 := fun k _ hk => by omega
    -- what was read lies apart from the file system
    have hR : RepAt (fun k => A k ∧ k < w.heap.size) wm f d.tick bn bs ch fv := by
      have hr0 := (h.mono (A' := fun k => A k ∧ k < w.heap.size) fun k hk hA => ⟨hA, hk⟩).quiet t1
      refine ⟨hr.cells, hr.names, hr.synced, hr.chs, hr.ne, hr0.af, hr0.an, hr0.ay, hr0.ac, ⟨fun q y hq => ?_, hr.files.apart⟩, hr.refs⟩
      have hq' := hr0.files.each q y hq
      exact ⟨(hr.files.each q y hq).cell, (hr.files.each q y hq).own, hq'.ag, hq'.ar⟩
    have hR2 := (hR.keep k4 fun k _ hk e => hall k hk.1 hk.2 e).mono (A' := A) fun k _ hk => hk.1
    exact ⟨0, rfl, 0, _, rfl, k1, HS hg g x w2 a m c hfile hx k2 (fun k hk => Nat.le_trans hsz (k3 k hk)) ⟨bn, bs, ch, fv, hR2⟩ ((tA ht).andThen k4 fun k hk e => by omega)⟩
end Go.Proofs.YtjklbhdhjfifhaaGreat

/-
  What a file system tells, and what is set in it.
-/
namespace Go.Proofs.YtjklbhdhjfifhaaGreat
open Go.RowKit Go.Maps

def Disk.size (d : Disk) (s : ByteArray) : Int := match fileOf d.names s with
  | none => -1
  | some g => match d.files g with
    | none => -1
    | some x => (x.bytes.length : Int)

set_option maxRecDepth 100000 in
set_option maxHeartbeats 1000000 in
theorem size_rep (A : Nat → Prop) (f : Nat) (d : Disk) (name : ByteArray) (w : World) (h : Rep A w f d) (hnm : name.size ≤ maxLen) :
    Calls Tryz.prog 33 #[.pointer (some ⟨f, 0, none⟩), .string name] w fun e w' => e = .returned (.int .i64 (d.size name)) ∧ w' = w := by
  obtain ⟨bn, bs, ch, fv, h⟩ := h
  have c1 : w.cell? ⟨f, 1, none⟩ = some (.map (some bn)) := cell_of_row w f 1 _ 72 (0, 0) h.cells
  have hl := h.names.look' name hnm
  cases e : fileOf d.names name with
  | none =>
    have hsz : d.size name = -1 := by unfold Disk.size; rw [e]
    rw [e] at hl
    simp only [ptrOf] at hl
    rw [hsz]
    clear h e hsz
    go_enter Tryz.func33, Tryz.ntmps33
    go_wp2_with fail
    refine (made_yes f bn _ c1).mono ?_
    rintro e w1 ⟨rfl, rfl⟩
    go_wp2_with fail
    go_ret
    exact ⟨rfl, rfl⟩
  | some g =>
    obtain ⟨x, hx⟩ := h.refs.names name g e
    have hsz : d.size name = (x.bytes.length : Int) := by unfold Disk.size; rw [e]; simp only [hx]
    have hF := h.files.each g x hx
    obtain ⟨fa, fc, hfv⟩ := hF.own.slice
    have hc := hF.cell
    rw [hfv] at hc
    have c0 : w.cell? ⟨g, 0, none⟩ = some (.slice fa x.bytes.length fc) := cell_of_row w g 0 _ 99 (0, 0) hc
    rw [e] at hl
    simp only [ptrOf] at hl
    rw [hsz]
    clear h e hsz hF hfv hc hx
    generalize x.bytes.length = L at *
    go_enter Tryz.func33, Tryz.ntmps33
    go_wp2_with fail
    refine (made_yes f bn _ c1).mono ?_
    rintro e w1 ⟨rfl, rfl⟩
    go_wp2_with fail
    go_ret
    exact ⟨rfl, rfl⟩

end Go.Proofs.YtjklbhdhjfifhaaGreat

/-
  File systems without a file, and with one: what each operation makes of them.
-/
namespace Go.Proofs.YtjklbhdhjfifhaaGreat
open Go.RowKit Go.Maps

/-- All blocks from B on. -/
def From (B : Nat) : Nat → Prop := fun k => B ≤ k
theorem from_grow {B : Nat} {w : World} (hB : B ≤ w.heap.size) : ∀ k, GrowV (From B) w k → From B k := fun _ hk => hk.elim id (Nat.le_trans hB)
theorem Rep.from {B : Nat} {w w' : World} {f : Nat} {d : Disk} (h : Rep (GrowV (From B) w) w' f d) (hB : B ≤ w.heap.size) : Rep (From B) w' f d := h.mono fun k _ => from_grow hB k
theorem Turns.from {B : Nat} {w w' : World} (t : Turns (From B) w w') (hB : B ≤ w.heap.size) : Below B w w' := t.below hB fun _ h => h

def zeroDisk (limit ops : Int) : Disk := { limit := limit, names := .map [], synced := .map [], changes := [], files := fun _ => none, used := 0, lost := 0, on := true, ops := ops, fuse := -1, fault := -1, fail := 0 }
def oneDisk (limit : Int) (g : Nat) (name : ByteArray) (l : List Chg) (S : DataW Unit) (bytes : List (BitVec 8)) (s : Nat) (used lost ops : Int) : Disk :=
  { limit := limit, names := one name g, synced := S, changes := l, files := fun k => if k = g then some ⟨bytes, s⟩ else none, used := used, lost := lost, on := true, ops := ops, fuse := -1, fault := -1, fail := 0 }

theorem zero_num (limit ops : Int) (h1 : 0 ≤ limit ∧ limit ≤ 1073741824) (h2 : 0 ≤ ops ∧ ops ≤ 1000) : Num (zeroDisk limit ops) :=
  ⟨by show 0 ≤ ops ∧ ops ≤ 1000000; omega, by show (-1 : Int) ≤ 9223372036854775807; decide, by show (-1 : Int) ≤ 9223372036854775807; decide, by show (0 : Int) ≤ 0 ∧ (0 : Int) ≤ 0 ∧ 0 ≤ limit ∧ limit ≤ 1073741824; omega, by show 0 ≤ 1000000; decide, by show 0 ≤ 1000000; decide, by show 0 ≤ 1000000; decide, fun c hc => (by cases hc), fun g x hx => (by cases hx)⟩
theorem one_num (limit : Int) (g : Nat) (name : ByteArray) (l : List Chg) (S : DataW Unit) (bytes : List (BitVec 8)) (s : Nat) (used lost ops : Int) (h1 : 0 ≤ lost ∧ lost ≤ used ∧ used ≤ limit ∧ limit ≤ 1073741824) (h2 : 0 ≤ ops ∧ ops ≤ 1000) (h3 : bytes.length ≤ 1073741824) (h4 : s ≤ bytes.length) (h5 : l.length ≤ 100) (h6 : ∀ x ∈ l, x.went.size ≤ maxLen ∧ x.became.size ≤ maxLen) (h7 : Maps.size S ≤ 100) : Num (oneDisk limit g name l S bytes s used lost ops) := by
  refine ⟨by show 0 ≤ ops ∧ ops ≤ 1000000; omega, by show (-1 : Int) ≤ 9223372036854775807; decide, by show (-1 : Int) ≤ 9223372036854775807; decide, h1, ?_, by show Maps.size S ≤ 1000000; omega, by show l.length ≤ 1000000; omega, h6, fun q x hx => ?_⟩
  · show Maps.size (one name g) ≤ 1000000
    show 1 ≤ 1000000
    decide
  · have hx' : (if q = g then some (⟨bytes, s⟩ : Fil) else none) = some x := hx
    split at hx'
    · obtain rfl : (⟨bytes, s⟩ : Fil) = x := by simpa using hx'
      exact ⟨h3, h4⟩
    · cases hx'
theorem zero_tick (limit ops : Int) : (zeroDisk limit ops).tick = zeroDisk limit (ops + 1) := rfl
theorem one_tick (limit : Int) (g : Nat) (name : ByteArray) (l : List Chg) (S : DataW Unit) (bytes : List (BitVec 8)) (s : Nat) (used lost ops : Int) : (oneDisk limit g name l S bytes s used lost ops).tick = oneDisk limit g name l S bytes s used lost (ops + 1) := rfl
theorem one_files (g : Nat) (x y : Fil) : (fun k => if k = g then some y else if k = g then some x else none) = fun k => if k = g then some y else none := by
  funext k
  split <;> rfl
theorem one_at (limit : Int) (g : Nat) (name : ByteArray) (l : List Chg) (S : DataW Unit) (bytes : List (BitVec 8)) (s : Nat) (used lost ops : Int) {q : Nat} {x : Fil} (hq : fileOf (oneDisk limit g name l S bytes s used lost ops).names name = some q) (hx : (oneDisk limit g name l S bytes s used lost ops).files q = some x) : q = g ∧ x = ⟨bytes, s⟩ := by
  have h1 : fileOf (one name g) name = some q := hq
  rw [one_file] at h1
  obtain rfl : g = q := by simpa using h1
  refine ⟨rfl, ?_⟩
  have h2 : (if g = g then some (⟨bytes, s⟩ : Fil) else none) = some x := hx
  rw [if_pos rfl] at h2
  exact (Option.some.inj h2).symm

theorem new_rep (limit : Int) (w : World) (h1 : 0 ≤ limit) (h2 : limit ≤ 1073741824) :
    Calls Tryz.prog 35 #[.int .i64 limit] w fun e w' => e = .returned (.tuple #[.pointer (some ⟨w.heap.size + 2, 0, none⟩), .int .i64 0]) ∧ Rep (From w.heap.size) w' (w.heap.size + 2) (zeroDisk limit 0) ∧ Below w.heap.size w w' := by
  refine (new_good limit w h1 h2).mono ?_
  rintro e w' ⟨rfl, k1, k2, k3, k4⟩
  refine ⟨rfl, ⟨w.heap.size, w.heap.size + 1, .slice none 0 0, fun _ => .slice none 0 0, ⟨k1, k2, k3, .inl ⟨rfl, rfl⟩, by omega, Nat.le_add_right _ _, Nat.le_refl _, Nat.le_add_right _ _, fun k hk => ?_, ⟨fun g x hx => (by cases hx), fun g g' x x' k hg => (by cases hg)⟩, ⟨Full.empty, Full.empty, fun s g hs => ?_, fun s g hs => ?_, fun c hc => by cases hc⟩⟩⟩, k4⟩
  · obtain ⟨_, _, e⟩ := hk
    cases e
  · have hs' : fileOf (.map []) s = some g := hs
    rw [none_file] at hs'; cases hs'
  · have hs' : fileOf (.map []) s = some g := hs
    rw [none_file] at hs'; cases hs'

theorem create_1 (B f : Nat) (name : ByteArray) (limit ops : Int) (w : World) (h : Rep (From B) w f (zeroDisk limit ops)) (hB : B ≤ w.heap.size) (h1 : 0 ≤ limit ∧ limit ≤ 1073741824) (h2 : 0 ≤ ops ∧ ops ≤ 1000) (hgn : goodN name = true) (hnm : name.size ≤ maxLen) :
    Calls Tryz.prog 36 #[.pointer (some ⟨f, 0, none⟩), .string name] w fun e w' => e = .returned (.int .i64 0) ∧ ∃ g, Rep (From B) w' f (oneDisk limit g name [⟨⟨#[]⟩, name, some g⟩] (.map []) [] 0 0 0 (ops + 1)) ∧ Below B w w' := by
  have hg : (zeroDisk limit ops).guard (goodN name) = (none, zeroDisk limit (ops + 1)) := by rw [hgn]; rfl
  refine create_rep (From B) f _ name w h (zero_num limit ops h1 h2) hnm _ (fun z w' e => by rw [hg] at e; cases e) (fun _ g w' e => ?_) (fun _ _ g w' hgw hr ht => ?_)
  · have e' : fileOf (.map []) name = some g := e
    rw [none_file] at e'; cases e'
  · refine ⟨rfl, g, ?_, ht.from hB⟩
    have hd : (zeroDisk limit ops).tick.add name g = oneDisk limit g name [⟨⟨#[]⟩, name, some g⟩] (.map []) [] 0 0 0 (ops + 1) := by
      rw [zero_tick]
      unfold Disk.add Disk.change Disk.setF zeroDisk oneDisk
      simp only [apply_first, List.nil_append]
    rw [← hd]
    exact hr.from hB

section
variable (B f g : Nat) (name : ByteArray) (l : List Chg) (S : DataW Unit) (bytes : List (BitVec 8)) (s : Nat) (limit used lost ops : Int) (w : World) (h : Rep (From B) w f (oneDisk limit g name l S bytes s used lost ops)) (hB : B ≤ w.heap.size) (hn : Num (oneDisk limit g name l S bytes s used lost ops))
include h hB hn

theorem append_1 (a : Option Addr) (n c : Nat) (news : List (BitVec 8)) (hb : Bytes w (.slice a n c) news) (hbf : ∀ q o, a = some ⟨q, o, none⟩ → q ≠ f) (hroom : (news.length : Int) ≤ limit - used) (hgn : goodN name = true) (hnm : name.size ≤ maxLen) :
    Calls Tryz.prog 37 #[.pointer (some ⟨f, 0, none⟩), .string name, .slice a n c] w fun e w' => e = .returned (.int .i64 0) ∧ Rep (From B) w' f (oneDisk limit g name l S (bytes ++ news) s (used + news.length) lost (ops + 1)) ∧ Below B w w' := by
  have hg : (oneDisk limit g name l S bytes s used lost ops).guard (goodN name) = (none, oneDisk limit g name l S bytes s used lost (ops + 1)) := by rw [hgn]; rfl
  refine append_rep (From B) f _ name a n c news w h hn hnm hb hbf _ (fun z w' e => by rw [hg] at e; cases e) (fun _ e => ?_) (fun _ q x w' _ _ e => ?_) (fun _ q x w' hq hx _ hr ht => ?_)
  · have e' : fileOf (one name g) name = none := e
    rw [one_file] at e'; cases e'
  · have e' : limit - used < (news.length : Int) := e
    omega
  · obtain ⟨rfl, rfl⟩ := one_at limit g name l S bytes s used lost ops hq hx
    refine ⟨rfl, ?_, ht.from hB⟩
    have hd : (oneDisk limit q name l S bytes s used lost ops).tick.put q ⟨bytes, s⟩ news = oneDisk limit q name l S (bytes ++ news) s (used + news.length) lost (ops + 1) := by
      rw [one_tick]
      unfold Disk.put Disk.setF oneDisk
      simp only [one_files]
    rw [← hd]
    exact hr.from hB
end
end Go.Proofs.YtjklbhdhjfifhaaGreat
