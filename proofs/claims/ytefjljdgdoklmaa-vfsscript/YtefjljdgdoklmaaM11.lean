import Derived.Test.YtefjljdgdoklmaaM10
import Derived.Shelf.SlIter.Nil
import Derived.Shelf.SortM.Plain
import Derived.Shelf.SortM.SortNone
import Derived.Ground.GgzProg
import Derived.Ground.SlgmProg
import Derived.Test.YtefjljdgdoklmaaProg
import Derived.Test.YtefjljdgdoklmaaM06
/-
  Remove, Rename and Read of any file system.
-/
namespace Go.Proofs.Ytefjljdgdoklmaa
open Go.RowKit Go.Maps

theorem enters70 (caps : Array Value) (w : World) : (callFunc 70 caps).run Try.prog w = .ok (.enter 70 caps) w := by kernel_rfl
theorem enters50 (caps : Array Value) (w : World) : (callFunc 50 caps).run Try.prog w = .ok (.enter 50 caps) w := by kernel_rfl
def Disk.lose (d : Disk) (n : Int) : Disk := { d with lost := d.lost + n }
def Disk.lenAt (d : Disk) (s : ByteArray) : Int := match fileOf d.names s with
  | none => 0
  | some g => match d.files g with
    | none => 0
    | some x => (x.bytes.length : Int)

section
variable {A : Nat → Prop} {w w' : World} {f : Nat} {d : Disk} {bn bs : Nat} {ch ch' : Value} {fv : Nat → Value}
/-- A change was made, and so many bytes lost. -/
theorem RepAt.lost (h : RepAt A w f d bn bs ch fv) (c : Chg) (m : Int) {n : Nat} (hf : w'.heap[f]? = some (.cells (((d.lose m).change c).cells bn bs ch') 57 (0, 0))) (hd : Dir w' bn n (applyD d.names c)) (hc : Chs w' ch' (d.changes ++ [c])) (t : Turns (fun k => k = f ∨ k = bn ∨ inRow ch k) w w') (hr : ∀ k, inRow ch' k → inRow ch k ∨ w.heap.size ≤ k)
    (hx : ∀ g, c.file = some g → ∃ x, d.files g = some x) : RepAt (Grow A w) w' f ((d.lose m).change c) bn bs ch' fv := by
  have hp : RepAt A w f d bn bs ch fv := h
  have hfl : Files (Grow A w) w' fv d.files := by
    refine ⟨fun g x hg => ?_, h.files.apart⟩
    refine ((h.files.each g x hg).mono (A' := Grow A w) fun k _ hk => .inl hk).keep t (fun e => ?_) (fun k hk e => ?_)
    · rcases e with e | e | e
      · exact (hp.file hg).1 e
      · exact (hp.file hg).2.1 e
      · exact (hp.file hg).2.2.2.1 e
    · rcases e with e | e | e
      · exact (hp.row hg hk).1 e
      · exact (hp.row hg hk).2.1 e
      · exact (hp.row hg hk).2.2.2.1 e
  refine ⟨hf, hd.tight, ?_, hc, h.ne, .inl h.af, .inl h.an, .inl h.ay, fun k hk => (hr k hk).imp (h.ac k) id, hfl, ⟨h.refs.fn.apply c, h.refs.fs, fun s g hs => ?_, h.refs.synced, fun x hxm g hg => ?_⟩⟩
  · refine h.synced.keep t fun e => ?_
    rcases e with e | e | e
    · exact h.fs e.symm
    · exact h.ne e.symm
    · exact (h.chrow e).2.2.1 rfl
  · have hs' : fileOf (applyD d.names c) s = some g := hs
    rcases fileOf_applied h.names.isMap hs' with hs | hs
    · exact h.refs.names s g hs
    · exact hx g hs
  · have hxm' : x ∈ d.changes ++ [c] := hxm
    rcases List.mem_append.1 hxm' with hxm | hxm
    · exact h.refs.changes x hxm g hg
    · obtain rfl : x = c := by simpa using hxm
      exact hx g hg
end

set_option maxHeartbeats 1000000 in
theorem remove_rep (A : Nat → Prop) (f : Nat) (d : Disk) (name : ByteArray) (w : World) (h : Rep A w f d) (hn : Num d) (hnm : name.size ≤ maxLen) (R : Ending → World → Prop)
    (HE : ∀ z w', (d.guard (goodN name)).1 = some z → Rep (Grow A w) w' f (d.guard (goodN name)).2 → Turns A w w' → R (.returned (.int .i64 z)) w')
    (HN : (d.guard (goodN name)).1 = none → fileOf d.names name = none → ∀ w', Rep (Grow A w) w' f d.tick → Turns A w w' → R (.returned (.int .i64 6)) w')
    (HS : (d.guard (goodN name)).1 = none → ∀ g x w', fileOf d.names name = some g → d.files g = some x → Rep (Grow A w) w' f ((d.tick.lose x.bytes.length).change ⟨name, ⟨#[]⟩, none⟩) → Turns A w w' → R (.returned (.int .i64 0)) w') :
    Calls Try.prog 29 #[.pointer (some ⟨f, 0, none⟩), .string name] w R := by
  obtain ⟨bn, bs, ch, fv, h⟩ := h
  have hfw := lt_of_heap h.cells
  have hbw := h.names.lt
  refine remove_via _ name w _ fun w1 t1 x0 x1 hv => ?_
  have tA : ∀ {w'}, Turns (fun k => k = f) w1 w' → Turns A w w' := fun t => (t1.mono fun _ _ x => x.elim).trans (t.mono fun k _ e => by rw [e]; exact h.af)
  have tS : ∀ {w'}, Turns (fun k => k = f) w1 w' → Turns (fun k => k < w.heap.size) w1 w' := fun t => t.mono fun k _ e => by rw [e]; exact hfw
  refine onfile_rep A f 70 (w.heap.size + 2) _ (fun g w => enters70 _ w) d (goodN name) name w1 bn bs ch fv (h.quiet t1) hn hnm hv (by omega) _ (fun z w' hg hr ht => ?_) (fun hg hfile w' hr ht => ?_) (fun hg g x hfile hx wm hr ht => ?_)
  · exact ⟨z, rfl, HE z w' hg ⟨bn, bs, ch, fv, hr.mono fun k _ hk => .inl hk⟩ (tA ht), tS ht⟩
  · exact ⟨6, rfl, HN hg hfile w' ⟨bn, bs, ch, fv, hr.mono fun k _ hk => .inl hk⟩ (tA ht), tS ht⟩
  · have hF := hr.files.each g x hx
    obtain ⟨fa, fc, hfv⟩ := hF.own.slice
    have hc := hF.cell
    rw [hfv] at hc
    have hu := hn.used
    refine (remove1_any f bn (Maps.size d.names) w.heap.size (w.heap.size + 1) g x.bytes.length fa fc d.names d.changes name (x.synced : Nat) d.limit d.used d.lost (d.ops + 1) (tick d.fuse) (tick d.fault) d.fail d.on _ ch wm (ht.cell x0 (by show ¬ w.heap.size = f; omega)) (ht.cell x1 (by show ¬ w.heap.size + 1 = f; omega)) (by omega) (by omega) hr.cells hc hr.names hr.chs (by have := hn.names; unfold maxLen; omega) (by have := hn.changes; omega) hnm (by omega) (hn.bytes g x hx).1).mono ?_
    rintro e w2 ⟨rfl, ch', k1, k2, k3, k4, k5⟩
    have hR := hr.lost ⟨name, ⟨#[]⟩, none⟩ (x.bytes.length : Int) k1 k2 k3 k4 k5 (fun g hg => by cases hg)
    have hsz : w.heap.size ≤ wm.heap.size := Nat.le_trans t1.size ht.size
    refine ⟨0, rfl, 0, rfl, HS hg g x w2 hfile hx ⟨bn, bs, ch', _, hR.mono fun k _ => grow_of hsz k⟩ ((tA ht).trans (k4.mono fun k _ e => ?_)), (tS ht).trans (k4.mono fun k _ e => ?_)⟩
    · rcases e with e | e | e
      · rw [e]; exact h.af
      · rw [e]; exact h.an
      · exact h.ac k e
    · rcases e with e | e | e
      · rw [e]; exact hfw
      · rw [e]; exact hbw
      · exact (h.chrow e).2.2.2.2

set_option maxHeartbeats 1000000 in
theorem rename_rep (A : Nat → Prop) (f : Nat) (d : Disk) (s t : ByteArray) (w : World) (h : Rep A w f d) (hn : Num d) (hs : s.size ≤ maxLen) (ht' : t.size ≤ maxLen) (R : Ending → World → Prop)
    (HE : ∀ z w', (d.guard (goodN s && goodN t)).1 = some z → Rep (Grow A w) w' f (d.guard (goodN s && goodN t)).2 → Turns A w w' → R (.returned (.int .i64 z)) w')
    (HN : (d.guard (goodN s && goodN t)).1 = none → fileOf d.names s = none → ∀ w', Rep (Grow A w) w' f d.tick → Turns A w w' → R (.returned (.int .i64 6)) w')
    (HI : (d.guard (goodN s && goodN t)).1 = none → s = t → ∀ g x w', fileOf d.names s = some g → d.files g = some x → Rep (Grow A w) w' f d.tick → Turns A w w' → R (.returned (.int .i64 0)) w')
    (HS : (d.guard (goodN s && goodN t)).1 = none → s ≠ t → ∀ g x w', fileOf d.names s = some g → d.files g = some x → Rep (Grow A w) w' f ((d.tick.lose (d.lenAt t)).change ⟨s, t, some g⟩) → Turns A w w' → R (.returned (.int .i64 0)) w') :
    Calls Try.prog 15 #[.pointer (some ⟨f, 0, none⟩), .string s, .string t] w R := by
  obtain ⟨bn, bs, ch, fv, h⟩ := h
  have hfw := lt_of_heap h.cells
  have hbw := h.names.lt
  refine rename_via _ s t w _ fun w1 t1 x0 x1 x2 hv => ?_
  have tA : ∀ {w'}, Turns (fun k => k = f) w1 w' → Turns A w w' := fun t => (t1.mono fun _ _ x => x.elim).trans (t.mono fun k _ e => by rw [e]; exact h.af)
  have tS : ∀ {w'}, Turns (fun k => k = f) w1 w' → Turns (fun k => k < w.heap.size) w1 w' := fun t => t.mono fun k _ e => by rw [e]; exact hfw
  refine onfile_rep A f 50 (w.heap.size + 3) _ (fun g w => enters50 _ w) d (goodN s && goodN t) s w1 bn bs ch fv (h.quiet t1) hn hs hv (by omega) _ (fun z w' hg hr ht => ?_) (fun hg hfile w' hr ht => ?_) (fun hg g x hfile hx wm hr ht => ?_)
  · exact ⟨z, rfl, HE z w' hg ⟨bn, bs, ch, fv, hr.mono fun k _ hk => .inl hk⟩ (tA ht), tS ht⟩
  · exact ⟨6, rfl, HN hg hfile w' ⟨bn, bs, ch, fv, hr.mono fun k _ hk => .inl hk⟩ (tA ht), tS ht⟩
  · have y0 := ht.cell x0 (by show ¬ w.heap.size = f; omega)
    have y1 := ht.cell x1 (by show ¬ w.heap.size + 1 = f; omega)
    have y2 := ht.cell x2 (by show ¬ w.heap.size + 2 = f; omega)
    by_cases hst : s = t
    · subst hst
      refine (rename1_same w.heap.size (w.heap.size + 1) (w.heap.size + 2) _ s wm y1 y2).mono ?_
      rintro e w2 ⟨rfl, rfl⟩
      exact ⟨0, rfl, 0, rfl, HI hg rfl g x _ hfile hx ⟨bn, bs, ch, fv, hr.mono fun k _ hk => .inl hk⟩ (tA ht), tS ht⟩
    · have hu := hn.used
      obtain ⟨o, ho, hol⟩ : ∃ o : Option Nat, (match fileOf d.names t with | none => o = none | some q => ∃ a m c s0, o = some m ∧ wm.heap[q]? = some (.cells #[.slice a m c, .int .i64 s0] 70 (0, 0)) ∧ m ≤ 1073741824) ∧ lostOf o = d.lenAt t := by
        cases e : fileOf d.names t with
        | none => exact ⟨none, rfl, by unfold Disk.lenAt; rw [e]; rfl⟩
        | some q =>
          obtain ⟨y, hy⟩ := h.refs.names t q e
          have hF := hr.files.each q y hy
          obtain ⟨fa, fc, hfv⟩ := hF.own.slice
          have hc := hF.cell
          rw [hfv] at hc
          exact ⟨some y.bytes.length, ⟨fa, _, fc, _, rfl, hc, (hn.bytes q y hy).1⟩, by unfold Disk.lenAt; rw [e]; simp only [hy]; rfl⟩
      refine (rename1_any f bn (Maps.size d.names) w.heap.size (w.heap.size + 1) (w.heap.size + 2) g d.names d.changes s t d.limit d.used d.lost (d.ops + 1) (tick d.fuse) (tick d.fault) d.fail d.on _ ch o wm y0 y1 y2 (by omega) (by omega) (by omega) hst hr.cells ho hr.names hr.chs (by have := hn.names; unfold maxLen; omega) (by have := hn.changes; omega) hs ht' (by omega)).mono ?_
      rintro e w2 ⟨rfl, ch', k1, k2, k3, k4, k5⟩
      rw [hol] at k1
      have hR := hr.lost ⟨s, t, some g⟩ (d.lenAt t) k1 k2 k3 k4 k5 (fun q hq => by
        obtain rfl : g = q := by simpa using hq
        exact ⟨x, hx⟩)
      have hsz : w.heap.size ≤ wm.heap.size := Nat.le_trans t1.size ht.size
      refine ⟨0, rfl, 0, rfl, HS hg hst g x w2 hfile hx ⟨bn, bs, ch', _, hR.mono fun k _ => grow_of hsz k⟩ ((tA ht).trans (k4.mono fun k _ e => ?_)), (tS ht).trans (k4.mono fun k _ e => ?_)⟩
      · rcases e with e | e | e
        · rw [e]; exact h.af
        · rw [e]; exact h.an
        · exact h.ac k e
      · rcases e with e | e | e
        · rw [e]; exact hfw
        · rw [e]; exact hbw
        · exact (h.chrow e).2.2.2.2

def Disk.right (name : ByteArray) (at' n : Int) : Bool := goodN name && decide (0 ≤ at') && decide (0 ≤ n)

set_option maxHeartbeats 1000000 in
theorem read_rep (A : Nat → Prop) (f : Nat) (d : Disk) (name : ByteArray) (at' n : Int) (w : World) (h : Rep A w f d) (hn : Num d) (hnm : name.size ≤ maxLen) (b1 : at' ≤ 9223372036854775807) (b2 : n ≤ 9223372036854775807) (R : Ending → World → Prop)
    (HE : ∀ z w', (d.guard (Disk.right name at' n)).1 = some z → Rep (Grow A w) w' f (d.guard (Disk.right name at' n)).2 → Turns A w w' → R (.returned (.tuple #[.slice none 0 0, .int .i64 z])) w')
    (HN : (d.guard (Disk.right name at' n)).1 = none → fileOf d.names name = none → ∀ w', Rep (Grow A w) w' f d.tick → Turns A w w' → R (.returned (.tuple #[.slice none 0 0, .int .i64 6])) w')
    (HS : (d.guard (Disk.right name at' n)).1 = none → ∀ g x w' a m c, fileOf d.names name = some g → d.files g = some x → OwnB w' (.slice a m c) (readOf x.bytes at'.toNat n.toNat) → (∀ k, inRow (.slice a m c) k → w.heap.size ≤ k) → Rep A w' f d.tick → Turns A w w' → R (.returned (.tuple #[.slice a m c, .int .i64 0])) w') :
    Calls Try.prog 20 #[.pointer (some ⟨f, 0, none⟩), .string name, .int .i64 at', .int .i64 n] w R := by
  obtain ⟨bn, bs, ch, fv, h⟩ := h
  have hfw := lt_of_heap h.cells
  refine read_via_all _ name at' n w _ fun w1 t1 x0 x1 x2 hv => ?_
  have tA : ∀ {w'}, Turns (fun k => k = f) w1 w' → Turns A w w' := fun t => (t1.mono fun _ _ x => x.elim).trans (t.mono fun k _ e => by rw [e]; exact h.af)
  refine onfile_rep A f 52 (w.heap.size + 3) _ (fun g w => enters52 _ w) d (Disk.right name at' n) name w1 bn bs ch fv (h.quiet t1) hn hnm hv (by omega) _ (fun z w' hg hr ht => ?_) (fun hg hfile w' hr ht => ?_) (fun hg g x hfile hx wm hr ht => ?_)
  · refine ⟨z, _, rfl, cell_of_row w' _ 0 _ 28 (0, 0) (ht.heap x2 (by show ¬ w.heap.size + 2 = f; omega)), HE z w' hg ⟨bn, bs, ch, fv, hr.mono fun k _ hk => .inl hk⟩ (tA ht)⟩
  · refine ⟨6, _, rfl, cell_of_row w' _ 0 _ 28 (0, 0) (ht.heap x2 (by show ¬ w.heap.size + 2 = f; omega)), HN hg hfile w' ⟨bn, bs, ch, fv, hr.mono fun k _ hk => .inl hk⟩ (tA ht)⟩
  · have hright : Disk.right name at' n = true := by
      cases e : Disk.right name at' n with
      | true => rfl
      | false => rw [e] at hg; cases hg
    unfold Disk.right at hright
    rw [Bool.and_eq_true, Bool.and_eq_true, decide_eq_true_eq, decide_eq_true_eq] at hright
    obtain ⟨⟨_, p1⟩, p2⟩ := hright
    have hF := hr.files.each g x hx
    have y0 := ht.cell x0 (by show ¬ w.heap.size = f; omega)
    have y1 := ht.cell x1 (by show ¬ w.heap.size + 1 = f; omega)
    rw [show at' = ((at'.toNat : Nat) : Int) by omega] at y0
    rw [show n = ((n.toNat : Nat) : Int) by omega] at y1
    refine (read1_all g w.heap.size (w.heap.size + 1) (w.heap.size + 2) (fv g) (x.synced : Nat) x.bytes at'.toNat n.toNat wm y0 y1 (ht.heap x2 (by show ¬ w.heap.size + 2 = f; omega)) hF.cell hF.own (hn.bytes g x hx).1 (by omega) (by omega)).mono ?_
    rintro e w2 ⟨rfl, a, m, c, k1, k2, k3, k4⟩
    have hsz : w.heap.size ≤ wm.heap.size := Nat.le_trans t1.size ht.size
    have hall : ∀ k, A k → k < w.heap.size → ¬ k = w.heap.size + 2 := fun k _ hk => by omega
    -- what was read lies apart from the file system
    have hR : RepAt (fun k => A k ∧ k < w.heap.size) wm f d.tick bn bs ch fv := by
      have hr0 := (h.mono (A' := fun k => A k ∧ k < w.heap.size) fun k hk hA => ⟨hA, hk⟩).quiet t1
      refine ⟨hr.cells, hr.names, hr.synced, hr.chs, hr.ne, hr0.af, hr0.an, hr0.ay, hr0.ac, ⟨fun q y hq => ?_, hr.files.apart⟩, hr.refs⟩
      have hq' := hr0.files.each q y hq
      exact ⟨(hr.files.each q y hq).cell, (hr.files.each q y hq).own, hq'.ag, hq'.ar⟩
    have hR2 := (hR.keep k4 fun k _ hk e => hall k hk.1 hk.2 e).mono (A' := A) fun k _ hk => hk.1
    exact ⟨0, rfl, 0, _, rfl, k1, HS hg g x w2 a m c hfile hx k2 (fun k hk => Nat.le_trans hsz (k3 k hk)) ⟨bn, bs, ch, fv, hR2⟩ ((tA ht).andThen k4 fun k hk e => by omega)⟩
end Go.Proofs.Ytefjljdgdoklmaa

/-
  The library's contracts on the sorted keys of a directory, laid at this program's numbers; each is one application.
-/
namespace Go.Proofs
open Go.RowKit Go.Maps Go.Sort Go.Shelf
def Try.keys76_ren : Go.Shelf.Ren := ⟨fun | 7 => 76 | 10 => 85 | n => n, fun | 23 => 53 | 26 => 9 | 3 => 67 | 28 => 89 | 0 => 0 | 27 => 88 | 33 => 40 | 4 => 4 | n => n, fun | n => n⟩
theorem Try.keys76 : Go.Proofs.SlLaysZ.n7 Try.prog Try.keys76_ren := {
  mixed := by kernel_rfl
  f7 := ⟨Try.f76.name, by decide, Try.func76.trans (congrArg some (by kernel_rfl))⟩
  f10 := ⟨Try.f85.name, by decide, Try.func85.trans (congrArg some (by kernel_rfl))⟩
  t0 := Try.underlying0
  a0 := Try.isAgg0
  z0 := Try.sizeOf0
  v0 := Try.zeroValue0
  t4 := Try.underlying4
  a4 := Try.isAgg4
  z4 := Try.sizeOf4
  v4 := Try.zeroValue4
  t23 := Try.underlying53
  a23 := Try.isAgg53
  z23 := Try.sizeOf53
  v23 := Try.zeroValue53
  t26 := Try.underlying9
  a26 := Try.isAgg9
  z26 := Try.sizeOf9
  v26 := Try.zeroValue9
  t27 := Try.underlying88
  a27 := Try.isAgg88
  z27 := Try.sizeOf88
  v27 := Try.zeroValue88
  t28 := Try.underlying89
  a28 := Try.isAgg89
  z28 := Try.sizeOf89
  v28 := Try.zeroValue89
  t33 := Try.underlying40
  a33 := Try.isAgg40
  z33 := Try.sizeOf40
  v33 := Try.zeroValue40 }
def Try.sorted75_ren : Go.Shelf.Ren := ⟨fun | 6 => 75 | 8 => 83 | 9 => 84 | 11 => 86 | 13 => 88 | 12 => 87 | 23 => 98 | 24 => 99 | 14 => 89 | 15 => 90 | 16 => 91 | 17 => 92 | 18 => 93 | 19 => 94 | 20 => 95 | 21 => 96 | 22 => 97 | 25 => 100 | 26 => 101 | 27 => 102 | 28 => 103 | 29 => 104 | 30 => 105 | 31 => 106 | n => n, fun | 26 => 9 | 28 => 89 | 24 => 30 | 0 => 0 | 3 => 3 | 37 => 106 | 48 => 117 | 50 => 119 | 4 => 4 | 40 => 109 | 39 => 108 | 45 => 114 | 5 => 5 | 9 => 9 | 51 => 120 | 55 => 124 | 57 => 126 | 58 => 127 | 33 => 40 | n => n, fun | n => n⟩
theorem Try.sorted75 : Go.Proofs.SlLaysZ.n6 Try.prog Try.sorted75_ren := {
  mixed := by kernel_rfl
  f6 := ⟨Try.f75.name, by decide, Try.func75.trans (congrArg some (by kernel_rfl))⟩
  f8 := ⟨Try.f83.name, by decide, Try.func83.trans (congrArg some (by kernel_rfl))⟩
  f11 := ⟨Try.f86.name, by decide, Try.func86.trans (congrArg some (by kernel_rfl))⟩
  t0 := Try.underlying0
  a0 := Try.isAgg0
  z0 := Try.sizeOf0
  v0 := Try.zeroValue0
  t24 := Try.underlying30
  a24 := Try.isAgg30
  z24 := Try.sizeOf30
  v24 := Try.zeroValue30
  t26 := Try.underlying9
  a26 := Try.isAgg9
  z26 := Try.sizeOf9
  v26 := Try.zeroValue9
  t28 := Try.underlying89
  a28 := Try.isAgg89
  z28 := Try.sizeOf89
  v28 := Try.zeroValue89
  i26 := by kernel_rfl }
def Try.sort84_ren : Go.Shelf.Ren := ⟨fun | 6 => 84 | 8 => 88 | 9 => 87 | 19 => 98 | 20 => 99 | 21 => 89 | 22 => 90 | 23 => 91 | 24 => 92 | 25 => 93 | 26 => 94 | 27 => 95 | 28 => 96 | 29 => 97 | 36 => 100 | 31 => 101 | 32 => 102 | 37 => 103 | 38 => 104 | 39 => 105 | 41 => 106 | n => n, fun | 27 => 30 | 29 => 9 | 3 => 3 | 32 => 106 | 26 => 30 | 0 => 0 | 44 => 117 | 46 => 119 | 4 => 4 | 36 => 109 | 35 => 108 | 41 => 114 | 5 => 5 | 9 => 9 | 53 => 120 | 57 => 124 | 63 => 126 | 64 => 127 | n => n, fun | n => n⟩
theorem Try.sort84 : Go.Proofs.SlLaysM.n6 Try.prog Try.sort84_ren := {
  mixed := by kernel_rfl
  f6 := ⟨Try.f84.name, by decide, Try.func84.trans (congrArg some (by kernel_rfl))⟩
  f8 := Try.func88.trans (congrArg some (by kernel_rfl))
  f9 := ⟨Try.f87.name, by decide, Try.func87.trans (congrArg some (by kernel_rfl))⟩
  f19 := Try.func98.trans (congrArg some (by kernel_rfl))
  f20 := Try.func99.trans (congrArg some (by kernel_rfl))
  f21 := ⟨Try.f89.name, by decide, Try.func89.trans (congrArg some (by kernel_rfl))⟩
  f22 := ⟨Try.f90.name, by decide, Try.func90.trans (congrArg some (by kernel_rfl))⟩
  f23 := ⟨Try.f91.name, by decide, Try.func91.trans (congrArg some (by kernel_rfl))⟩
  f24 := ⟨Try.f92.name, by decide, Try.func92.trans (congrArg some (by kernel_rfl))⟩
  f25 := ⟨Try.f93.name, by decide, Try.func93.trans (congrArg some (by kernel_rfl))⟩
  f26 := ⟨Try.f94.name, by decide, Try.func94.trans (congrArg some (by kernel_rfl))⟩
  f27 := ⟨Try.f95.name, by decide, Try.func95.trans (congrArg some (by kernel_rfl))⟩
  f28 := ⟨Try.f96.name, by decide, Try.func96.trans (congrArg some (by kernel_rfl))⟩
  f29 := ⟨Try.f97.name, by decide, Try.func97.trans (congrArg some (by kernel_rfl))⟩
  f31 := Try.func101.trans (congrArg some (by kernel_rfl))
  f32 := Try.func102.trans (congrArg some (by kernel_rfl))
  f36 := ⟨Try.f100.name, by decide, Try.func100.trans (congrArg some (by kernel_rfl))⟩
  f37 := ⟨Try.f103.name, by decide, Try.func103.trans (congrArg some (by kernel_rfl))⟩
  f38 := ⟨Try.f104.name, by decide, Try.func104.trans (congrArg some (by kernel_rfl))⟩
  f39 := ⟨Try.f105.name, by decide, Try.func105.trans (congrArg some (by kernel_rfl))⟩
  f41 := ⟨Try.f106.name, by decide, Try.func106.trans (congrArg some (by kernel_rfl))⟩
  t0 := Try.underlying0
  a0 := Try.isAgg0
  z0 := Try.sizeOf0
  v0 := Try.zeroValue0
  t3 := Try.underlying3
  a3 := Try.isAgg3
  z3 := Try.sizeOf3
  v3 := Try.zeroValue3
  t4 := Try.underlying4
  a4 := Try.isAgg4
  z4 := Try.sizeOf4
  v4 := Try.zeroValue4
  t5 := Try.underlying5
  a5 := Try.isAgg5
  z5 := Try.sizeOf5
  v5 := Try.zeroValue5
  t9 := Try.underlying9
  a9 := Try.isAgg9
  z9 := Try.sizeOf9
  v9 := Try.zeroValue9
  t26 := Try.underlying30
  a26 := Try.isAgg30
  z26 := Try.sizeOf30
  v26 := Try.zeroValue30
  t27 := Try.underlying30
  a27 := Try.isAgg30
  z27 := Try.sizeOf30
  v27 := Try.zeroValue30
  t29 := Try.underlying9
  a29 := Try.isAgg9
  z29 := Try.sizeOf9
  v29 := Try.zeroValue9
  t32 := Try.underlying106
  a32 := Try.isAgg106
  z32 := Try.sizeOf106
  v32 := Try.zeroValue106
  t35 := Try.underlying108
  a35 := Try.isAgg108
  z35 := Try.sizeOf108
  v35 := Try.zeroValue108
  t36 := Try.underlying109
  a36 := Try.isAgg109
  z36 := Try.sizeOf109
  v36 := Try.zeroValue109
  t41 := Try.underlying114
  a41 := Try.isAgg114
  z41 := Try.sizeOf114
  v41 := Try.zeroValue114
  t44 := Try.underlying117
  a44 := Try.isAgg117
  z44 := Try.sizeOf117
  v44 := Try.zeroValue117
  t46 := Try.underlying119
  a46 := Try.isAgg119
  z46 := Try.sizeOf119
  v46 := Try.zeroValue119
  t53 := Try.underlying120
  a53 := Try.isAgg120
  z53 := Try.sizeOf120
  v53 := Try.zeroValue120
  t57 := Try.underlying124
  a57 := Try.isAgg124
  z57 := Try.sizeOf124
  v57 := Try.zeroValue124
  t63 := Try.underlying126
  a63 := Try.isAgg126
  z63 := Try.sizeOf126
  v63 := Try.zeroValue126
  t64 := Try.underlying127
  a64 := Try.isAgg127
  z64 := Try.sizeOf127
  v64 := Try.zeroValue127 }
theorem Try.sorts75 (m : Nat) : AnyZ.SortsIn Try.prog Try.sorted75_ren Fence.wide m :=
  ⟨fun blk off cap ss W hH hblk hsz => callsIn_wide.2 (AnyM.slices_Sort_string Try.sort84 blk off cap ss W hH hblk hsz),
   fun p cap W => callsIn_wide.2 (AnyM.slices_Sort_string_none Try.sort84 p cap W)⟩

theorem Try.maps_Keys_76 (mb : Option Nat) (W : World) : CallsIn Fence.wide 5 Try.prog 76 #[.map mb] W fun e w' => e = .returned (.func (.func 85) #[] #[.pointer (some ⟨W.heap.size, 0, none⟩)]) ∧ w' = W.alloc (.cells #[.map mb] 53) :=
  AnyZ.keys_in Try.keys76 Fence.wide 5 trivial rfl mb W

set_option maxHeartbeats 1000000 in
theorem Try.slices_Sorted_keys_75_76 {H : Type} (b nn : Nat) (D0 : DataW H) (R : Value → Option (DataW H × List MemPlace)) (w : World) (hown : w.ownsMap Try.prog 9 R b nn D0) (hmax : Maps.size D0 ≤ maxLen) (hbytes : Maps.size D0 * 16 ≤ 140737488355328) :
    CallsIn Fence.wide 5 Try.prog 75 #[.func (.func 85) #[] #[.pointer (some ⟨w.heap.size, 0, none⟩)]] (w.alloc (.cells #[.map (some b)] 53)) fun e w' => ∃ (v : Value) (ss : List (List UInt8)), e = .returned v ∧ ss.Perm (strKeys D0) ∧
      w'.ownsRow (w.alloc (.cells #[.map (some b)] 53)).heap.size 9 1 v ss.length ((ss.mergeSort (fun x y => decide (x ≤ y))).map encStr) ∧ (v = .slice none 0 0 ↔ ss = []) ∧ Below (w.alloc (.cells #[.map (some b)] 53)).heap.size (w.alloc (.cells #[.map (some b)] 53)) w' := by
  have hbl := hown.lt
  have hseq : SeqGives Fence.wide 2 Try.prog 85 #[.pointer (some ⟨w.heap.size, 0, none⟩)] encStr (fun ss => ss.Perm (strKeys D0)) (Maps.size D0) (w.alloc (.cells #[.map (some b)] 53)) :=
    AnyZ.keys_gives (ρ := Try.keys76_ren) { Try.keys76 with } Fence.wide _ trivial rfl (by omega) w.heap.size b nn D0 _ (by simp) (by simp) (by
      obtain ⟨es, clock, hb, Ft, hs, hD⟩ := hown
      exact ⟨es, clock, (Below.heap_alloc _ _ b hbl).trans hb, Ft, hs, hD⟩)
  exact AnyZ.sorted_in Try.sorted75 Fence.wide 5 trivial trivial trivial trivial rfl (by omega) (Try.sorts75 _) (enters_of Try.func84 (by kernel_rfl) rfl) 85 #[.pointer (some ⟨w.heap.size, 0, none⟩)] trivial (enters_of Try.func85 (by kernel_rfl) rfl) _ _ hmax hbytes _ hseq

end Go.Proofs

/-
  The names of a directory, rising.
-/
namespace Go.Proofs.Ytefjljdgdoklmaa
open Go.RowKit Go.Maps Go.Sort

set_option maxRecDepth 100000 in
set_option maxHeartbeats 1000000 in
theorem rising_any (b n : Nat) (D : DataW Unit) (w : World) (hd : Dir w b n D) (hn : n ≤ 1000000000) :
    Calls Try.prog 45 #[.map (some b)] w fun e w' => ∃ (v : Value) (ss : List (List UInt8)), e = .returned v ∧ ss.Perm (strKeys D) ∧
      w'.ownsRow (w.heap.size + 1) 9 1 v ss.length ((ss.mergeSort (fun x y => decide (x ≤ y))).map encStr) ∧ (v = .slice none 0 0 ↔ ss = []) ∧ Below w.heap.size w w' := by
  have hsz := World.ownsMap.size_le hd
  have hsorted := callsIn_wide.1 (Try.slices_Sorted_keys_75_76 b n D ptrR w hd (by unfold maxLen; omega) (by omega))
  have HS := hide hsorted
  have hb1 : Below w.heap.size w (w.alloc (.cells #[.map (some b)] 53)) := (Below.refl _ _).alloc (Nat.le_refl _) _
  have e1 : (w.alloc (.cells #[.map (some b)] 53)).heap.size = w.heap.size + 1 := by simp
  clear hsorted hd hsz
  go_enter Try.func45, Try.ntmps45
  go_wp2_with fail
  refine (callsIn_wide.1 (Try.maps_Keys_76 (some b) w)).mono ?_
  rintro e w1 ⟨rfl, rfl⟩
  go_wp2_with fail
  refine HS.out.mono ?_
  rintro e w2 ⟨v, ss, rfl, h1, h2, h3, h4⟩
  rw [e1] at h2
  have H2 := hide h2
  have H1 := hide h1
  have H3 := hide h3
  have H4 := hide (then_below hb1 h4 (Nat.le_refl _))
  clear h1 h2 h3 h4 hb1 e1
  go_wp2_with fail
  go_ret
  exact ⟨v, ss, rfl, H1.out, H2.out, H3.out, H4.out⟩
end Go.Proofs.Ytefjljdgdoklmaa
