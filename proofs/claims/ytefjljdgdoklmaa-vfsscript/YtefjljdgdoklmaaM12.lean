import Derived.Test.YtefjljdgdoklmaaM09
import Derived.Test.YtefjljdgdoklmaaM08
/-
  Remove, Rename and Read of any file system.
-/
namespace Go.Proofs.Ytefjljdgdoklmaa
open Go.RowKit Go.Maps

theorem enters70 (caps : Array Value) (w : World) : (callFunc 70 caps).run Try.prog w = .ok (.enter 70 caps) w := by kernel_rfl
theorem enters50 (caps : Array Value) (w : World) : (callFunc 50 caps).run Try.prog w = .ok (.enter 50 caps) w := by kernel_rfl
def Disk.lose (d : Disk) (n : Int) : Disk := { d with lost := d.lost + n }
def Disk.lenAt (d : Disk) (s : ByteArray) : Int := match fileOf d.names s with
  | none => 0
  | some g => match d.files g with
    | none => 0
    | some x => (x.bytes.length : Int)

section
variable {A : Nat → Prop} {w w' : World} {f : Nat} {d : Disk} {bn bs : Nat} {ch ch' : Value} {fv : Nat → Value}
/-- A change was made, and so many bytes lost. -/
theorem RepAt.lost (h : RepAt A w f d bn bs ch fv) (c : Chg) (m : Int) {n : Nat} (hf : w'.heap[f]? = some (.cells (((d.lose m).change c).cells bn bs ch') 57 (0, 0))) (hd : Dir w' bn n (applyD d.names c)) (hc : Chs w' ch' (d.changes ++ [c])) (t : Turns (fun k => k = f ∨ k = bn ∨ inRow ch k) w w') (hr : ∀ k, inRow ch' k → inRow ch k ∨ w.heap.size ≤ k)
    (hx : ∀ g, c.file = some g → ∃ x, d.files g = some x) : RepAt (Grow A w) w' f ((d.lose m).change c) bn bs ch' fv := by
  have hp : RepAt A w f d bn bs ch fv := h
  have hfl : Files (Grow A w) w' fv d.files := by
    refine ⟨fun g x hg => ?_, h.files.apart⟩
    refine ((h.files.each g x hg).mono (A' := Grow A w) fun k _ hk => .inl hk).keep t (fun e => ?_) (fun k hk e => ?_)
    · rcases e with e | e | e
      · exact (hp.file hg).1 e
      · exact (hp.file hg).2.1 e
      · exact (hp.file hg).2.2.2.1 e
    · rcases e with e | e | e
      · exact (hp.row hg hk).1 e
      · exact (hp.row hg hk).2.1 e
      · exact (hp.row hg hk).2.2.2.1 e
  refine ⟨hf, hd.tight, ?_, hc, h.ne, .inl h.af, .inl h.an, .inl h.ay, fun k hk => (hr k hk).imp (h.ac k) id, hfl, ⟨h.refs.fn.apply c, h.refs.fs, fun s g hs => ?_, h.refs.synced, fun x hxm g hg => ?_⟩⟩
  · refine h.synced.keep t fun e => ?_
    rcases e with e | e | e
    · exact h.fs e.symm
    · exact h.ne e.symm
    · exact (h.chrow e).2.2.1 rfl
  · have hs' : fileOf (applyD d.names c) s = some g := hs
    rcases fileOf_applied h.names.isMap hs' with hs | hs
    · exact h.refs.names s g hs
    · exact hx g hs
  · have hxm' : x ∈ d.changes ++ [c] := hxm
    rcases List.mem_append.1 hxm' with hxm | hxm
    · exact h.refs.changes x hxm g hg
    · obtain rfl : x = c := by simpa using hxm
      exact hx g hg
end

set_option maxHeartbeats 1000000 in
theorem remove_rep (A : Nat → Prop) (f : Nat) (d : Disk) (name : ByteArray) (w : World) (h : Rep A w f d) (hn : Num d) (hnm : name.size ≤ maxLen) (R : Ending → World → Prop)
    (HE : ∀ z w', (d.guard (goodN name)).1 = some z → Rep (Grow A w) w' f (d.guard (goodN name)).2 → Turns A w w' → R (.returned (.int .i64 z)) w')
    (HN : (d.guard (goodN name)).1 = none → fileOf d.names name = none → ∀ w', Rep (Grow A w) w' f d.tick → Turns A w w' → R (.returned (.int .i64 6)) w')
    (HS : (d.guard (goodN name)).1 = none → ∀ g x w', fileOf d.names name = some g → d.files g = some x → Rep (Grow A w) w' f ((d.tick.lose x.bytes.length).change ⟨name, ⟨#[]⟩, none⟩) → Turns A w w' → R (.returned (.int .i64 0)) w') :
    Calls Try.prog 29 #[.pointer (some ⟨f, 0, none⟩), .string name] w R := by
  obtain ⟨bn, bs, ch, fv, h⟩ := h
  have hfw := lt_of_heap h.cells
  have hbw := h.names.lt
  refine remove_via _ name w _ fun w1 t1 x0 x1 hv => ?_
  have tA : ∀ {w'}, Turns (fun k => k = f) w1 w' → Turns A w w' := fun t => (t1.mono fun _ _ x => x.elim).trans (t.mono fun k _ e => by rw [e]; exact h.af)
  have tS : ∀ {w'}, Turns (fun k => k = f) w1 w' → Turns (fun k => k < w.heap.size) w1 w' := fun t => t.mono fun k _ e => by rw [e]; exact hfw
  refine onfile_rep A f 70 (w.heap.size + 2) _ (fun g w => enters70 _ w) d (goodN name) name w1 bn bs ch fv (h.quiet t1) hn hnm hv (by omega) _ (fun z w' hg hr ht => ?_) (fun hg hfile w' hr ht => ?_) (fun hg g x hfile hx wm hr ht => ?_)
  · exact ⟨z, rfl, HE z w' hg ⟨bn, bs, ch, fv, hr.mono fun k _ hk => .inl hk⟩ (tA ht), tS ht⟩
  · exact ⟨6, rfl, HN hg hfile w' ⟨bn, bs, ch, fv, hr.mono fun k _ hk => .inl hk⟩ (tA ht), tS ht⟩
  · have hF := hr.files.each g x hx
    obtain ⟨fa, fc, hfv⟩ := hF.own.slice
    have hc := hF.cell
    rw [hfv] at hc
    have hu := hn.used
    refine (remove1_any f bn (Maps.size d.names) w.heap.size (w.heap.size + 1) g x.bytes.length fa fc d.names d.changes name (x.synced : Nat) d.limit d.used d.lost (d.ops + 1) (tick d.fuse) (tick d.fault) d.fail d.on _ ch wm (ht.cell x0 (by show ¬ w.heap.size = f; omega)) (ht.cell x1 (by show ¬ w.heap.size + 1 = f; omega)) (by omega) (by omega) hr.cells hc hr.names hr.chs (by have := hn.names; unfold maxLen; omega) (by have := hn.changes; omega) hnm (by omega) (hn.bytes g x hx).1).mono ?_
    rintro e w2 ⟨rfl, ch', k1, k2, k3, k4, k5⟩
    have hR := hr.lost ⟨name, ⟨#[]⟩, none⟩ (x.bytes.length : Int) k1 k2 k3 k4 k5 (fun g hg => by cases hg)
    have hsz : w.heap.size ≤ wm.heap.size := Nat.le_trans t1.size ht.size
    refine ⟨0, rfl, 0, rfl, HS hg g x w2 hfile hx ⟨bn, bs, ch', _, hR.mono fun k _ => grow_of hsz k⟩ ((tA ht).trans (k4.mono fun k _ e => ?_)), (tS ht).trans (k4.mono fun k _ e => ?_)⟩
    · rcases e with e | e | e
      · rw [e]; exact h.af
      · rw [e]; exact h.an
      · exact h.ac k e
    · rcases e with e | e | e
      · rw [e]; exact hfw
      · rw [e]; exact hbw
      · exact (h.chrow e).2.2.2.2

set_option maxHeartbeats 1000000 in
theorem rename_rep (A : Nat → Prop) (f : Nat) (d : Disk) (s t : ByteArray) (w : World) (h : Rep A w f d) (hn : Num d) (hs : s.size ≤ maxLen) (ht' : t.size ≤ maxLen) (R : Ending → World → Prop)
    (HE : ∀ z w', (d.guard (goodN s && goodN t)).1 = some z → Rep (Grow A w) w' f (d.guard (goodN s && goodN t)).2 → Turns A w w' → R (.returned (.int .i64 z)) w')
    (HN : (d.guard (goodN s && goodN t)).1 = none → fileOf d.names s = none → ∀ w', Rep (Grow A w) w' f d.tick → Turns A w w' → R (.returned (.int .i64 6)) w')
    (HI : (d.guard (goodN s && goodN t)).1 = none → s = t → ∀ g x w', fileOf d.names s = some g → d.files g = some x → Rep (Grow A w) w' f d.tick → Turns A w w' → R (.returned (.int .i64 0)) w')
    (HS : (d.guard (goodN s && goodN t)).1 = none → s ≠ t → ∀ g x w', fileOf d.names s = some g → d.files g = some x → Rep (Grow A w) w' f ((d.tick.lose (d.lenAt t)).change ⟨s, t, some g⟩) → Turns A w w' → R (.returned (.int .i64 0)) w') :
    Calls Try.prog 15 #[.pointer (some ⟨f, 0, none⟩), .string s, .string t] w R := by
  obtain ⟨bn, bs, ch, fv, h⟩ := h
  have hfw := lt_of_heap h.cells
  have hbw := h.names.lt
  refine rename_via _ s t w _ fun w1 t1 x0 x1 x2 hv => ?_
  have tA : ∀ {w'}, Turns (fun k => k = f) w1 w' → Turns A w w' := fun t => (t1.mono fun _ _ x => x.elim).trans (t.mono fun k _ e => by rw [e]; exact h.af)
  have tS : ∀ {w'}, Turns (fun k => k = f) w1 w' → Turns (fun k => k < w.heap.size) w1 w' := fun t => t.mono fun k _ e => by rw [e]; exact hfw
  refine onfile_rep A f 50 (w.heap.size + 3) _ (fun g w => enters50 _ w) d (goodN s && goodN t) s w1 bn bs ch fv (h.quiet t1) hn hs hv (by omega) _ (fun z w' hg hr ht => ?_) (fun hg hfile w' hr ht => ?_) (fun hg g x hfile hx wm hr ht => ?_)
  · exact ⟨z, rfl, HE z w' hg ⟨bn, bs, ch, fv, hr.mono fun k _ hk => .inl hk⟩ (tA ht), tS ht⟩
  · exact ⟨6, rfl, HN hg hfile w' ⟨bn, bs, ch, fv, hr.mono fun k _ hk => .inl hk⟩ (tA ht), tS ht⟩
  · have y0 := ht.cell x0 (by show ¬ w.heap.size = f; omega)
    have y1 := ht.cell x1 (by show ¬ w.heap.size + 1 = f; omega)
    have y2 := ht.cell x2 (by show ¬ w.heap.size + 2 = f; omega)
    by_cases hst : s = t
    · subst hst
      refine (rename1_same w.heap.size (w.heap.size + 1) (w.heap.size + 2) _ s wm y1 y2).mono ?_
      rintro e w2 ⟨rfl, rfl⟩
      exact ⟨0, rfl, 0, rfl, HI hg rfl g x _ hfile hx ⟨bn, bs, ch, fv, hr.mono fun k _ hk => .inl hk⟩ (tA ht), tS ht⟩
    · have hu := hn.used
      obtain ⟨o, ho, hol⟩ : ∃ o : Option Nat, (match fileOf d.names t with | none => o = none | some q => ∃ a m c s0, o = some m ∧ wm.heap[q]? = some (.cells #[.slice a m c, .int .i64 s0] 70 (0, 0)) ∧ m ≤ 1073741824) ∧ lostOf o = d.lenAt t := by
        cases e : fileOf d.names t with
        | none => exact ⟨none, rfl, by unfold Disk.lenAt; rw [e]; rfl⟩
        | some q =>
          obtain ⟨y, hy⟩ := h.refs.names t q e
          have hF := hr.files.each q y hy
          obtain ⟨fa, fc, hfv⟩ := hF.own.slice
          have hc := hF.cell
          rw [hfv] at hc
          exact ⟨some y.bytes.length, ⟨fa, _, fc, _, rfl, hc, (hn.bytes q y hy).1⟩, by unfold Disk.lenAt; rw [e]; simp only [hy]; rfl⟩
      refine (rename1_any f bn (Maps.size d.names) w.heap.size (w.heap.size + 1) (w.heap.size + 2) g d.names d.changes s t d.limit d.used d.lost (d.ops + 1) (tick d.fuse) (tick d.fault) d.fail d.on _ ch o wm y0 y1 y2 (by omega) (by omega) (by omega) hst hr.cells ho hr.names hr.chs (by have := hn.names; unfold maxLen; omega) (by have := hn.changes; omega) hs ht' (by omega)).mono ?_
      rintro e w2 ⟨rfl, ch', k1, k2, k3, k4, k5⟩
      rw [hol] at k1
      have hR := hr.lost ⟨s, t, some g⟩ (d.lenAt t) k1 k2 k3 k4 k5 (fun q hq => by
        obtain rfl : g = q := by simpa using hq
        exact ⟨x, hx⟩)
      have hsz : w.heap.size ≤ wm.heap.size := Nat.le_trans t1.size ht.size
      refine ⟨0, rfl, 0, rfl, HS hg hst g x w2 hfile hx ⟨bn, bs, ch', _, hR.mono fun k _ => grow_of hsz k⟩ ((tA ht).trans (k4.mono fun k _ e => ?_)), (tS ht).trans (k4.mono fun k _ e => ?_)⟩
      · rcases e with e | e | e
        · rw [e]; exact h.af
        · rw [e]; exact h.an
        · exact h.ac k e
      · rcases e with e | e | e
        · rw [e]; exact hfw
        · rw [e]; exact hbw
        · exact (h.chrow e).2.2.2.2

def Disk.right (name : ByteArray) (at' n : Int) : Bool := goodN name && decide (0 ≤ at') && decide (0 ≤ n)

set_option maxHeartbeats 1000000 in
theorem read_rep (A : Nat → Prop) (f : Nat) (d : Disk) (name : ByteArray) (at' n : Int) (w : World) (h : Rep A w f d) (hn : Num d) (hnm : name.size ≤ maxLen) (b1 : at' ≤ 9223372036854775807) (b2 : n ≤ 9223372036854775807) (R : Ending → World → Prop)
    (HE : ∀ z w', (d.guard (Disk.right name at' n)).1 = some z → Rep (Grow A w) w' f (d.guard (Disk.right name at' n)).2 → Turns A w w' → R (.returned (.tuple #[.slice none 0 0, .int .i64 z])) w')
    (HN : (d.guard (Disk.right name at' n)).1 = none → fileOf d.names name = none → ∀ w', Rep (Grow A w) w' f d.tick → Turns A w w' → R (.returned (.tuple #[.slice none 0 0, .int .i64 6])) w')
    (HS : (d.guard (Disk.right name at' n)).1 = none → ∀ g x w' a m c, fileOf d.names name = some g → d.files g = some x → OwnB w' (.slice a m c) (readOf x.bytes at'.toNat n.toNat) → (∀ k, inRow (.slice a m c) k → w.heap.size ≤ k) → Rep A w' f d.tick → Turns A w w' → R (.returned (.tuple #[.slice a m c, .int .i64 0])) w') :
    Calls Try.prog 20 #[.pointer (some ⟨f, 0, none⟩), .string name, .int .i64 at', .int .i64 n] w R := by
  obtain ⟨bn, bs, ch, fv, h⟩ := h
  have hfw := lt_of_heap h.cells
  refine read_via_all _ name at' n w _ fun w1 t1 x0 x1 x2 hv => ?_
  have tA : ∀ {w'}, Turns (fun k => k = f) w1 w' → Turns A w w' := fun t => (t1.mono fun _ _ x => x.elim).trans (t.mono fun k _ e => by rw [e]; exact h.af)
  refine onfile_rep A f 52 (w.heap.size + 3) _ (fun g w => enters52 _ w) d (Disk.right name at' n) name w1 bn bs ch fv (h.quiet t1) hn hnm hv (by omega) _ (fun z w' hg hr ht => ?_) (fun hg hfile w' hr ht => ?_) (fun hg g x hfile hx wm hr ht => ?_)
  · refine ⟨z, _, rfl, cell_of_row w' _ 0 _ 28 (0, 0) (ht.heap x2 (by show ¬ w.heap.size + 2 = f; omega)), HE z w' hg ⟨bn, bs, ch, fv, hr.mono fun k _ hk => .inl hk⟩ (tA ht)⟩
  · refine ⟨6, _, rfl, cell_of_row w' _ 0 _ 28 (0, 0) (ht.heap x2 (by show ¬ w.heap.size + 2 = f; omega)), HN hg hfile w' ⟨bn, bs, ch, fv, hr.mono fun k _ hk => .inl hk⟩ (tA ht)⟩
  · have hright : Disk.right name at' n = true := by
      cases e : Disk.right name at' n with
      | true => rfl
      | false => rw [e] at hg; cases hg
    unfold Disk.right at hright
    rw [Bool.and_eq_true, Bool.and_eq_true, decide_eq_true_eq, decide_eq_true_eq] at hright
    obtain ⟨⟨_, p1⟩, p2⟩ := hright
    have hF := hr.files.each g x hx
    have y0 := ht.cell x0 (by show ¬ w.heap.size = f; omega)
    have y1 := ht.cell x1 (by show ¬ w.heap.size + 1 = f; omega)
    rw [show at' = ((at'.toNat : Nat) : Int) by omega] at y0
    rw [show n = ((n.toNat : Nat) : Int) by omega] at y1
    refine (read1_all g w.heap.size (w.heap.size + 1) (w.heap.size + 2) (fv g) (x.synced : Nat) x.bytes at'.toNat n.toNat wm y0 y1 (ht.heap x2 (by show ¬ w.heap.size + 2 = f; omega)) hF.cell hF.own (hn.bytes g x hx).1 (by omega) (by omega)).mono ?_
    rintro e w2 ⟨rfl, a, m, c, k1, k2, k3, k4⟩
    have hsz : w.heap.size ≤ wm.heap.size := Nat.le_trans t1.size ht.size
    have hall : ∀ k, A k → k < w.heap.size → ¬ k = w.heap.size + 2 := fun k _ hk => by omega
    -- what was read lies apart from the file system
    have hR : RepAt (fun k => A k ∧ k < w.heap.size) wm f d.tick bn bs ch fv := by
      have hr0 := (h.mono (A' := fun k => A k ∧ k < w.heap.size) fun k hk hA => ⟨hA, hk⟩).quiet t1
      refine ⟨hr.cells, hr.names, hr.synced, hr.chs, hr.ne, hr0.af, hr0.an, hr0.ay, hr0.ac, ⟨fun q y hq => ?_, hr.files.apart⟩, hr.refs⟩
      have hq' := hr0.files.each q y hq
      exact ⟨(hr.files.each q y hq).cell, (hr.files.each q y hq).own, hq'.ag, hq'.ar⟩
    have hR2 := (hR.keep k4 fun k _ hk e => hall k hk.1 hk.2 e).mono (A' := A) fun k _ hk => hk.1
    exact ⟨0, rfl, 0, _, rfl, k1, HS hg g x w2 a m c hfile hx k2 (fun k hk => Nat.le_trans hsz (k3 k hk)) ⟨bn, bs, ch, fv, hR2⟩ ((tA ht).andThen k4 fun k hk e => by omega)⟩
end Go.Proofs.Ytefjljdgdoklmaa
