import Derived.Test.YtefjljdgdoklmaaM22
import Derived.Test.YtefjljdgdoklmaaM16
import Derived.Deep.RegionHeld
import Derived.Test.YtefjljdgdoklmaaM01
/-
  The two file systems in one memory; a call of each.
-/
namespace Go.Proofs.Ytefjljdgdoklmaa
open Go.RowKit Go.Maps Go.Sort

theorem RRep.keep {A S : Nat → Prop} {w w' : World} {q : Nat} {r : RDisk} (h : RRep A w q r) (t : Turns S w w') (hS : ∀ k, k < w.heap.size → A k → ¬ S k) : RRep A w' q r := by
  obtain ⟨bs, ch, fv, h⟩ := h
  exact ⟨bs, ch, fv, h.keep t hS⟩
theorem RRep.mono {A A' : Nat → Prop} {w : World} {q : Nat} {r : RDisk} (h : RRep A w q r) (hA : ∀ k, k < w.heap.size → A k → A' k) : RRep A' w q r := by
  obtain ⟨bs, ch, fv, h⟩ := h
  exact ⟨bs, ch, fv, h.mono hA⟩
/-- The code's file system among A, the document's among C, all from B on. -/
structure Mem2 (B f q : Nat) (w : World) (d : Disk) (r : RDisk) (A C : Nat → Prop) : Prop where
  rep : Rep A w f d
  rrep : RRep C w q r
  apart : ∀ k, A k → ¬ C k
  la : ∀ k, A k → B ≤ k ∧ k < w.heap.size
  lc : ∀ k, C k → B ≤ k ∧ k < w.heap.size
def AC (A C : Nat → Prop) : Nat → Prop := fun k => A k ∨ C k
section
variable {B f q : Nat} {w w1 w2 : World} {d d1 : Disk} {r r1 : RDisk} {A C : Nat → Prop}
theorem Mem2.code (h : Mem2 B f q w d r A C) (hB : B ≤ w.heap.size) (t : Turns A w w1) (hr : Rep (Grow A w) w1 f d1) : ∃ A', Mem2 B f q w1 d1 r A' C ∧ ∀ k, k < w.heap.size → A' k → A k := by
  refine ⟨fun k => (A k ∨ w.heap.size ≤ k) ∧ k < w1.heap.size, ⟨hr.mono fun k hk h1 => ⟨h1, hk⟩, h.rrep.keep t fun k _ hc ha => h.apart k ha hc, fun k hk hc => ?_, fun k hk => ⟨?_, hk.2⟩, fun k hk => ⟨(h.lc k hk).1, Nat.lt_of_lt_of_le (h.lc k hk).2 t.size⟩⟩, fun k hk h1 => ?_⟩
  · rcases hk.1 with h1 | h1
    · exact h.apart k h1 hc
    · have := (h.lc k hc).2; omega
  · rcases hk.1 with h1 | h1
    · exact (h.la k h1).1
    · omega
  · rcases h1.1 with h1 | h1
    · exact h1
    · omega
theorem Mem2.doc (h : Mem2 B f q w d r A C) (hB : B ≤ w.heap.size) (t : Turns C w w1) (hr : RRep (Grow C w) w1 q r1) : ∃ C', Mem2 B f q w1 d r1 A C' ∧ ∀ k, k < w.heap.size → C' k → C k := by
  refine ⟨fun k => (C k ∨ w.heap.size ≤ k) ∧ k < w1.heap.size, ⟨h.rep.keep t fun k _ ha hc => h.apart k ha hc, hr.mono fun k hk h1 => ⟨h1, hk⟩, fun k hk hc => ?_, fun k hk => ⟨(h.la k hk).1, Nat.lt_of_lt_of_le (h.la k hk).2 t.size⟩, fun k hk => ⟨?_, hk.2⟩⟩, fun k hk h1 => ?_⟩
  · rcases hc.1 with h1 | h1
    · exact h.apart k hk h1
    · have := (h.la k hk).2; omega
  · rcases hk.1 with h1 | h1
    · exact (h.lc k h1).1
    · omega
  · rcases h1.1 with h1 | h1
    · exact h1
    · omega
theorem Mem2.quiet (h : Mem2 B f q w d r A C) (t : Turns (fun _ => False) w w1) : Mem2 B f q w1 d r A C :=
  ⟨h.rep.quiet t, h.rrep.keep t (fun _ _ _ x => x), h.apart, fun k hk => ⟨(h.la k hk).1, Nat.lt_of_lt_of_le (h.la k hk).2 t.size⟩, fun k hk => ⟨(h.lc k hk).1, Nat.lt_of_lt_of_le (h.lc k hk).2 t.size⟩⟩
theorem Rep.grown {A : Nat → Prop} (h : Rep A w1 f d) (w : World) : Rep (Grow A w) w1 f d := h.mono fun _ _ x => .inl x
theorem RRep.grown {A : Nat → Prop} (h : RRep A w1 q r) (w : World) : RRep (Grow A w) w1 q r := h.mono fun _ _ x => .inl x
theorem Turns.ofA (t : Turns A w w1) : Turns (AC A C) w w1 := t.mono fun _ _ x => .inl x
theorem Turns.ofC (t : Turns C w w1) : Turns (AC A C) w w1 := t.mono fun _ _ x => .inr x
/-- Behind a call of each. -/
def Fin (B i f q : Nat) (A C : Nat → Prop) (w w2 : World) : Prop := Turns (AC A C) w w2 ∧ ∃ rho d r A' C', Mem2 B f q w2 d r A' C' ∧ Inv (i + 2) rho d r ∧ ∀ k, k < w.heap.size → AC A' C' k → AC A C k
theorem fin_cd {i : Nat} {rho : Nat → Nat} (h : Mem2 B f q w d r A C) (hB : B ≤ w.heap.size) (t : Turns A w w1) (hr : Rep (Grow A w) w1 f d1) (t2 : Turns C w1 w2) (hr2 : RRep (Grow C w1) w2 q r1) (hv : Inv (i + 2) rho d1 r1) : Fin B i f q A C w w2 := by
  obtain ⟨A', h1, k1⟩ := h.code hB t hr
  obtain ⟨C', h2, k2⟩ := h1.doc (Nat.le_trans hB t.size) t2 hr2
  exact ⟨t.ofA.trans t2.ofC, rho, d1, r1, A', C', h2, hv, fun k hk h => h.imp (k1 k hk) (k2 k (Nat.lt_of_lt_of_le hk t.size))⟩
theorem fin_dc {i : Nat} {rho : Nat → Nat} (h : Mem2 B f q w d r A C) (hB : B ≤ w.heap.size) (t : Turns C w w1) (hr : RRep (Grow C w) w1 q r1) (t2 : Turns A w1 w2) (hr2 : Rep (Grow A w1) w2 f d1) (hv : Inv (i + 2) rho d1 r1) : Fin B i f q A C w w2 := by
  obtain ⟨C', h1, k1⟩ := h.doc hB t hr
  obtain ⟨A', h2, k2⟩ := h1.code (Nat.le_trans hB t.size) t2 hr2
  exact ⟨t.ofC.trans t2.ofA, rho, d1, r1, A', C', h2, hv, fun k hk h => h.imp (k2 k (Nat.lt_of_lt_of_le hk t.size)) (k1 k hk)⟩
theorem Mem2.rrepAt (h : Mem2 B f q w d r A C) (t : Turns A w w1) : RRep C w1 q r := h.rrep.keep t fun k _ hc ha => h.apart k ha hc
theorem Mem2.repAt (h : Mem2 B f q w d r A C) (t : Turns C w w1) : Rep A w1 f d := h.rep.keep t fun k _ ha hc => h.apart k ha hc
end
theorem good_ne {s : ByteArray} (h : goodN s = true) : s ≠ noName := fun e => by
  subst e
  revert h
  decide
theorem guard_right {d : Disk} {b : Bool} (h : (d.guard b).1 = none) : b = true := by
  cases b with
  | false => cases h
  | true => rfl
section
variable {B i f q : Nat} {w : World} {d : Disk} {r : RDisk} {A C : Nat → Prop} {rho : Nat → Nat}
/-- The guard lets both pass. -/
theorem Inv.pass (h : Inv i rho d r) {b : Bool} (hg : (d.guard b).1 = none) : r.begin b = (0, r.tick) ∧ Inv (i + 1) rho d.tick r.tick := by
  have h1 := (h.sim.guard b).2.1 hg
  have h2 := h.guard b
  rw [h1.2.1, h1.2.2] at h2
  exact ⟨Prod.ext h1.1 h1.2.2, h2⟩
theorem Inv.stop (h : Inv i rho d r) {b : Bool} {z : Int} (hg : (d.guard b).1 = some z) : r.begin b = (z, (r.begin b).2) ∧ z ≠ 0 ∧ Inv (i + 1) rho (d.guard b).2 (r.begin b).2 := by
  have h1 := (h.sim.guard b).2.2 z hg
  exact ⟨Prod.ext h1.1 rfl, h1.2, h.guard b⟩
theorem Inv.fileR (h : Inv i rho d r) {s : ByteArray} {g : Nat} {x : Fil} (hs : fileOf d.names s = some g) (hx : d.files g = some x) : fileOf r.now s = some (rho g) ∧ r.files (rho g) = some x :=
  ⟨by rw [h.sim.now, hs]; rfl, by rw [h.sim.files g (h.sim.named hs), hx]⟩
theorem Inv.noneR (h : Inv i rho d r) {s : ByteArray} (hs : fileOf d.names s = none) : fileOf r.now s = none := by rw [h.sim.now, hs]; rfl
theorem le1000 {n : Nat} (h : n ≤ 300) : n ≤ 1000 := by omega
theorem leMax {n : Nat} (h : n ≤ 300) : n ≤ maxLen := Nat.le_trans h (by unfold maxLen; omega)

theorem create_pair (hm : Mem2 B f q w d r A C) (hB : B ≤ w.heap.size) (hi : Inv i rho d r) (hb : i ≤ 900) (name : ByteArray) (hn : name.size ≤ 300) :
    Calls Try.prog 9 #[.pointer (some ⟨f, 0, none⟩), .string name] w fun e w1 => ∃ z : Int, e = .returned (.int .i64 z) ∧ Turns (AC A C) w w1 ∧ Calls Try.prog 56 #[.pointer (some ⟨q, 0, none⟩), .string name] w1 fun e2 w2 => e2 = .returned (.int .i64 z) ∧ Fin B i f q A C w w2 := by
  refine create_rep A f d name w hm.rep (hi.num (by omega)) (leMax hn) _ (fun z w1 e1 hr ht => ?_) (fun e1 g w1 hf hr ht => ?_) (fun e1 hf g w1 hgs hr ht => ?_)
  · refine ⟨z, rfl, ht.ofA, ?_⟩
    obtain ⟨h1, h2, h3⟩ := hi.stop e1
    refine rcreate_rep C q r _ z name w1 (hm.rrepAt ht) (hi.rnum (by omega)) (h3.rnum (by omega)) (le1000 hn) h1 _ (fun _ w2 hr2 ht2 => ⟨rfl, fin_cd hm hB ht hr ht2 hr2 (h3.mono (by omega))⟩) (fun e => absurd e h2) (fun e => absurd e h2)
  · refine ⟨5, rfl, ht.ofA, ?_⟩
    obtain ⟨h1, h3⟩ := hi.pass e1
    have hl := h3.sim.now name
    rw [show fileOf d.tick.names name = some g from hf] at hl
    refine rcreate_rep C q r _ 0 name w1 (hm.rrepAt ht) (hi.rnum (by omega)) (h3.rnum (by omega)) (le1000 hn) h1 _ (fun e => absurd rfl e) (fun _ g' w2 _ hr2 ht2 => ⟨rfl, fin_cd hm hB ht hr ht2 hr2 (h3.mono (by omega))⟩) (fun _ hno => by rw [hl] at hno; cases hno)
  · refine ⟨0, rfl, ht.ofA, ?_⟩
    obtain ⟨h1, h3⟩ := hi.pass e1
    have hl := h3.noneR (s := name) hf
    have hg0 : ¬ d.tick.live g := fun hl => by
      obtain ⟨x, hx⟩ := h3.live g hl
      obtain ⟨bn, bs, ch, fv, h0⟩ := hm.rep
      rw [show d.tick.files g = d.files g from rfl, h0.new hgs] at hx
      cases hx
    refine rcreate_rep C q r _ 0 name w1 (hm.rrepAt ht) (hi.rnum (by omega)) (h3.rnum (by omega)) (le1000 hn) h1 _ (fun e => absurd rfl e) (fun _ g' w2 hno => by rw [hl] at hno; cases hno) (fun _ _ g' w2 hgs' hr2 ht2 => ⟨rfl, fin_cd hm hB ht hr ht2 hr2 (h3.add (good_ne (guard_right e1)) (le1000 hn) hf hg0 (fun k hk e => ?_))⟩)
    obtain ⟨x, hx⟩ := h3.live k hk
    rw [← h3.sim.files k hk, e] at hx
    obtain ⟨bs, ch, fv, h0⟩ := hm.rrepAt ht
    rw [show r.tick.files g' = r.files g' from rfl, h0.new hgs'] at hx
    cases hx
theorem sync_pair (hm : Mem2 B f q w d r A C) (hB : B ≤ w.heap.size) (hi : Inv i rho d r) (hb : i ≤ 900) (name : ByteArray) (hn : name.size ≤ 300) :
    Calls Try.prog 14 #[.pointer (some ⟨f, 0, none⟩), .string name] w fun e w1 => ∃ z : Int, e = .returned (.int .i64 z) ∧ Turns (AC A C) w w1 ∧ Calls Try.prog 57 #[.pointer (some ⟨q, 0, none⟩), .string name] w1 fun e2 w2 => e2 = .returned (.int .i64 z) ∧ Fin B i f q A C w w2 := by
  refine sync_rep A f d name w hm.rep (hi.num (by omega)) (leMax hn) _ (fun z w1 e1 hr ht => ?_) (fun e1 hf w1 hr ht => ?_) (fun e1 g x w1 hf hx hr ht => ?_)
  · refine ⟨z, rfl, ht.ofA, ?_⟩
    obtain ⟨h1, h2, h3⟩ := hi.stop e1
    refine rsync_rep C q r _ z name w1 (hm.rrepAt ht) (hi.rnum (by omega)) (h3.rnum (by omega)) (le1000 hn) h1 _ (fun _ w2 hr2 ht2 => ⟨rfl, fin_cd hm hB ht hr ht2 hr2 (h3.mono (by omega))⟩) (fun e => absurd e h2) (fun e => absurd e h2)
  · refine ⟨6, rfl, ht.ofA, ?_⟩
    obtain ⟨h1, h3⟩ := hi.pass e1
    have hl := h3.noneR (s := name) hf
    refine rsync_rep C q r _ 0 name w1 (hm.rrepAt ht) (hi.rnum (by omega)) (h3.rnum (by omega)) (le1000 hn) h1 _ (fun e => absurd rfl e) (fun _ _ w2 hr2 ht2 => ⟨rfl, fin_cd hm hB ht hr ht2 hr2 (h3.mono (by omega))⟩) (fun _ g' x' w2 hno => by rw [hl] at hno; cases hno)
  · refine ⟨0, rfl, ht.ofA, ?_⟩
    obtain ⟨h1, h3⟩ := hi.pass e1
    obtain ⟨hl, hl2⟩ := h3.fileR (s := name) hf hx
    refine rsync_rep C q r _ 0 name w1 (hm.rrepAt ht) (hi.rnum (by omega)) (h3.rnum (by omega)) (le1000 hn) h1 _ (fun e => absurd rfl e) (fun _ hno => by rw [hl] at hno; cases hno) (fun _ g' x' w2 h4 h5 hr2 ht2 => ?_)
    rw [hl] at h4; cases h4
    rw [hl2] at h5; cases h5
    exact ⟨rfl, fin_cd hm hB ht hr ht2 hr2 ((h3.setF (y := ⟨x.bytes, x.bytes.length⟩) (h3.sim.named hf) hx rfl (Nat.le_refl _)).mono (by omega))⟩
theorem syncdir_pair (hm : Mem2 B f q w d r A C) (hB : B ≤ w.heap.size) (hi : Inv i rho d r) (hb : i ≤ 900) :
    Calls Try.prog 13 #[.pointer (some ⟨f, 0, none⟩)] w fun e w1 => ∃ z : Int, e = .returned (.int .i64 z) ∧ Turns (AC A C) w w1 ∧ Calls Try.prog 58 #[.pointer (some ⟨q, 0, none⟩)] w1 fun e2 w2 => e2 = .returned (.int .i64 z) ∧ Fin B i f q A C w w2 := by
  refine syncdir_rep A f d w hm.rep (hi.num (by omega)) _ (fun z w1 e1 hr ht => ?_) (fun e1 w1 hr ht => ?_)
  · refine ⟨z, rfl, ht.ofA, ?_⟩
    obtain ⟨h1, h2, h3⟩ := hi.stop e1
    refine rsyncdir_rep C q r _ z w1 (hm.rrepAt ht) (hi.rnum (by omega)) (h3.rnum (by omega)) h1 _ (fun _ w2 hr2 ht2 => ⟨rfl, fin_cd hm hB ht hr ht2 hr2 (h3.mono (by omega))⟩) (fun e => absurd e h2)
  · refine ⟨0, rfl, ht.ofA, ?_⟩
    obtain ⟨h1, h3⟩ := hi.pass e1
    refine rsyncdir_rep C q r _ 0 w1 (hm.rrepAt ht) (hi.rnum (by omega)) (h3.rnum (by omega)) h1 _ (fun e => absurd rfl e) (fun _ w2 hr2 ht2 => ⟨rfl, fin_cd hm hB ht hr ht2 hr2 (h3.settled.mono (by omega))⟩)
theorem rename_pair (hm : Mem2 B f q w d r A C) (hB : B ≤ w.heap.size) (hi : Inv i rho d r) (hb : i ≤ 900) (s t : ByteArray) (hs : s.size ≤ 300) (ht0 : t.size ≤ 300) :
    Calls Try.prog 15 #[.pointer (some ⟨f, 0, none⟩), .string s, .string t] w fun e w1 => ∃ z : Int, e = .returned (.int .i64 z) ∧ Turns (AC A C) w w1 ∧ Calls Try.prog 59 #[.pointer (some ⟨q, 0, none⟩), .string s, .string t] w1 fun e2 w2 => e2 = .returned (.int .i64 z) ∧ Fin B i f q A C w w2 := by
  refine rename_rep A f d s t w hm.rep (hi.num (by omega)) (leMax hs) (leMax ht0) _ (fun z w1 e1 hr ht => ?_) (fun e1 hf w1 hr ht => ?_) (fun e1 he g x w1 hf hx hr ht => ?_) (fun e1 he g x w1 hf hx hr ht => ?_)
  · refine ⟨z, rfl, ht.ofA, ?_⟩
    obtain ⟨h1, h2, h3⟩ := hi.stop e1
    refine rrename_rep C q r _ z s t w1 (hm.rrepAt ht) (hi.rnum (by omega)) (h3.rnum (by omega)) (le1000 hs) (le1000 ht0) h1 _ (fun _ w2 hr2 ht2 => ⟨rfl, fin_cd hm hB ht hr ht2 hr2 (h3.mono (by omega))⟩) (fun e => absurd e h2) (fun e => absurd e h2) (fun e => absurd e h2)
  · refine ⟨6, rfl, ht.ofA, ?_⟩
    obtain ⟨h1, h3⟩ := hi.pass e1
    have hl := h3.noneR (s := s) hf
    refine rrename_rep C q r _ 0 s t w1 (hm.rrepAt ht) (hi.rnum (by omega)) (h3.rnum (by omega)) (le1000 hs) (le1000 ht0) h1 _ (fun e => absurd rfl e) (fun _ _ w2 hr2 ht2 => ⟨rfl, fin_cd hm hB ht hr ht2 hr2 (h3.mono (by omega))⟩) (fun _ _ g' x' w2 hno => by rw [hl] at hno; cases hno) (fun _ _ g' x' w2 hno => by rw [hl] at hno; cases hno)
  · refine ⟨0, rfl, ht.ofA, ?_⟩
    obtain ⟨h1, h3⟩ := hi.pass e1
    obtain ⟨hl, hl2⟩ := h3.fileR (s := s) hf hx
    refine rrename_rep C q r _ 0 s t w1 (hm.rrepAt ht) (hi.rnum (by omega)) (h3.rnum (by omega)) (le1000 hs) (le1000 ht0) h1 _ (fun e => absurd rfl e) (fun _ hno => by rw [hl] at hno; cases hno) (fun _ _ g' x' w2 h4 h5 hr2 ht2 => ⟨rfl, fin_cd hm hB ht hr ht2 hr2 (h3.mono (by omega))⟩) (fun _ hne => absurd he hne)
  · refine ⟨0, rfl, ht.ofA, ?_⟩
    obtain ⟨h1, h3⟩ := hi.pass e1
    obtain ⟨hl, hl2⟩ := h3.fileR (s := s) hf hx
    have hgood := guard_right e1
    rw [Bool.and_eq_true] at hgood
    refine rrename_rep C q r _ 0 s t w1 (hm.rrepAt ht) (hi.rnum (by omega)) (h3.rnum (by omega)) (le1000 hs) (le1000 ht0) h1 _ (fun e => absurd rfl e) (fun _ hno => by rw [hl] at hno; cases hno) (fun _ hee => absurd hee he) (fun _ _ g' x' w2 h4 h5 hr2 ht2 => ?_)
    rw [hl] at h4; cases h4
    exact ⟨rfl, fin_cd hm hB ht hr ht2 hr2 (h3.renamed (le1000 hs) (le1000 ht0) (good_ne hgood.2) he hf)⟩
theorem remove_pair (hm : Mem2 B f q w d r A C) (hB : B ≤ w.heap.size) (hi : Inv i rho d r) (hb : i ≤ 900) (name : ByteArray) (hn : name.size ≤ 300) :
    Calls Try.prog 29 #[.pointer (some ⟨f, 0, none⟩), .string name] w fun e w1 => ∃ z : Int, e = .returned (.int .i64 z) ∧ Turns (AC A C) w w1 ∧ Calls Try.prog 60 #[.pointer (some ⟨q, 0, none⟩), .string name] w1 fun e2 w2 => e2 = .returned (.int .i64 z) ∧ Fin B i f q A C w w2 := by
  refine remove_rep A f d name w hm.rep (hi.num (by omega)) (leMax hn) _ (fun z w1 e1 hr ht => ?_) (fun e1 hf w1 hr ht => ?_) (fun e1 g x w1 hf hx hr ht => ?_)
  · refine ⟨z, rfl, ht.ofA, ?_⟩
    obtain ⟨h1, h2, h3⟩ := hi.stop e1
    refine rremove_rep C q r _ z name w1 (hm.rrepAt ht) (hi.rnum (by omega)) (h3.rnum (by omega)) (le1000 hn) h1 _ (fun _ w2 hr2 ht2 => ⟨rfl, fin_cd hm hB ht hr ht2 hr2 (h3.mono (by omega))⟩) (fun e => absurd e h2) (fun e => absurd e h2)
  · refine ⟨6, rfl, ht.ofA, ?_⟩
    obtain ⟨h1, h3⟩ := hi.pass e1
    have hl := h3.noneR (s := name) hf
    refine rremove_rep C q r _ 0 name w1 (hm.rrepAt ht) (hi.rnum (by omega)) (h3.rnum (by omega)) (le1000 hn) h1 _ (fun e => absurd rfl e) (fun _ _ w2 hr2 ht2 => ⟨rfl, fin_cd hm hB ht hr ht2 hr2 (h3.mono (by omega))⟩) (fun _ g' x' w2 hno => by rw [hl] at hno; cases hno)
  · refine ⟨0, rfl, ht.ofA, ?_⟩
    obtain ⟨h1, h3⟩ := hi.pass e1
    obtain ⟨hl, hl2⟩ := h3.fileR (s := name) hf hx
    refine rremove_rep C q r _ 0 name w1 (hm.rrepAt ht) (hi.rnum (by omega)) (h3.rnum (by omega)) (le1000 hn) h1 _ (fun e => absurd rfl e) (fun _ hno => by rw [hl] at hno; cases hno) (fun _ g' x' w2 h4 h5 hr2 ht2 => ?_)
    exact ⟨rfl, fin_cd hm hB ht hr ht2 hr2 (h3.removed (le1000 hn) hf hx)⟩
theorem append_pair (hm : Mem2 B f q w d r A C) (hB : B ≤ w.heap.size) (hi : Inv i rho d r) (hb : i ≤ 900) (name : ByteArray) (hn : name.size ≤ 300) (a a' : Option Addr) (n c c' : Nat) (news : List (BitVec 8)) (hw : Bytes w (.slice a n c) news) (hw' : Bytes w (.slice a' n c') news) (hl : n ≤ 300) (ha : ∀ p o, a = some ⟨p, o, none⟩ → ¬ A p ∧ ¬ C p) (ha' : ∀ p o, a' = some ⟨p, o, none⟩ → 0 < n → ¬ A p ∧ ¬ C p) :
    Calls Try.prog 10 #[.pointer (some ⟨f, 0, none⟩), .string name, .slice a n c] w fun e w1 => ∃ z : Int, e = .returned (.int .i64 z) ∧ Turns (AC A C) w w1 ∧ Calls Try.prog 66 #[.pointer (some ⟨q, 0, none⟩), .string name, .slice a' n c'] w1 fun e2 w2 => e2 = .returned (.int .i64 z) ∧ Fin B i f q A C w w2 := by
  have hnl := hw.len
  have hqC : C q := by obtain ⟨bs, ch, fv, h0⟩ := hm.rrep; exact h0.af
  have hbq : ∀ p o, a' = some ⟨p, o, none⟩ → 0 < n → p ≠ q := fun p o e h0 e2 => (ha' p o e h0).2 (e2 ▸ hqC)
  refine append_rep A f d name a n c news w hm.rep (hi.num (by omega)) (leMax hn) hw (fun p o e e2 => (ha p o e).1 (e2 ▸ hm.rep.af)) _ (fun z w1 e1 hr ht => ?_) (fun e1 hf w1 hr ht => ?_) (fun e1 g x w1 hf hx hro hr ht => ?_) (fun e1 g x w1 hf hx hro hr ht => ?_)
  · refine ⟨z, rfl, ht.ofA, ?_⟩
    obtain ⟨h1, h2, h3⟩ := hi.stop e1
    refine rappend_rep C q r _ z name a' n c' news w1 (hm.rrepAt ht) (hi.rnum (by omega)) (h3.rnum (by omega)) (le1000 hn) h1 (h3.fits (by omega)) (hw'.keep0 ht fun p o e h0 => (ha' p o e h0).1) hbq (by omega) _ (fun _ w2 hr2 ht2 => ⟨rfl, fin_cd hm hB ht hr ht2 hr2 (h3.mono (by omega))⟩) (fun e => absurd e h2) (fun e => absurd e h2) (fun e => absurd e h2)
  · refine ⟨6, rfl, ht.ofA, ?_⟩
    obtain ⟨h1, h3⟩ := hi.pass e1
    have hl := h3.noneR (s := name) hf
    refine rappend_rep C q r _ 0 name a' n c' news w1 (hm.rrepAt ht) (hi.rnum (by omega)) (h3.rnum (by omega)) (le1000 hn) h1 (h3.fits (by omega)) (hw'.keep0 ht fun p o e h0 => (ha' p o e h0).1) hbq (by omega) _ (fun e => absurd rfl e) (fun _ _ w2 hr2 ht2 => ⟨rfl, fin_cd hm hB ht hr ht2 hr2 (h3.mono (by omega))⟩) (fun _ g' x' ls w2 hno => by rw [hl] at hno; cases hno) (fun _ g' x' ls w2 hno => by rw [hl] at hno; cases hno)
  · refine ⟨7, rfl, ht.ofA, ?_⟩
    obtain ⟨h1, h3⟩ := hi.pass e1
    obtain ⟨hl, hl2⟩ := h3.fileR (s := name) hf hx
    refine rappend_rep C q r _ 0 name a' n c' news w1 (hm.rrepAt ht) (hi.rnum (by omega)) (h3.rnum (by omega)) (le1000 hn) h1 (h3.fits (by omega)) (hw'.keep0 ht fun p o e h0 => (ha' p o e h0).1) hbq (by omega) _ (fun e => absurd rfl e) (fun _ hno => by rw [hl] at hno; cases hno) (fun _ g' x' ls w2 h4 h5 h6 h7 hr2 ht2 => ⟨rfl, fin_cd hm hB ht hr ht2 hr2 (h3.mono (by omega))⟩) (fun _ g' x' ls w2 h4 h5 h6 h7 => ?_)
    have h8 := h3.acc.used h3.sim h6
    have h9 := h3.sim.limit
    have h10 : d.tick.used = d.used := rfl
    have h11 : d.tick.limit = d.limit := rfl
    omega
  · refine ⟨0, rfl, ht.ofA, ?_⟩
    obtain ⟨h1, h3⟩ := hi.pass e1
    obtain ⟨hl, hl2⟩ := h3.fileR (s := name) hf hx
    refine rappend_rep C q r _ 0 name a' n c' news w1 (hm.rrepAt ht) (hi.rnum (by omega)) (h3.rnum (by omega)) (le1000 hn) h1 (h3.fits (by omega)) (hw'.keep0 ht fun p o e h0 => (ha' p o e h0).1) hbq (by omega) _ (fun e => absurd rfl e) (fun _ hno => by rw [hl] at hno; cases hno) (fun _ g' x' ls w2 h4 h5 h6 h7 => ?_) (fun _ g' x' ls w2 h4 h5 h6 h7 hr2 ht2 => ?_)
    · have h8 := h3.acc.used h3.sim h6
      have h9 := h3.sim.limit
      have h10 : d.tick.used = d.used := rfl
      have h11 : d.tick.limit = d.limit := rfl
      omega
    · rw [hl] at h4; cases h4
      rw [hl2] at h5; cases h5
      exact ⟨rfl, fin_cd hm hB ht hr ht2 hr2 (h3.put hx (h3.sim.named hf) ⟨name, hf⟩ news (by omega) hro)⟩
theorem turn_pair (hm : Mem2 B f q w d r A C) (hB : B ≤ w.heap.size) (hi : Inv i rho d r) (hb : i ≤ 900) (name : ByteArray) (hn : name.size ≤ 300) (at_ : Int) (b : BitVec 8) :
    Calls Try.prog 30 #[.pointer (some ⟨f, 0, none⟩), .string name, .int .i64 at_, .int .u8 (b.toNat : Int)] w fun e w1 => ∃ z : Int, e = .returned (.int .i64 z) ∧ Turns (AC A C) w w1 ∧ Calls Try.prog 65 #[.pointer (some ⟨q, 0, none⟩), .string name, .int .i64 at_, .int .u8 (b.toNat : Int)] w1 fun e2 w2 => e2 = .returned (.int .i64 z) ∧ Fin B i f q A C w w2 := by
  have hA0 : Turns A w w := Turns.refl _ _
  refine turn_rep A f d name at_ b w hm.rep (leMax hn) _ (fun hf => ?_) (fun g x hf hx ho => ?_) (fun g x k w1 hf hx hk hkl hr ht => ?_)
  · refine ⟨6, rfl, hA0.ofA, ?_⟩
    have hl := hi.noneR (s := name) hf
    exact rturn_rep C q r name at_ b w hm.rrep (hi.rnum (by omega)) (leMax hn) _ (fun _ w2 hr2 ht2 => ⟨rfl, fin_cd hm hB hA0 (hm.rep.grown w) (ht2.mono fun _ _ x => x.elim) (hr2.grown w) (hi.mono (by omega))⟩) (fun g' x' w2 h4 => by rw [hl] at h4; cases h4) (fun g' x' k w2 h4 => by rw [hl] at h4; cases h4)
  · refine ⟨2, rfl, hA0.ofA, ?_⟩
    obtain ⟨hl, hl2⟩ := hi.fileR (s := name) hf hx
    refine rturn_rep C q r name at_ b w hm.rrep (hi.rnum (by omega)) (leMax hn) _ (fun h4 => by rw [hl] at h4; cases h4) (fun g' x' w2 h4 h5 h6 hr2 ht2 => ⟨rfl, fin_cd hm hB hA0 (hm.rep.grown w) (ht2.mono fun _ _ x => x.elim) (hr2.grown w) (hi.mono (by omega))⟩) (fun g' x' k w2 h4 h5 h6 h7 => ?_)
    rw [hl] at h4; cases h4
    rw [hl2] at h5; cases h5
    omega
  · refine ⟨0, rfl, ht.ofA, ?_⟩
    obtain ⟨hl, hl2⟩ := hi.fileR (s := name) hf hx
    refine rturn_rep C q r name at_ b w1 (hm.rrepAt ht) (hi.rnum (by omega)) (leMax hn) _ (fun h4 => by rw [hl] at h4; cases h4) (fun g' x' w2 h4 h5 h6 => ?_) (fun g' x' k' w2 h4 h5 h6 h7 hr2 ht2 => ?_)
    · rw [hl] at h4; cases h4
      rw [hl2] at h5; cases h5
      omega
    · rw [hl] at h4; cases h4
      rw [hl2] at h5; cases h5
      obtain rfl : k = k' := by omega
      have hlen : (turnAt x.bytes k b).length = x.bytes.length := by unfold turnAt; rw [List.length_modify]
      exact ⟨rfl, fin_cd hm hB ht (hr.grown w) ht2 hr2 ((hi.setF (y := ⟨turnAt x.bytes k b, x.synced⟩) (hi.sim.named hf) hx hlen (by show x.synced ≤ (turnAt x.bytes k b).length; rw [hlen]; exact (hi.bytes g x hx).2)).mono (by omega))⟩
theorem fault_pair (hm : Mem2 B f q w d r A C) (hB : B ≤ w.heap.size) (hi : Inv i rho d r) (n z : Int) (hn : n ≤ 9223372036854775807) :
    Calls Try.prog 19 #[.pointer (some ⟨f, 0, none⟩), .int .i64 n, .int .i64 z] w fun e w1 => ∃ y : Int, e = .returned (.int .i64 y) ∧ Turns (AC A C) w w1 ∧ Calls Try.prog 63 #[.pointer (some ⟨q, 0, none⟩), .int .i64 n, .int .i64 z] w1 fun e2 w2 => e2 = .returned (.int .i64 y) ∧ Fin B i f q A C w w2 := by
  by_cases hz : z = 7 ∨ z = 8
  · refine (fault_rep A f d n z w hm.rep hz).mono ?_
    rintro e w1 ⟨rfl, hr, ht⟩
    refine ⟨0, rfl, ht.ofA, ?_⟩
    refine (rfault_rep C q r n z w1 (hm.rrepAt ht) hz).mono ?_
    rintro e w2 ⟨rfl, hr2, ht2⟩
    exact ⟨rfl, fin_cd hm hB ht (hr.grown w) ht2 (hr2.grown w1) ((hi.faulted hn (by omega)).mono (by omega))⟩
  · refine (fault_bad A f d n z w hm.rep (fun e => hz (.inl e)) (fun e => hz (.inr e))).mono ?_
    rintro e w1 ⟨rfl, rfl⟩
    refine ⟨2, rfl, Turns.refl _ _, ?_⟩
    refine (rfault_bad q n z w1 (fun e => hz (.inl e)) (fun e => hz (.inr e))).mono ?_
    rintro e w2 ⟨rfl, rfl⟩
    exact ⟨rfl, Turns.refl _ _, rho, d, r, A, C, hm, hi.mono (by omega), fun _ _ h => h⟩
theorem fuse_pair (hm : Mem2 B f q w d r A C) (hB : B ≤ w.heap.size) (hi : Inv i rho d r) (n : Int) (hn : n ≤ 9223372036854775807) :
    Calls Try.prog 62 #[.pointer (some ⟨q, 0, none⟩), .int .i64 n] w fun e w1 => (∃ v, e = .returned v) ∧ Turns (AC A C) w w1 ∧ Calls Try.prog 17 #[.pointer (some ⟨f, 0, none⟩), .int .i64 n] w1 fun e2 w2 => e2 = .returned (.int .i64 0) ∧ Fin B i f q A C w w2 := by
  refine (rfuse_rep C q r n w hm.rrep).mono ?_
  rintro e w1 ⟨hv, hr, ht⟩
  refine ⟨hv, ht.ofC, ?_⟩
  refine (fuse_rep A f d n w1 (hm.repAt ht)).mono ?_
  rintro e w2 ⟨rfl, hr2, ht2⟩
  exact ⟨rfl, fin_dc hm hB ht (hr.grown w) ht2 (hr2.grown w1) ((hi.fused hn).mono (by omega))⟩
end
end Go.Proofs.Ytefjljdgdoklmaa

/-
  A call of each file system: Read and Crash.
-/
namespace Go.Proofs.Ytefjljdgdoklmaa
open Go.RowKit Go.Maps Go.Sort
theorem nothing (w : World) (a : Option Addr) (c : Nat) : Bytes w (.slice a 0 c) [] := ⟨_, c, rfl, fun k hk => by simp at hk⟩
section
variable {B i f q : Nat} {w : World} {d : Disk} {r : RDisk} {A C : Nat → Prop} {rho : Nat → Nat}
theorem read_pair (hm : Mem2 B f q w d r A C) (hB : B ≤ w.heap.size) (hi : Inv i rho d r) (hb : i ≤ 900) (name : ByteArray) (hn : name.size ≤ 1000) (at' n : Int) (b1 : at' ≤ 9223372036854775807) (b2 : n ≤ 9223372036854775807) :
    Calls Try.prog 20 #[.pointer (some ⟨f, 0, none⟩), .string name, .int .i64 at', .int .i64 n] w fun e w1 => ∃ (a : Option Addr) (m c : Nat) (z : Int) (bs : List (BitVec 8)), e = .returned (.tuple #[.slice a m c, .int .i64 z]) ∧ Turns (AC A C) w w1 ∧
      Calls Try.prog 61 #[.pointer (some ⟨q, 0, none⟩), .string name, .int .i64 at', .int .i64 n] w1 fun e2 w2 => ∃ (a' : Option Addr) (c' : Nat), e2 = .returned (.tuple #[.slice a' m c', .int .i64 z]) ∧ Bytes w2 (.slice a m c) bs ∧ Bytes w2 (.slice a' m c') bs ∧ m ≤ 1000000 ∧ Fin B i f q A C w w2 := by
  have hnM : name.size ≤ maxLen := Nat.le_trans hn (by unfold maxLen; omega)
  refine read_rep A f d name at' n w hm.rep (hi.num (by omega)) hnM b1 b2 _ (fun z w1 e1 hr ht => ?_) (fun e1 hf w1 hr ht => ?_) (fun e1 g x w1 a m c hf hx ho hrow hr ht => ?_)
  · refine ⟨none, 0, 0, z, [], rfl, ht.ofA, ?_⟩
    obtain ⟨h1, h2, h3⟩ := hi.stop e1
    cases hgd : Disk.right name at' n with
    | false =>
      rw [hgd] at e1 hr
      have ez : z = 2 := by
        have : some (2 : Int) = some z := e1
        simpa using this.symm
      subst ez
      refine (rread_bad q name at' n w1 hn hgd).mono ?_
      rintro e w2 ⟨rfl, rfl⟩
      obtain ⟨A', hm1, k1⟩ := hm.code hB ht hr
      exact ⟨none, 0, rfl, nothing _ _ _, nothing _ _ _, by omega, ht.ofA, rho, _, r, A', C, hm1, hi.mono (by omega), fun k hk h => h.imp (k1 k hk) id⟩
    | true =>
      rw [hgd] at h1 hr h3
      have hgood := hgd
      unfold Disk.right at hgood
      rw [Bool.and_eq_true, Bool.and_eq_true, decide_eq_true_eq, decide_eq_true_eq] at hgood
      obtain ⟨N, rfl⟩ := Int.eq_ofNat_of_zero_le hgood.2
      obtain ⟨T, rfl⟩ := Int.eq_ofNat_of_zero_le hgood.1.2
      refine rread_rep C q r _ z name T N w1 (hm.rrepAt ht) (hi.rnum (by omega)) (h3.rnum (by omega)) hn hgood.1.1 (by omega) (by omega) h1 _ (fun _ w2 hr2 ht2 => ⟨none, 0, rfl, nothing _ _ _, nothing _ _ _, by omega, fin_cd hm hB ht hr ht2 hr2 (h3.mono (by omega))⟩) (fun e => absurd e h2) (fun e => absurd e h2)
  · refine ⟨none, 0, 0, 6, [], rfl, ht.ofA, ?_⟩
    obtain ⟨h1, h3⟩ := hi.pass e1
    have hgd := guard_right e1
    rw [hgd] at h1
    have hgood := hgd
    unfold Disk.right at hgood
    rw [Bool.and_eq_true, Bool.and_eq_true, decide_eq_true_eq, decide_eq_true_eq] at hgood
    obtain ⟨N, rfl⟩ := Int.eq_ofNat_of_zero_le hgood.2
    obtain ⟨T, rfl⟩ := Int.eq_ofNat_of_zero_le hgood.1.2
    have hl := h3.noneR (s := name) hf
    refine rread_rep C q r _ 0 name T N w1 (hm.rrepAt ht) (hi.rnum (by omega)) (h3.rnum (by omega)) hn hgood.1.1 (by omega) (by omega) h1 _ (fun e => absurd rfl e) (fun _ _ w2 hr2 ht2 => ⟨none, 0, rfl, nothing _ _ _, nothing _ _ _, by omega, fin_cd hm hB ht hr ht2 hr2 (h3.mono (by omega))⟩) (fun _ g' x' w2 a' m' c' hno => by rw [hl] at hno; cases hno)
  · obtain ⟨h1, h3⟩ := hi.pass e1
    have hgd := guard_right e1
    rw [hgd] at h1
    have hgood := hgd
    unfold Disk.right at hgood
    rw [Bool.and_eq_true, Bool.and_eq_true, decide_eq_true_eq, decide_eq_true_eq] at hgood
    obtain ⟨N, rfl⟩ := Int.eq_ofNat_of_zero_le hgood.2
    obtain ⟨T, rfl⟩ := Int.eq_ofNat_of_zero_le hgood.1.2
    obtain ⟨hl, hl2⟩ := h3.fileR (s := name) hf hx
    refine ⟨a, m, c, 0, readOf x.bytes T N, rfl, ht.ofA, ?_⟩
    refine rread_rep C q r _ 0 name T N w1 (hm.rrepAt ht) (hi.rnum (by omega)) (h3.rnum (by omega)) hn hgood.1.1 (by omega) (by omega) h1 _ (fun e => absurd rfl e) (fun _ hno => by rw [hl] at hno; cases hno) (fun _ g' x' w2 a' m' c' h4 h5 ho2 hrow2 hr2 ht2 => ?_)
    rw [hl] at h4; cases h4
    rw [hl2] at h5; cases h5
    have hm1 := ho.bytes.len
    have hm2 := ho2.bytes.len
    have e : m' = m := by rw [hm1, hm2]; rfl
    subst e
    have hlen : m' ≤ x.bytes.length := by
      rw [hm2]
      unfold readOf
      rw [List.length_take, List.length_drop]
      omega
    have hxb := (hi.bytes g x hx).1
    refine ⟨a', c', rfl, (ho.keep ht2 fun k hk hc => ?_).bytes, ho2.bytes, by omega, fin_cd hm hB ht (hr.grown w) ht2 (hr2.grown w1) (h3.mono (by omega))⟩
    have h6 := hrow k hk
    have h7 := (hm.lc k hc).2
    omega
theorem crash_pair (hm : Mem2 B f q w d r A C) (hB : B ≤ w.heap.size) (hi : Inv i rho d r) (hb : i ≤ 900) (dir : Int) (d1 : dir ≤ 9223372036854775807) (d2 : -9223372036854775808 ≤ dir) (ka : Option Addr) (kn kc : Nat) (ks : List Int) (hI : Ints w ka kn ks) (hIa : ∀ a o, ka = some ⟨a, o, none⟩ → 0 < kn → a < w.heap.size) (hks : ∀ z, z ∈ ks → z ≤ 9223372036854775807 ∧ -9223372036854775808 ≤ z) :
    Calls Try.prog 64 #[.pointer (some ⟨q, 0, none⟩), .int .i64 dir, .slice ka kn kc] w fun e w1 => (∃ v, e = .returned v) ∧ Turns C w w1 ∧
      ∀ w1' ka' kc', Turns (fun _ => False) w1 w1' → Ints w1' ka' kn ks → (∀ p o, ka' = some ⟨p, o, none⟩ → ¬ A p) → Calls Try.prog 11 #[.pointer (some ⟨f, 0, none⟩), .int .i64 dir, .slice ka' kn kc'] w1' fun e2 w2 => e2 = .returned (.int .i64 0) ∧ Fin B i f q A C w w2 := by
  have hks' : ∀ k, -9223372036854775808 ≤ ks.getD k 0 ∧ ks.getD k 0 ≤ 9223372036854775807 := fun k => by
    rw [List.getD_eq_getElem?_getD]
    cases e : ks[k]? with
    | none => exact ⟨by simp, by simp⟩
    | some z => exact ⟨(hks z (List.mem_of_getElem? e)).2, (hks z (List.mem_of_getElem? e)).1⟩
  refine rcrash_rep C q r dir ka kn kc ks w hm.rrep (hi.rnum (by omega)) hI hIa hks' (Nat.le_trans (hi.rdir _) (by omega)) _ (fun gs w1 hlen hg hnd hr ht e => ⟨⟨e, rfl⟩, ht, fun w1' ka' kc' t hI' hA' => ?_⟩)
  obtain ⟨C', hm1, k1⟩ := hm.doc hB ht hr
  have hm2 := hm1.quiet t
  refine (crash_rep A f d dir ka' kn kc' ks w1' hm2.rep (hi.num (by omega)) d1 d2 hI' hks hA').mono ?_
  rintro e2 w2 ⟨rfl, hr2, ht2⟩
  obtain ⟨A', hm3, k2⟩ := hm2.code (Nat.le_trans hB (Nat.le_trans ht.size t.size)) ht2 hr2
  exact ⟨rfl, (ht.ofC.trans (t.mono fun _ _ x => x.elim)).trans ht2.ofA, _, _, _, A', C', hm3, (hi.crashed (by omega) dir ks gs hlen (fun j p hj => ⟨(hg j p hj).1, (hg j p hj).2.2⟩) hnd).mono (by omega), fun k hk h => h.imp (k2 k (Nat.lt_of_lt_of_le hk (Nat.le_trans ht.size t.size))) (k1 k hk)⟩
end
end Go.Proofs.Ytefjljdgdoklmaa

/-
  Pick: a number from 0 on, by any number.
-/
namespace Go.Proofs.Ytefjljdgdoklmaa
open Go.RowKit Go.Maps Go.Sort
/-- The number that is picked. -/
def pickZ (n m : Int) : Int := if n.tmod m < 0 then n.tmod m + m else n.tmod m
theorem pickZ_le (n : Int) : 0 ≤ pickZ n 12 ∧ pickZ n 12 < 12 := by
  unfold pickZ
  have h1 := Int.tmod_lt_of_pos n (show (0 : Int) < 12 by omega)
  have h2 : -12 < n.tmod 12 := by
    have := Int.lt_tmod_of_pos n (show (0 : Int) < 12 by omega)
    omega
  split <;> omega
set_option maxRecDepth 100000 in
set_option maxHeartbeats 4000000 in
theorem pick_any (n : Int) (w : World) : Calls Try.prog 55 #[.int .i64 n, .int .i64 12] w fun e w' => e = .returned (.int .i64 (pickZ n 12)) ∧ w' = w := by
  have h1 := Int.tmod_lt_of_pos n (show (0 : Int) < 12 by omega)
  have h2 : -12 < n.tmod 12 := by
    have := Int.lt_tmod_of_pos n (show (0 : Int) < 12 by omega)
    omega
  go_enter Try.func55, Try.ntmps55
  go_wp2_with fail
  · go_ret
    refine ⟨?_, rfl⟩
    unfold pickZ
    rw [if_pos ‹_›]
    rfl
  · go_ret
    refine ⟨?_, rfl⟩
    unfold pickZ
    rw [if_neg (by omega)]
    rfl
end Go.Proofs.Ytefjljdgdoklmaa

/-
  A call of both file systems, as the law makes it: what all of them share.
-/
namespace Go.Proofs.Ytefjljdgdoklmaa
open Go.RowKit Go.Maps Go.Sort
theorem fin_from {B i f q : Nat} {A C : Nat → Prop} {w w0 w2 : World} (t : Turns (AC A C) w w0) (h : Fin B i f q A C w0 w2) : Fin B i f q A C w w2 := by
  obtain ⟨h0, rho, d, r, A', C', h1, h2, h3⟩ := h
  exact ⟨t.trans h0, rho, d, r, A', C', h1, h2, fun k hk x => h3 k (Nat.lt_of_lt_of_le hk t.size) x⟩
theorem Mem2.alone {B f q : Nat} {w : World} {d : Disk} {r : RDisk} {A C : Nat → Prop} (h : Mem2 B f q w d r A C) : ¬ AC A C w.heap.size := fun x => by
  rcases x with x | x
  · have := (h.la _ x).2; omega
  · have := (h.lc _ x).2; omega
end Go.Proofs.Ytefjljdgdoklmaa

/-
  A call of both file systems, as the law makes it: Create, Sync, Remove, Rename, Fault.
-/
namespace Go.Proofs.Ytefjljdgdoklmaa
open Go.RowKit Go.Maps Go.Sort
section
variable {B i f q : Nat} {w : World} {d : Disk} {r : RDisk} {A C : Nat → Prop} {rho : Nat → Nat}
set_option maxRecDepth 100000 in
set_option maxHeartbeats 4000000 in
theorem act_0 (hm : Mem2 B f q w d r A C) (hB : B ≤ w.heap.size) (hi : Inv i rho d r) (hb : i ≤ 900) (kind N M E : Int) (s t : ByteArray) (ba ka : Option Addr) (bn bc kn kc : Nat) (hs : s.size ≤ 300) (hp : pickZ kind 12 = 0) :
    Calls Try.prog 25 #[.pointer (some ⟨f, 0, none⟩), .pointer (some ⟨q, 0, none⟩), .agg #[.int .i64 kind, .string s, .string t, .slice ba bn bc, .int .i64 N, .int .i64 M, .int .i64 E, .slice ka kn kc]] w fun e w' => e = .returned (.bool true) ∧ Fin B i f q A C w w' := by
  have hrow : (w.alloc (.cells #[.int .i64 kind, .string s, .string t, .slice ba bn bc, .int .i64 N, .int .i64 M, .int .i64 E, .slice ka kn kc] 49)).heap[w.heap.size]? = some (.cells #[.int .i64 kind, .string s, .string t, .slice ba bn bc, .int .i64 N, .int .i64 M, .int .i64 E, .slice ka kn kc] 49 (0, 0)) := heap_alloc_new w _
  have HR := hide hrow
  have HG := hide hm.alone
  have HT := hide ((Turns.refl (AC A C) w).alloc (.cells #[.int .i64 kind, .string s, .string t, .slice ba bn bc, .int .i64 N, .int .i64 M, .int .i64 E, .slice ka kn kc] 49))
  have HM := hide (hm.quiet ((Turns.refl _ w).alloc (.cells #[.int .i64 kind, .string s, .string t, .slice ba bn bc, .int .i64 N, .int .i64 M, .int .i64 E, .slice ka kn kc] 49)))
  have HB := hide hB
  have HP := hide hp
  have HS0 := hide hm.la
  have HS1 := hide hm.lc
  clear hrow hm hp hB
  go_enter Try.func25, Try.ntmps25
  go_wp2_with fail
  have hsz : (w.alloc (.cells #[.int .i64 kind, .string s, .string t, .slice ba bn bc, .int .i64 N, .int .i64 M, .int .i64 E, .slice ka kn kc] 49)).heap.size = w.heap.size + 1 := by simp
  have HB1 := hide (show B ≤ (w.alloc (.cells #[.int .i64 kind, .string s, .string t, .slice ba bn bc, .int .i64 N, .int .i64 M, .int .i64 E, .slice ka kn kc] 49)).heap.size by rw [hsz]; have := HB.out; omega)
  clear hsz
  generalize hw0 : (w.alloc (.cells #[.int .i64 kind, .string s, .string t, .slice ba bn bc, .int .i64 N, .int .i64 M, .int .i64 E, .slice ka kn kc] 49)) = w0 at *
  generalize hg0 : w.heap.size = g at *
  clear hw0
  refine (pick_any kind w0).mono ?_
  rintro e w1 ⟨rfl, hw1⟩
  subst hw1
  rw [HP.out]
  have a1 : w1.cell? ⟨g, 1, none⟩ = some (.string s) := cell_of_row w1 g 1 _ 49 (0, 0) HR.out
  have TD := hide ((Turns.refl (fun _ => False) w1).drew)
  have HC := hide (create_pair (HM.out.quiet TD.out) (Nat.le_trans HB1.out TD.out.size) hi hb s hs)
  go_wp2_with fail
  go_region_held (fun w' => w'.cell? ⟨g, 1, none⟩ = some (.string s)) (first | (with_reducible exact h1) | (with_reducible exact f1) | (simp only [World.cell?_drew]; with_reducible exact a1)) (first
    | (go_at_call 9; refine HC.out.mono ?_; rintro e w2 ⟨z, rfl, t2, c2⟩; have f1 := t2.cell (p := ⟨g, 1, none⟩) (v := .string s) a1 HG.out; have T2 := hide t2; have C2 := hide c2; clear t2 c2)
    | (go_at_call 56; refine C2.out.mono ?_; rintro e w3 ⟨rfl, c3⟩; have h1 := c3.1.cell (p := ⟨g, 1, none⟩) (v := .string s) a1 HG.out; have C3 := hide c3; clear c3))
  go_wp2_with fail
  go_ret
  exact ⟨by simp, fin_from HT.out (fin_from (TD.out.mono fun _ _ x => x.elim) C3.out)⟩
set_option maxRecDepth 100000 in
set_option maxHeartbeats 4000000 in
theorem act_2 (hm : Mem2 B f q w d r A C) (hB : B ≤ w.heap.size) (hi : Inv i rho d r) (hb : i ≤ 900) (kind N M E : Int) (s t : ByteArray) (ba ka : Option Addr) (bn bc kn kc : Nat) (hs : s.size ≤ 300) (hp : pickZ kind 12 = 2) :
    Calls Try.prog 25 #[.pointer (some ⟨f, 0, none⟩), .pointer (some ⟨q, 0, none⟩), .agg #[.int .i64 kind, .string s, .string t, .slice ba bn bc, .int .i64 N, .int .i64 M, .int .i64 E, .slice ka kn kc]] w fun e w' => e = .returned (.bool true) ∧ Fin B i f q A C w w' := by
  have hrow : (w.alloc (.cells #[.int .i64 kind, .string s, .string t, .slice ba bn bc, .int .i64 N, .int .i64 M, .int .i64 E, .slice ka kn kc] 49)).heap[w.heap.size]? = some (.cells #[.int .i64 kind, .string s, .string t, .slice ba bn bc, .int .i64 N, .int .i64 M, .int .i64 E, .slice ka kn kc] 49 (0, 0)) := heap_alloc_new w _
  have HR := hide hrow
  have HG := hide hm.alone
  have HT := hide ((Turns.refl (AC A C) w).alloc (.cells #[.int .i64 kind, .string s, .string t, .slice ba bn bc, .int .i64 N, .int .i64 M, .int .i64 E, .slice ka kn kc] 49))
  have HM := hide (hm.quiet ((Turns.refl _ w).alloc (.cells #[.int .i64 kind, .string s, .string t, .slice ba bn bc, .int .i64 N, .int .i64 M, .int .i64 E, .slice ka kn kc] 49)))
  have HB := hide hB
  have HP := hide hp
  have HS0 := hide hm.la
  have HS1 := hide hm.lc
  clear hrow hm hp hB
  go_enter Try.func25, Try.ntmps25
  go_wp2_with fail
  have hsz : (w.alloc (.cells #[.int .i64 kind, .string s, .string t, .slice ba bn bc, .int .i64 N, .int .i64 M, .int .i64 E, .slice ka kn kc] 49)).heap.size = w.heap.size + 1 := by simp
  have HB1 := hide (show B ≤ (w.alloc (.cells #[.int .i64 kind, .string s, .string t, .slice ba bn bc, .int .i64 N, .int .i64 M, .int .i64 E, .slice ka kn kc] 49)).heap.size by rw [hsz]; have := HB.out; omega)
  clear hsz
  generalize hw0 : (w.alloc (.cells #[.int .i64 kind, .string s, .string t, .slice ba bn bc, .int .i64 N, .int .i64 M, .int .i64 E, .slice ka kn kc] 49)) = w0 at *
  generalize hg0 : w.heap.size = g at *
  clear hw0
  refine (pick_any kind w0).mono ?_
  rintro e w1 ⟨rfl, hw1⟩
  subst hw1
  rw [HP.out]
  have a1 : w1.cell? ⟨g, 1, none⟩ = some (.string s) := cell_of_row w1 g 1 _ 49 (0, 0) HR.out
  have TD := hide ((Turns.refl (fun _ => False) w1).drew)
  have HC := hide (sync_pair (HM.out.quiet TD.out) (Nat.le_trans HB1.out TD.out.size) hi hb s hs)
  go_wp2_with fail
  go_region_held (fun w' => w'.cell? ⟨g, 1, none⟩ = some (.string s)) (first | (with_reducible exact h1) | (with_reducible exact f1) | (simp only [World.cell?_drew]; with_reducible exact a1)) (first
    | (go_at_call 14; refine HC.out.mono ?_; rintro e w2 ⟨z, rfl, t2, c2⟩; have f1 := t2.cell (p := ⟨g, 1, none⟩) (v := .string s) a1 HG.out; have T2 := hide t2; have C2 := hide c2; clear t2 c2)
    | (go_at_call 57; refine C2.out.mono ?_; rintro e w3 ⟨rfl, c3⟩; have h1 := c3.1.cell (p := ⟨g, 1, none⟩) (v := .string s) a1 HG.out; have C3 := hide c3; clear c3))
  go_wp2_with fail
  go_ret
  exact ⟨by simp, fin_from HT.out (fin_from (TD.out.mono fun _ _ x => x.elim) C3.out)⟩
set_option maxRecDepth 100000 in
set_option maxHeartbeats 4000000 in
theorem act_5 (hm : Mem2 B f q w d r A C) (hB : B ≤ w.heap.size) (hi : Inv i rho d r) (hb : i ≤ 900) (kind N M E : Int) (s t : ByteArray) (ba ka : Option Addr) (bn bc kn kc : Nat) (hs : s.size ≤ 300) (hp : pickZ kind 12 = 5) :
    Calls Try.prog 25 #[.pointer (some ⟨f, 0, none⟩), .pointer (some ⟨q, 0, none⟩), .agg #[.int .i64 kind, .string s, .string t, .slice ba bn bc, .int .i64 N, .int .i64 M, .int .i64 E, .slice ka kn kc]] w fun e w' => e = .returned (.bool true) ∧ Fin B i f q A C w w' := by
  have hrow : (w.alloc (.cells #[.int .i64 kind, .string s, .string t, .slice ba bn bc, .int .i64 N, .int .i64 M, .int .i64 E, .slice ka kn kc] 49)).heap[w.heap.size]? = some (.cells #[.int .i64 kind, .string s, .string t, .slice ba bn bc, .int .i64 N, .int .i64 M, .int .i64 E, .slice ka kn kc] 49 (0, 0)) := heap_alloc_new w _
  have HR := hide hrow
  have HG := hide hm.alone
  have HT := hide ((Turns.refl (AC A C) w).alloc (.cells #[.int .i64 kind, .string s, .string t, .slice ba bn bc, .int .i64 N, .int .i64 M, .int .i64 E, .slice ka kn kc] 49))
  have HM := hide (hm.quiet ((Turns.refl _ w).alloc (.cells #[.int .i64 kind, .string s, .string t, .slice ba bn bc, .int .i64 N, .int .i64 M, .int .i64 E, .slice ka kn kc] 49)))
  have HB := hide hB
  have HP := hide hp
  have HS0 := hide hm.la
  have HS1 := hide hm.lc
  clear hrow hm hp hB
  go_enter Try.func25, Try.ntmps25
  go_wp2_with fail
  have hsz : (w.alloc (.cells #[.int .i64 kind, .string s, .string t, .slice ba bn bc, .int .i64 N, .int .i64 M, .int .i64 E, .slice ka kn kc] 49)).heap.size = w.heap.size + 1 := by simp
  have HB1 := hide (show B ≤ (w.alloc (.cells #[.int .i64 kind, .string s, .string t, .slice ba bn bc, .int .i64 N, .int .i64 M, .int .i64 E, .slice ka kn kc] 49)).heap.size by rw [hsz]; have := HB.out; omega)
  clear hsz
  generalize hw0 : (w.alloc (.cells #[.int .i64 kind, .string s, .string t, .slice ba bn bc, .int .i64 N, .int .i64 M, .int .i64 E, .slice ka kn kc] 49)) = w0 at *
  generalize hg0 : w.heap.size = g at *
  clear hw0
  refine (pick_any kind w0).mono ?_
  rintro e w1 ⟨rfl, hw1⟩
  subst hw1
  rw [HP.out]
  have a1 : w1.cell? ⟨g, 1, none⟩ = some (.string s) := cell_of_row w1 g 1 _ 49 (0, 0) HR.out
  have TD := hide ((Turns.refl (fun _ => False) w1).drew)
  have HC := hide (remove_pair (HM.out.quiet TD.out) (Nat.le_trans HB1.out TD.out.size) hi hb s hs)
  go_wp2_with fail
  go_region_held (fun w' => w'.cell? ⟨g, 1, none⟩ = some (.string s)) (first | (with_reducible exact h1) | (with_reducible exact f1) | (simp only [World.cell?_drew]; with_reducible exact a1)) (first
    | (go_at_call 29; refine HC.out.mono ?_; rintro e w2 ⟨z, rfl, t2, c2⟩; have f1 := t2.cell (p := ⟨g, 1, none⟩) (v := .string s) a1 HG.out; have T2 := hide t2; have C2 := hide c2; clear t2 c2)
    | (go_at_call 60; refine C2.out.mono ?_; rintro e w3 ⟨rfl, c3⟩; have h1 := c3.1.cell (p := ⟨g, 1, none⟩) (v := .string s) a1 HG.out; have C3 := hide c3; clear c3))
  go_wp2_with fail
  go_ret
  exact ⟨by simp, fin_from HT.out (fin_from (TD.out.mono fun _ _ x => x.elim) C3.out)⟩
end
end Go.Proofs.Ytefjljdgdoklmaa

/-
  A call of both file systems, as the law makes it: Rename, Fault, Turn.
-/
namespace Go.Proofs.Ytefjljdgdoklmaa
open Go.RowKit Go.Maps Go.Sort
section
variable {B i f q : Nat} {w : World} {d : Disk} {r : RDisk} {A C : Nat → Prop} {rho : Nat → Nat}
set_option maxRecDepth 100000 in
set_option maxHeartbeats 4000000 in
theorem act_4 (hm : Mem2 B f q w d r A C) (hB : B ≤ w.heap.size) (hi : Inv i rho d r) (hb : i ≤ 900) (kind N M E : Int) (s t : ByteArray) (ba ka : Option Addr) (bn bc kn kc : Nat) (hs : s.size ≤ 300) (ht : t.size ≤ 300) (hp : pickZ kind 12 = 4) :
    Calls Try.prog 25 #[.pointer (some ⟨f, 0, none⟩), .pointer (some ⟨q, 0, none⟩), .agg #[.int .i64 kind, .string s, .string t, .slice ba bn bc, .int .i64 N, .int .i64 M, .int .i64 E, .slice ka kn kc]] w fun e w' => e = .returned (.bool true) ∧ Fin B i f q A C w w' := by
  have hrow : (w.alloc (.cells #[.int .i64 kind, .string s, .string t, .slice ba bn bc, .int .i64 N, .int .i64 M, .int .i64 E, .slice ka kn kc] 49)).heap[w.heap.size]? = some (.cells #[.int .i64 kind, .string s, .string t, .slice ba bn bc, .int .i64 N, .int .i64 M, .int .i64 E, .slice ka kn kc] 49 (0, 0)) := heap_alloc_new w _
  have HR := hide hrow
  have HG := hide hm.alone
  have HT := hide ((Turns.refl (AC A C) w).alloc (.cells #[.int .i64 kind, .string s, .string t, .slice ba bn bc, .int .i64 N, .int .i64 M, .int .i64 E, .slice ka kn kc] 49))
  have HM := hide (hm.quiet ((Turns.refl _ w).alloc (.cells #[.int .i64 kind, .string s, .string t, .slice ba bn bc, .int .i64 N, .int .i64 M, .int .i64 E, .slice ka kn kc] 49)))
  have HB := hide hB
  have HP := hide hp
  have HS0 := hide hm.la
  have HS1 := hide hm.lc
  clear hrow hm hp hB
  go_enter Try.func25, Try.ntmps25
  go_wp2_with fail
  have hsz : (w.alloc (.cells #[.int .i64 kind, .string s, .string t, .slice ba bn bc, .int .i64 N, .int .i64 M, .int .i64 E, .slice ka kn kc] 49)).heap.size = w.heap.size + 1 := by simp
  have HB1 := hide (show B ≤ (w.alloc (.cells #[.int .i64 kind, .string s, .string t, .slice ba bn bc, .int .i64 N, .int .i64 M, .int .i64 E, .slice ka kn kc] 49)).heap.size by rw [hsz]; have := HB.out; omega)
  clear hsz
  generalize hw0 : (w.alloc (.cells #[.int .i64 kind, .string s, .string t, .slice ba bn bc, .int .i64 N, .int .i64 M, .int .i64 E, .slice ka kn kc] 49)) = w0 at *
  generalize hg0 : w.heap.size = g at *
  clear hw0
  refine (pick_any kind w0).mono ?_
  rintro e w1 ⟨rfl, hw1⟩
  subst hw1
  rw [HP.out]
  have a1 : w1.cell? ⟨g, 1, none⟩ = some (.string s) := cell_of_row w1 g 1 _ 49 (0, 0) HR.out
  have a2 : w1.cell? ⟨g, 2, none⟩ = some (.string t) := cell_of_row w1 g 2 _ 49 (0, 0) HR.out
  have TD := hide ((Turns.refl (fun _ => False) w1).drew)
  have HC := hide (rename_pair (HM.out.quiet TD.out) (Nat.le_trans HB1.out TD.out.size) hi hb s t hs ht)
  go_wp2_with fail
  go_region_held (fun w' => w'.cell? ⟨g, 1, none⟩ = some (.string s) ∧ w'.cell? ⟨g, 2, none⟩ = some (.string t)) (first | (with_reducible exact ⟨h1, h2⟩) | (with_reducible exact ⟨f1, f2⟩) | (simp only [World.cell?_drew]; with_reducible exact ⟨a1, a2⟩)) (first
    | (go_at_call 15; refine HC.out.mono ?_; rintro e w2 ⟨z, rfl, t2, c2⟩; have f1 := t2.cell (p := ⟨g, 1, none⟩) (v := .string s) a1 HG.out; have f2 := t2.cell (p := ⟨g, 2, none⟩) (v := .string t) a2 HG.out; have T2 := hide t2; have C2 := hide c2; clear t2 c2)
    | (go_at_call 59; refine C2.out.mono ?_; rintro e w3 ⟨rfl, c3⟩; have h1 := c3.1.cell (p := ⟨g, 1, none⟩) (v := .string s) a1 HG.out; have h2 := c3.1.cell (p := ⟨g, 2, none⟩) (v := .string t) a2 HG.out; have C3 := hide c3; clear c3))
  go_wp2_with fail
  go_ret
  exact ⟨by simp, fin_from HT.out (fin_from (TD.out.mono fun _ _ x => x.elim) C3.out)⟩
set_option maxRecDepth 100000 in
set_option maxHeartbeats 4000000 in
theorem act_8 (hm : Mem2 B f q w d r A C) (hB : B ≤ w.heap.size) (hi : Inv i rho d r) (kind N M E : Int) (s t : ByteArray) (ba ka : Option Addr) (bn bc kn kc : Nat) (hN : N ≤ 9223372036854775807) (hp : pickZ kind 12 = 8) :
    Calls Try.prog 25 #[.pointer (some ⟨f, 0, none⟩), .pointer (some ⟨q, 0, none⟩), .agg #[.int .i64 kind, .string s, .string t, .slice ba bn bc, .int .i64 N, .int .i64 M, .int .i64 E, .slice ka kn kc]] w fun e w' => e = .returned (.bool true) ∧ Fin B i f q A C w w' := by
  have hrow : (w.alloc (.cells #[.int .i64 kind, .string s, .string t, .slice ba bn bc, .int .i64 N, .int .i64 M, .int .i64 E, .slice ka kn kc] 49)).heap[w.heap.size]? = some (.cells #[.int .i64 kind, .string s, .string t, .slice ba bn bc, .int .i64 N, .int .i64 M, .int .i64 E, .slice ka kn kc] 49 (0, 0)) := heap_alloc_new w _
  have HR := hide hrow
  have HG := hide hm.alone
  have HT := hide ((Turns.refl (AC A C) w).alloc (.cells #[.int .i64 kind, .string s, .string t, .slice ba bn bc, .int .i64 N, .int .i64 M, .int .i64 E, .slice ka kn kc] 49))
  have HM := hide (hm.quiet ((Turns.refl _ w).alloc (.cells #[.int .i64 kind, .string s, .string t, .slice ba bn bc, .int .i64 N, .int .i64 M, .int .i64 E, .slice ka kn kc] 49)))
  have HB := hide hB
  have HP := hide hp
  have HS0 := hide hm.la
  have HS1 := hide hm.lc
  clear hrow hm hp hB
  go_enter Try.func25, Try.ntmps25
  go_wp2_with fail
  have hsz : (w.alloc (.cells #[.int .i64 kind, .string s, .string t, .slice ba bn bc, .int .i64 N, .int .i64 M, .int .i64 E, .slice ka kn kc] 49)).heap.size = w.heap.size + 1 := by simp
  have HB1 := hide (show B ≤ (w.alloc (.cells #[.int .i64 kind, .string s, .string t, .slice ba bn bc, .int .i64 N, .int .i64 M, .int .i64 E, .slice ka kn kc] 49)).heap.size by rw [hsz]; have := HB.out; omega)
  clear hsz
  generalize hw0 : (w.alloc (.cells #[.int .i64 kind, .string s, .string t, .slice ba bn bc, .int .i64 N, .int .i64 M, .int .i64 E, .slice ka kn kc] 49)) = w0 at *
  generalize hg0 : w.heap.size = g at *
  clear hw0
  refine (pick_any kind w0).mono ?_
  rintro e w1 ⟨rfl, hw1⟩
  subst hw1
  rw [HP.out]
  have a4 : w1.cell? ⟨g, 4, none⟩ = some (.int .i64 N) := cell_of_row w1 g 4 _ 49 (0, 0) HR.out
  have a6 : w1.cell? ⟨g, 6, none⟩ = some (.int .i64 E) := cell_of_row w1 g 6 _ 49 (0, 0) HR.out
  have TD := hide ((Turns.refl (fun _ => False) w1).drew)
  have HC := hide (fault_pair (HM.out.quiet TD.out) (Nat.le_trans HB1.out TD.out.size) hi N E hN)
  go_wp2_with fail
  go_region_held (fun w' => w'.cell? ⟨g, 4, none⟩ = some (.int .i64 N) ∧ w'.cell? ⟨g, 6, none⟩ = some (.int .i64 E)) (first | (with_reducible exact ⟨h4, h6⟩) | (with_reducible exact ⟨f4, f6⟩) | (simp only [World.cell?_drew]; with_reducible exact ⟨a4, a6⟩)) (first
    | (go_at_call 19; refine HC.out.mono ?_; rintro e w2 ⟨z, rfl, t2, c2⟩; have f4 := t2.cell (p := ⟨g, 4, none⟩) (v := .int .i64 N) a4 HG.out; have f6 := t2.cell (p := ⟨g, 6, none⟩) (v := .int .i64 E) a6 HG.out; have T2 := hide t2; have C2 := hide c2; clear t2 c2)
    | (go_at_call 63; refine C2.out.mono ?_; rintro e w3 ⟨rfl, c3⟩; have h4 := c3.1.cell (p := ⟨g, 4, none⟩) (v := .int .i64 N) a4 HG.out; have h6 := c3.1.cell (p := ⟨g, 6, none⟩) (v := .int .i64 E) a6 HG.out; have C3 := hide c3; clear c3))
  go_wp2_with fail
  go_ret
  exact ⟨by simp, fin_from HT.out (fin_from (TD.out.mono fun _ _ x => x.elim) C3.out)⟩
end
end Go.Proofs.Ytefjljdgdoklmaa

/-
  A call of both file systems, as the law makes it: Turn.
-/
namespace Go.Proofs.Ytefjljdgdoklmaa
open Go.RowKit Go.Maps Go.Sort
section
variable {B i f q : Nat} {w : World} {d : Disk} {r : RDisk} {A C : Nat → Prop} {rho : Nat → Nat}
set_option maxRecDepth 100000 in
set_option maxHeartbeats 4000000 in
theorem act_10 (hm : Mem2 B f q w d r A C) (hB : B ≤ w.heap.size) (hi : Inv i rho d r) (hb : i ≤ 900) (kind N M E : Int) (s t : ByteArray) (ba ka : Option Addr) (bn bc kn kc : Nat) (hs : s.size ≤ 300) (hp : pickZ kind 12 = 10) :
    Calls Try.prog 25 #[.pointer (some ⟨f, 0, none⟩), .pointer (some ⟨q, 0, none⟩), .agg #[.int .i64 kind, .string s, .string t, .slice ba bn bc, .int .i64 N, .int .i64 M, .int .i64 E, .slice ka kn kc]] w fun e w' => e = .returned (.bool true) ∧ Fin B i f q A C w w' := by
  have hrow : (w.alloc (.cells #[.int .i64 kind, .string s, .string t, .slice ba bn bc, .int .i64 N, .int .i64 M, .int .i64 E, .slice ka kn kc] 49)).heap[w.heap.size]? = some (.cells #[.int .i64 kind, .string s, .string t, .slice ba bn bc, .int .i64 N, .int .i64 M, .int .i64 E, .slice ka kn kc] 49 (0, 0)) := heap_alloc_new w _
  have HR := hide hrow
  have HG := hide hm.alone
  have HT := hide ((Turns.refl (AC A C) w).alloc (.cells #[.int .i64 kind, .string s, .string t, .slice ba bn bc, .int .i64 N, .int .i64 M, .int .i64 E, .slice ka kn kc] 49))
  have HM := hide (hm.quiet ((Turns.refl _ w).alloc (.cells #[.int .i64 kind, .string s, .string t, .slice ba bn bc, .int .i64 N, .int .i64 M, .int .i64 E, .slice ka kn kc] 49)))
  have HB := hide hB
  have HP := hide hp
  have HS0 := hide hm.la
  have HS1 := hide hm.lc
  clear hrow hm hp hB
  go_enter Try.func25, Try.ntmps25
  go_wp2_with fail
  have hsz : (w.alloc (.cells #[.int .i64 kind, .string s, .string t, .slice ba bn bc, .int .i64 N, .int .i64 M, .int .i64 E, .slice ka kn kc] 49)).heap.size = w.heap.size + 1 := by simp
  have HB1 := hide (show B ≤ (w.alloc (.cells #[.int .i64 kind, .string s, .string t, .slice ba bn bc, .int .i64 N, .int .i64 M, .int .i64 E, .slice ka kn kc] 49)).heap.size by rw [hsz]; have := HB.out; omega)
  clear hsz
  generalize hw0 : (w.alloc (.cells #[.int .i64 kind, .string s, .string t, .slice ba bn bc, .int .i64 N, .int .i64 M, .int .i64 E, .slice ka kn kc] 49)) = w0 at *
  generalize hg0 : w.heap.size = g at *
  clear hw0
  refine (pick_any kind w0).mono ?_
  rintro e w1 ⟨rfl, hw1⟩
  subst hw1
  rw [HP.out]
  have a1 : w1.cell? ⟨g, 1, none⟩ = some (.string s) := cell_of_row w1 g 1 _ 49 (0, 0) HR.out
  have a4 : w1.cell? ⟨g, 4, none⟩ = some (.int .i64 N) := cell_of_row w1 g 4 _ 49 (0, 0) HR.out
  have a5 : w1.cell? ⟨g, 5, none⟩ = some (.int .i64 M) := cell_of_row w1 g 5 _ 49 (0, 0) HR.out
  have TD := hide ((Turns.refl (fun _ => False) w1).drew)
  obtain ⟨b, hcv⟩ : ∃ b : BitVec 8, ∀ w, (convert 3 5 (.int .i64 M)).run Try.prog w = .ok (.int .u8 (b.toNat : Int)) w := ⟨BitVec.ofInt 8 M, fun w => by
    rw [show ((BitVec.ofInt 8 M).toNat : Int) = M % 256 by rw [BitVec.toNat_ofInt]; omega]
    kernel_rfl⟩
  have HC := hide (turn_pair (HM.out.quiet TD.out) (Nat.le_trans HB1.out TD.out.size) hi hb s hs N b)
  go_wp2_with fail
  go_region_held (fun w' => w'.cell? ⟨g, 1, none⟩ = some (.string s) ∧ w'.cell? ⟨g, 4, none⟩ = some (.int .i64 N) ∧ w'.cell? ⟨g, 5, none⟩ = some (.int .i64 M)) (first | (with_reducible exact ⟨h1, h4, h5⟩) | (with_reducible exact ⟨f1, f4, f5⟩) | (simp only [World.cell?_drew]; with_reducible exact ⟨a1, a4, a5⟩)) (first
    | (go_at_call 30; refine HC.out.mono ?_; rintro e w2 ⟨z, rfl, t2, c2⟩; have f1 := t2.cell (p := ⟨g, 1, none⟩) (v := .string s) a1 HG.out; have f4 := t2.cell (p := ⟨g, 4, none⟩) (v := .int .i64 N) a4 HG.out; have f5 := t2.cell (p := ⟨g, 5, none⟩) (v := .int .i64 M) a5 HG.out; have T2 := hide t2; have C2 := hide c2; clear t2 c2)
    | (go_at_call 65; refine C2.out.mono ?_; rintro e w3 ⟨rfl, c3⟩; have h1 := c3.1.cell (p := ⟨g, 1, none⟩) (v := .string s) a1 HG.out; have h4 := c3.1.cell (p := ⟨g, 4, none⟩) (v := .int .i64 N) a4 HG.out; have h5 := c3.1.cell (p := ⟨g, 5, none⟩) (v := .int .i64 M) a5 HG.out; have C3 := hide c3; clear c3))
  go_wp2_with fail
  go_ret
  exact ⟨by simp, fin_from HT.out (fin_from (TD.out.mono fun _ _ x => x.elim) C3.out)⟩
end
end Go.Proofs.Ytefjljdgdoklmaa

/-
  A call of both file systems, as the law makes it: Read.
-/
namespace Go.Proofs.Ytefjljdgdoklmaa
open Go.RowKit Go.Maps Go.Sort
section
variable {B i f q : Nat} {w : World} {d : Disk} {r : RDisk} {A C : Nat → Prop} {rho : Nat → Nat}
set_option maxRecDepth 100000 in
set_option maxHeartbeats 4000000 in
theorem act_6 (hm : Mem2 B f q w d r A C) (hB : B ≤ w.heap.size) (hi : Inv i rho d r) (hb : i ≤ 900) (kind N M E : Int) (s t : ByteArray) (ba ka : Option Addr) (bn bc kn kc : Nat) (hs : s.size ≤ 300) (hN : N ≤ 9223372036854775807) (hM : M ≤ 9223372036854775807) (hp : pickZ kind 12 = 6) :
    Calls Try.prog 25 #[.pointer (some ⟨f, 0, none⟩), .pointer (some ⟨q, 0, none⟩), .agg #[.int .i64 kind, .string s, .string t, .slice ba bn bc, .int .i64 N, .int .i64 M, .int .i64 E, .slice ka kn kc]] w fun e w' => e = .returned (.bool true) ∧ Fin B i f q A C w w' := by
  have hrow : (w.alloc (.cells #[.int .i64 kind, .string s, .string t, .slice ba bn bc, .int .i64 N, .int .i64 M, .int .i64 E, .slice ka kn kc] 49)).heap[w.heap.size]? = some (.cells #[.int .i64 kind, .string s, .string t, .slice ba bn bc, .int .i64 N, .int .i64 M, .int .i64 E, .slice ka kn kc] 49 (0, 0)) := heap_alloc_new w _
  have HR := hide hrow
  have HG := hide hm.alone
  have HT := hide ((Turns.refl (AC A C) w).alloc (.cells #[.int .i64 kind, .string s, .string t, .slice ba bn bc, .int .i64 N, .int .i64 M, .int .i64 E, .slice ka kn kc] 49))
  have HM := hide (hm.quiet ((Turns.refl _ w).alloc (.cells #[.int .i64 kind, .string s, .string t, .slice ba bn bc, .int .i64 N, .int .i64 M, .int .i64 E, .slice ka kn kc] 49)))
  have HB := hide hB
  have HP := hide hp
  have HS0 := hide hm.la
  have HS1 := hide hm.lc
  clear hrow hm hp hB
  go_enter Try.func25, Try.ntmps25
  go_wp2_with fail
  have hsz : (w.alloc (.cells #[.int .i64 kind, .string s, .string t, .slice ba bn bc, .int .i64 N, .int .i64 M, .int .i64 E, .slice ka kn kc] 49)).heap.size = w.heap.size + 1 := by simp
  have HB1 := hide (show B ≤ (w.alloc (.cells #[.int .i64 kind, .string s, .string t, .slice ba bn bc, .int .i64 N, .int .i64 M, .int .i64 E, .slice ka kn kc] 49)).heap.size by rw [hsz]; have := HB.out; omega)
  clear hsz
  generalize hw0 : (w.alloc (.cells #[.int .i64 kind, .string s, .string t, .slice ba bn bc, .int .i64 N, .int .i64 M, .int .i64 E, .slice ka kn kc] 49)) = w0 at *
  generalize hg0 : w.heap.size = g at *
  clear hw0
  refine (pick_any kind w0).mono ?_
  rintro e w1 ⟨rfl, hw1⟩
  subst hw1
  rw [HP.out]
  have a1 : w1.cell? ⟨g, 1, none⟩ = some (.string s) := cell_of_row w1 g 1 _ 49 (0, 0) HR.out
  have a4 : w1.cell? ⟨g, 4, none⟩ = some (.int .i64 N) := cell_of_row w1 g 4 _ 49 (0, 0) HR.out
  have a5 : w1.cell? ⟨g, 5, none⟩ = some (.int .i64 M) := cell_of_row w1 g 5 _ 49 (0, 0) HR.out
  have HC := hide (read_pair HM.out HB1.out hi hb s (le1000 hs) N M hN hM)
  go_wp2_with fail
  refine HC.out.mono ?_
  rintro e w2 ⟨xa, xm, xc, z, bs, rfl, t2, c2⟩
  have a1 := t2.cell a1 HG.out
  have a4 := t2.cell a4 HG.out
  have a5 := t2.cell a5 HG.out
  have C2 := hide c2
  clear t2 c2
  go_wp2_with fail
  refine C2.out.mono ?_
  rintro e w3 ⟨ya, yc, rfl, b1, b2, hm0, c3⟩
  have C3 := hide c3
  have HS := hide (bytes_same xa ya xm xc yc bs w3 b1 b2 (by omega))
  clear c3 b1 b2 hm0
  go_wp2_with fail
  refine HS.out.mono ?_
  rintro e w4 ⟨rfl, m, rfl⟩
  go_wp2_with fail
  go_ret
  exact ⟨by simp, fin_from HT.out ⟨C3.out.1.drewN m, by
    obtain ⟨rho', d', r', A', C', h1, h2, h3⟩ := C3.out.2
    exact ⟨rho', d', r', A', C', h1.quiet ((Turns.refl _ w3).drewN m), h2, h3⟩⟩⟩
end
end Go.Proofs.Ytefjljdgdoklmaa
