import Derived.Test.YtefjljdgdoklmaaM31
import Derived.Test.YtefjljdgdoklmaaM20
/-
  The two file systems in one memory; a call of each.
-/
namespace Go.Proofs.Ytefjljdgdoklmaa
open Go.RowKit Go.Maps Go.Sort

theorem RRep.keep {A S : Nat → Prop} {w w' : World} {q : Nat} {r : RDisk} (h : RRep A w q r) (t : Turns S w w') (hS : ∀ k, k < w.heap.size → A k → ¬ S k) : RRep A w' q r := by
  obtain ⟨bs, ch, fv, h⟩ := h
  exact ⟨bs, ch, fv, h.keep t hS⟩
theorem RRep.mono {A A' : Nat → Prop} {w : World} {q : Nat} {r : RDisk} (h : RRep A w q r) (hA : ∀ k, k < w.heap.size → A k → A' k) : RRep A' w q r := by
  obtain ⟨bs, ch, fv, h⟩ := h
  exact ⟨bs, ch, fv, h.mono hA⟩
/-- The code's file system among A, the document's among C, all from B on. -/
structure Mem2 (B f q : Nat) (w : World) (d : Disk) (r : RDisk) (A C : Nat → Prop) : Prop where
  rep : Rep A w f d
  rrep : RRep C w q r
  apart : ∀ k, A k → ¬ C k
  la : ∀ k, A k → B ≤ k ∧ k < w.heap.size
  lc : ∀ k, C k → B ≤ k ∧ k < w.heap.size
def AC (A C : Nat → Prop) : Nat → Prop := fun k => A k ∨ C k
section
variable {B f q : Nat} {w w1 w2 : World} {d d1 : Disk} {r r1 : RDisk} {A C : Nat → Prop}
theorem Mem2.code (h : Mem2 B f q w d r A C) (hB : B ≤ w.heap.size) (t : Turns A w w1) (hr : Rep (Grow A w) w1 f d1) : ∃ A', Mem2 B f q w1 d1 r A' C ∧ ∀ k, k < w.heap.size → A' k → A k := by
  refine ⟨fun k => (A k ∨ w.heap.size ≤ k) ∧ k < w1.heap.size, ⟨hr.mono fun k hk h1 => ⟨h1, hk⟩, h.rrep.keep t fun k _ hc ha => h.apart k ha hc, fun k hk hc => ?_, fun k hk => ⟨?_, hk.2⟩, fun k hk => ⟨(h.lc k hk).1, Nat.lt_of_lt_of_le (h.lc k hk).2 t.size⟩⟩, fun k hk h1 => ?_⟩
  · rcases hk.1 with h1 | h1
    · exact h.apart k h1 hc
    · have := (h.lc k hc).2; omega
  · rcases hk.1 with h1 | h1
    · exact (h.la k h1).1
    · omega
  · rcases h1.1 with h1 | h1
    · exact h1
    · omega
theorem Mem2.doc (h : Mem2 B f q w d r A C) (hB : B ≤ w.heap.size) (t : Turns C w w1) (hr : RRep (Grow C w) w1 q r1) : ∃ C', Mem2 B f q w1 d r1 A C' ∧ ∀ k, k < w.heap.size → C' k → C k := by
  refine ⟨fun k => (C k ∨ w.heap.size ≤ k) ∧ k < w1.heap.size, ⟨h.rep.keep t fun k _ ha hc => h.apart k ha hc, hr.mono fun k hk h1 => ⟨h1, hk⟩, fun k hk hc => ?_, fun k hk => ⟨(h.la k hk).1, Nat.lt_of_lt_of_le (h.la k hk).2 t.size⟩, fun k hk => ⟨?_, hk.2⟩⟩, fun k hk h1 => ?_⟩
  · rcases hc.1 with h1 | h1
    · exact h.apart k hk h1
    · have := (h.la k hk).2; omega
  · rcases hk.1 with h1 | h1
    · exact (h.lc k h1).1
    · omega
  · rcases h1.1 with h1 | h1
    · exact h1
    · omega
theorem Mem2.quiet (h : Mem2 B f q w d r A C) (t : Turns (fun _ => False) w w1) : Mem2 B f q w1 d r A C :=
  ⟨h.rep.quiet t, h.rrep.keep t (fun _ _ _ x => x), h.apart, fun k hk => ⟨(h.la k hk).1, Nat.lt_of_lt_of_le (h.la k hk).2 t.size⟩, fun k hk => ⟨(h.lc k hk).1, Nat.lt_of_lt_of_le (h.lc k hk).2 t.size⟩⟩
theorem Rep.grown {A : Nat → Prop} (h : Rep A w1 f d) (w : World) : Rep (Grow A w) w1 f d := h.mono fun _ _ x => .inl x
theorem RRep.grown {A : Nat → Prop} (h : RRep A w1 q r) (w : World) : RRep (Grow A w) w1 q r := h.mono fun _ _ x => .inl x
theorem Turns.ofA (t : Turns A w w1) : Turns (AC A C) w w1 := t.mono fun _ _ x => .inl x
theorem Turns.ofC (t : Turns C w w1) : Turns (AC A C) w w1 := t.mono fun _ _ x => .inr x
/-- Behind a call of each. -/
def Fin (B i f q : Nat) (A C : Nat → Prop) (w w2 : World) : Prop := Turns (AC A C) w w2 ∧ ∃ rho d r A' C', Mem2 B f q w2 d r A' C' ∧ Inv (i + 2) rho d r ∧ ∀ k, k < w.heap.size → AC A' C' k → AC A C k
theorem fin_cd {i : Nat} {rho : Nat → Nat} (h : Mem2 B f q w d r A C) (hB : B ≤ w.heap.size) (t : Turns A w w1) (hr : Rep (Grow A w) w1 f d1) (t2 : Turns C w1 w2) (hr2 : RRep (Grow C w1) w2 q r1) (hv : Inv (i + 2) rho d1 r1) : Fin B i f q A C w w2 := by
  obtain ⟨A', h1, k1⟩ := h.code hB t hr
  obtain ⟨C', h2, k2⟩ := h1.doc (Nat.le_trans hB t.size) t2 hr2
  exact ⟨t.ofA.trans t2.ofC, rho, d1, r1, A', C', h2, hv, fun k hk h => h.imp (k1 k hk) (k2 k (Nat.lt_of_lt_of_le hk t.size))⟩
theorem fin_dc {i : Nat} {rho : Nat → Nat} (h : Mem2 B f q w d r A C) (hB : B ≤ w.heap.size) (t : Turns C w w1) (hr : RRep (Grow C w) w1 q r1) (t2 : Turns A w1 w2) (hr2 : Rep (Grow A w1) w2 f d1) (hv : Inv (i + 2) rho d1 r1) : Fin B i f q A C w w2 := by
  obtain ⟨C', h1, k1⟩ := h.doc hB t hr
  obtain ⟨A', h2, k2⟩ := h1.code (Nat.le_trans hB t.size) t2 hr2
  exact ⟨t.ofC.trans t2.ofA, rho, d1, r1, A', C', h2, hv, fun k hk h => h.imp (k2 k (Nat.lt_of_lt_of_le hk t.size)) (k1 k hk)⟩
theorem Mem2.rrepAt (h : Mem2 B f q w d r A C) (t : Turns A w w1) : RRep C w1 q r := h.rrep.keep t fun k _ hc ha => h.apart k ha hc
theorem Mem2.repAt (h : Mem2 B f q w d r A C) (t : Turns C w w1) : Rep A w1 f d := h.rep.keep t fun k _ ha hc => h.apart k ha hc
end
theorem good_ne {s : ByteArray} (h : goodN s = true) : s ≠ noName := fun e => by
  subst e
  revert h
  decide
theorem guard_right {d : Disk} {b : Bool} (h : (d.guard b).1 = none) : b = true := by
  cases b with
  | false => cases h
  | true => rfl
section
variable {B i f q : Nat} {w : World} {d : Disk} {r : RDisk} {A C : Nat → Prop} {rho : Nat → Nat}
/-- The guard lets both pass. -/
theorem Inv.pass (h : Inv i rho d r) {b : Bool} (hg : (d.guard b).1 = none) : r.begin b = (0, r.tick) ∧ Inv (i + 1) rho d.tick r.tick := by
  have h1 := (h.sim.guard b).2.1 hg
  have h2 := h.guard b
  rw [h1.2.1, h1.2.2] at h2
  exact ⟨Prod.ext h1.1 h1.2.2, h2⟩
theorem Inv.stop (h : Inv i rho d r) {b : Bool} {z : Int} (hg : (d.guard b).1 = some z) : r.begin b = (z, (r.begin b).2) ∧ z ≠ 0 ∧ Inv (i + 1) rho (d.guard b).2 (r.begin b).2 := by
  have h1 := (h.sim.guard b).2.2 z hg
  exact ⟨Prod.ext h1.1 rfl, h1.2, h.guard b⟩
theorem Inv.fileR (h : Inv i rho d r) {s : ByteArray} {g : Nat} {x : Fil} (hs : fileOf d.names s = some g) (hx : d.files g = some x) : fileOf r.now s = some (rho g) ∧ r.files (rho g) = some x :=
  ⟨by rw [h.sim.now, hs]; rfl, by rw [h.sim.files g (h.sim.named hs), hx]⟩
theorem Inv.noneR (h : Inv i rho d r) {s : ByteArray} (hs : fileOf d.names s = none) : fileOf r.now s = none := by rw [h.sim.now, hs]; rfl
theorem le1000 {n : Nat} (h : n ≤ 300) : n ≤ 1000 := by omega
theorem leMax {n : Nat} (h : n ≤ 300) : n ≤ maxLen := Nat.le_trans h (by unfold maxLen; omega)

theorem create_pair (hm : Mem2 B f q w d r A C) (hB : B ≤ w.heap.size) (hi : Inv i rho d r) (hb : i ≤ 900) (name : ByteArray) (hn : name.size ≤ 300) :
    Calls Try.prog 9 #[.pointer (some ⟨f, 0, none⟩), .string name] w fun e w1 => ∃ z : Int, e = .returned (.int .i64 z) ∧ Turns (AC A C) w w1 ∧ Calls Try.prog 56 #[.pointer (some ⟨q, 0, none⟩), .string name] w1 fun e2 w2 => e2 = .returned (.int .i64 z) ∧ Fin B i f q A C w w2 := by
  refine create_rep A f d name w hm.rep (hi.num (by omega)) (leMax hn) _ (fun z w1 e1 hr ht => ?_) (fun e1 g w1 hf hr ht => ?_) (fun e1 hf g w1 hgs hr ht => ?_)
  · refine ⟨z, rfl, ht.ofA, ?_⟩
    obtain ⟨h1, h2, h3⟩ := hi.stop e1
    refine rcreate_rep C q r _ z name w1 (hm.rrepAt ht) (hi.rnum (by omega)) (h3.rnum (by omega)) (le1000 hn) h1 _ (fun _ w2 hr2 ht2 => ⟨rfl, fin_cd hm hB ht hr ht2 hr2 (h3.mono (by omega))⟩) (fun e => absurd e h2) (fun e => absurd e h2)
  · refine ⟨5, rfl, ht.ofA, ?_⟩
    obtain ⟨h1, h3⟩ := hi.pass e1
    have hl := h3.sim.now name
    rw [show fileOf d.tick.names name = some g from hf] at hl
    refine rcreate_rep C q r _ 0 name w1 (hm.rrepAt ht) (hi.rnum (by omega)) (h3.rnum (by omega)) (le1000 hn) h1 _ (fun e => absurd rfl e) (fun _ g' w2 _ hr2 ht2 => ⟨rfl, fin_cd hm hB ht hr ht2 hr2 (h3.mono (by omega))⟩) (fun _ hno => by rw [hl] at hno; cases hno)
  · refine ⟨0, rfl, ht.ofA, ?_⟩
    obtain ⟨h1, h3⟩ := hi.pass e1
    have hl := h3.noneR (s := name) hf
    have hg0 : ¬ d.tick.live g := fun hl => by
      obtain ⟨x, hx⟩ := h3.live g hl
      obtain ⟨bn, bs, ch, fv, h0⟩ := hm.rep
      rw [show d.tick.files g = d.files g from rfl, h0.new hgs] at hx
      cases hx
    refine rcreate_rep C q r _ 0 name w1 (hm.rrepAt ht) (hi.rnum (by omega)) (h3.rnum (by omega)) (le1000 hn) h1 _ (fun e => absurd rfl e) (fun _ g' w2 hno => by rw [hl] at hno; cases hno) (fun _ _ g' w2 hgs' hr2 ht2 => ⟨rfl, fin_cd hm hB ht hr ht2 hr2 (h3.add (good_ne (guard_right e1)) (le1000 hn) hf hg0 (fun k hk e => ?_))⟩)
    obtain ⟨x, hx⟩ := h3.live k hk
    rw [← h3.sim.files k hk, e] at hx
    obtain ⟨bs, ch, fv, h0⟩ := hm.rrepAt ht
    rw [show r.tick.files g' = r.files g' from rfl, h0.new hgs'] at hx
    cases hx
theorem sync_pair (hm : Mem2 B f q w d r A C) (hB : B ≤ w.heap.size) (hi : Inv i rho d r) (hb : i ≤ 900) (name : ByteArray) (hn : name.size ≤ 300) :
    Calls Try.prog 14 #[.pointer (some ⟨f, 0, none⟩), .string name] w fun e w1 => ∃ z : Int, e = .returned (.int .i64 z) ∧ Turns (AC A C) w w1 ∧ Calls Try.prog 57 #[.pointer (some ⟨q, 0, none⟩), .string name] w1 fun e2 w2 => e2 = .returned (.int .i64 z) ∧ Fin B i f q A C w w2 := by
  refine sync_rep A f d name w hm.rep (hi.num (by omega)) (leMax hn) _ (fun z w1 e1 hr ht => ?_) (fun e1 hf w1 hr ht => ?_) (fun e1 g x w1 hf hx hr ht => ?_)
  · refine ⟨z, rfl, ht.ofA, ?_⟩
    obtain ⟨h1, h2, h3⟩ := hi.stop e1
    refine rsync_rep C q r _ z name w1 (hm.rrepAt ht) (hi.rnum (by omega)) (h3.rnum (by omega)) (le1000 hn) h1 _ (fun _ w2 hr2 ht2 => ⟨rfl, fin_cd hm hB ht hr ht2 hr2 (h3.mono (by omega))⟩) (fun e => absurd e h2) (fun e => absurd e h2)
  · refine ⟨6, rfl, ht.ofA, ?_⟩
    obtain ⟨h1, h3⟩ := hi.pass e1
    have hl := h3.noneR (s := name) hf
    refine rsync_rep C q r _ 0 name w1 (hm.rrepAt ht) (hi.rnum (by omega)) (h3.rnum (by omega)) (le1000 hn) h1 _ (fun e => absurd rfl e) (fun _ _ w2 hr2 ht2 => ⟨rfl, fin_cd hm hB ht hr ht2 hr2 (h3.mono (by omega))⟩) (fun _ g' x' w2 hno => by rw [hl] at hno; cases hno)
  · refine ⟨0, rfl, ht.ofA, ?_⟩
    obtain ⟨h1, h3⟩ := hi.pass e1
    obtain ⟨hl, hl2⟩ := h3.fileR (s := name) hf hx
    refine rsync_rep C q r _ 0 name w1 (hm.rrepAt ht) (hi.rnum (by omega)) (h3.rnum (by omega)) (le1000 hn) h1 _ (fun e => absurd rfl e) (fun _ hno => by rw [hl] at hno; cases hno) (fun _ g' x' w2 h4 h5 hr2 ht2 => ?_)
    rw [hl] at h4; cases h4
    rw [hl2] at h5; cases h5
    exact ⟨rfl, fin_cd hm hB ht hr ht2 hr2 ((h3.setF (y := ⟨x.bytes, x.bytes.length⟩) (h3.sim.named hf) hx rfl (Nat.le_refl _)).mono (by omega))⟩
theorem syncdir_pair (hm : Mem2 B f q w d r A C) (hB : B ≤ w.heap.size) (hi : Inv i rho d r) (hb : i ≤ 900) :
    Calls Try.prog 13 #[.pointer (some ⟨f, 0, none⟩)] w fun e w1 => ∃ z : Int, e = .returned (.int .i64 z) ∧ Turns (AC A C) w w1 ∧ Calls Try.prog 58 #[.pointer (some ⟨q, 0, none⟩)] w1 fun e2 w2 => e2 = .returned (.int .i64 z) ∧ Fin B i f q A C w w2 := by
  refine syncdir_rep A f d w hm.rep (hi.num (by omega)) _ (fun z w1 e1 hr ht => ?_) (fun e1 w1 hr ht => ?_)
  · refine ⟨z, rfl, ht.ofA, ?_⟩
    obtain ⟨h1, h2, h3⟩ := hi.stop e1
    refine rsyncdir_rep C q r _ z w1 (hm.rrepAt ht) (hi.rnum (by omega)) (h3.rnum (by omega)) h1 _ (fun _ w2 hr2 ht2 => ⟨rfl, fin_cd hm hB ht hr ht2 hr2 (h3.mono (by omega))⟩) (fun e => absurd e h2)
  · refine ⟨0, rfl, ht.ofA, ?_⟩
    obtain ⟨h1, h3⟩ := hi.pass e1
    refine rsyncdir_rep C q r _ 0 w1 (hm.rrepAt ht) (hi.rnum (by omega)) (h3.rnum (by omega)) h1 _ (fun e => absurd rfl e) (fun _ w2 hr2 ht2 => ⟨rfl, fin_cd hm hB ht hr ht2 hr2 (h3.settled.mono (by omega))⟩)
theorem rename_pair (hm : Mem2 B f q w d r A C) (hB : B ≤ w.heap.size) (hi : Inv i rho d r) (hb : i ≤ 900) (s t : ByteArray) (hs : s.size ≤ 300) (ht0 : t.size ≤ 300) :
    Calls Try.prog 15 #[.pointer (some ⟨f, 0, none⟩), .string s, .string t] w fun e w1 => ∃ z : Int, e = .returned (.int .i64 z) ∧ Turns (AC A C) w w1 ∧ Calls Try.prog 59 #[.pointer (some ⟨q, 0, none⟩), .string s, .string t] w1 fun e2 w2 => e2 = .returned (.int .i64 z) ∧ Fin B i f q A C w w2 := by
  refine rename_rep A f d s t w hm.rep (hi.num (by omega)) (leMax hs) (leMax ht0) _ (fun z w1 e1 hr ht => ?_) (fun e1 hf w1 hr ht => ?_) (fun e1 he g x w1 hf hx hr ht => ?_) (fun e1 he g x w1 hf hx hr ht => ?_)
  · refine ⟨z, rfl, ht.ofA, ?_⟩
    obtain ⟨h1, h2, h3⟩ := hi.stop e1
    refine rrename_rep C q r _ z s t w1 (hm.rrepAt ht) (hi.rnum (by omega)) (h3.rnum (by omega)) (le1000 hs) (le1000 ht0) h1 _ (fun _ w2 hr2 ht2 => ⟨rfl, fin_cd hm hB ht hr ht2 hr2 (h3.mono (by omega))⟩) (fun e => absurd e h2) (fun e => absurd e h2) (fun e => absurd e h2)
  · refine ⟨6, rfl, ht.ofA, ?_⟩
    obtain ⟨h1, h3⟩ := hi.pass e1
    have hl := h3.noneR (s := s) hf
    refine rrename_rep C q r _ 0 s t w1 (hm.rrepAt ht) (hi.rnum (by omega)) (h3.rnum (by omega)) (le1000 hs) (le1000 ht0) h1 _ (fun e => absurd rfl e) (fun _ _ w2 hr2 ht2 => ⟨rfl, fin_cd hm hB ht hr ht2 hr2 (h3.mono (by omega))⟩) (fun _ _ g' x' w2 hno => by rw [hl] at hno; cases hno) (fun _ _ g' x' w2 hno => by rw [hl] at hno; cases hno)
  · refine ⟨0, rfl, ht.ofA, ?_⟩
    obtain ⟨h1, h3⟩ := hi.pass e1
    obtain ⟨hl, hl2⟩ := h3.fileR (s := s) hf hx
    refine rrename_rep C q r _ 0 s t w1 (hm.rrepAt ht) (hi.rnum (by omega)) (h3.rnum (by omega)) (le1000 hs) (le1000 ht0) h1 _ (fun e => absurd rfl e) (fun _ hno => by rw [hl] at hno; cases hno) (fun _ _ g' x' w2 h4 h5 hr2 ht2 => ⟨rfl, fin_cd hm hB ht hr ht2 hr2 (h3.mono (by omega))⟩) (fun _ hne => absurd he hne)
  · refine ⟨0, rfl, ht.ofA, ?_⟩
    obtain ⟨h1, h3⟩ := hi.pass e1
    obtain ⟨hl, hl2⟩ := h3.fileR (s := s) hf hx
    have hgood := guard_right e1
    rw [Bool.and_eq_true] at hgood
    refine rrename_rep C q r _ 0 s t w1 (hm.rrepAt ht) (hi.rnum (by omega)) (h3.rnum (by omega)) (le1000 hs) (le1000 ht0) h1 _ (fun e => absurd rfl e) (fun _ hno => by rw [hl] at hno; cases hno) (fun _ hee => absurd hee he) (fun _ _ g' x' w2 h4 h5 hr2 ht2 => ?_)
    rw [hl] at h4; cases h4
    exact ⟨rfl, fin_cd hm hB ht hr ht2 hr2 (h3.renamed (le1000 hs) (le1000 ht0) (good_ne hgood.2) he hf)⟩
theorem remove_pair (hm : Mem2 B f q w d r A C) (hB : B ≤ w.heap.size) (hi : Inv i rho d r) (hb : i ≤ 900) (name : ByteArray) (hn : name.size ≤ 300) :
    Calls Try.prog 29 #[.pointer (some ⟨f, 0, none⟩), .string name] w fun e w1 => ∃ z : Int, e = .returned (.int .i64 z) ∧ Turns (AC A C) w w1 ∧ Calls Try.prog 60 #[.pointer (some ⟨q, 0, none⟩), .string name] w1 fun e2 w2 => e2 = .returned (.int .i64 z) ∧ Fin B i f q A C w w2 := by
  refine remove_rep A f d name w hm.rep (hi.num (by omega)) (leMax hn) _ (fun z w1 e1 hr ht => ?_) (fun e1 hf w1 hr ht => ?_) (fun e1 g x w1 hf hx hr ht => ?_)
  · refine ⟨z, rfl, ht.ofA, ?_⟩
    obtain ⟨h1, h2, h3⟩ := hi.stop e1
    refine rremove_rep C q r _ z name w1 (hm.rrepAt ht) (hi.rnum (by omega)) (h3.rnum (by omega)) (le1000 hn) h1 _ (fun _ w2 hr2 ht2 => ⟨rfl, fin_cd hm hB ht hr ht2 hr2 (h3.mono (by omega))⟩) (fun e => absurd e h2) (fun e => absurd e h2)
  · refine ⟨6, rfl, ht.ofA, ?_⟩
    obtain ⟨h1, h3⟩ := hi.pass e1
    have hl := h3.noneR (s := name) hf
    refine rremove_rep C q r _ 0 name w1 (hm.rrepAt ht) (hi.rnum (by omega)) (h3.rnum (by omega)) (le1000 hn) h1 _ (fun e => absurd rfl e) (fun _ _ w2 hr2 ht2 => ⟨rfl, fin_cd hm hB ht hr ht2 hr2 (h3.mono (by omega))⟩) (fun _ g' x' w2 hno => by rw [hl] at hno; cases hno)
  · refine ⟨0, rfl, ht.ofA, ?_⟩
    obtain ⟨h1, h3⟩ := hi.pass e1
    obtain ⟨hl, hl2⟩ := h3.fileR (s := name) hf hx
    refine rremove_rep C q r _ 0 name w1 (hm.rrepAt ht) (hi.rnum (by omega)) (h3.rnum (by omega)) (le1000 hn) h1 _ (fun e => absurd rfl e) (fun _ hno => by rw [hl] at hno; cases hno) (fun _ g' x' w2 h4 h5 hr2 ht2 => ?_)
    exact ⟨rfl, fin_cd hm hB ht hr ht2 hr2 (h3.removed (le1000 hn) hf hx)⟩
theorem append_pair (hm : Mem2 B f q w d r A C) (hB : B ≤ w.heap.size) (hi : Inv i rho d r) (hb : i ≤ 900) (name : ByteArray) (hn : name.size ≤ 300) (a a' : Option Addr) (n c c' : Nat) (news : List (BitVec 8)) (hw : Bytes w (.slice a n c) news) (hw' : Bytes w (.slice a' n c') news) (hl : n ≤ 300) (ha : ∀ p o, a = some ⟨p, o, none⟩ → ¬ A p ∧ ¬ C p) (ha' : ∀ p o, a' = some ⟨p, o, none⟩ → 0 < n → ¬ A p ∧ ¬ C p) :
    Calls Try.prog 10 #[.pointer (some ⟨f, 0, none⟩), .string name, .slice a n c] w fun e w1 => ∃ z : Int, e = .returned (.int .i64 z) ∧ Turns (AC A C) w w1 ∧ Calls Try.prog 66 #[.pointer (some ⟨q, 0, none⟩), .string name, .slice a' n c'] w1 fun e2 w2 => e2 = .returned (.int .i64 z) ∧ Fin B i f q A C w w2 := by
  have hnl := hw.len
  have hqC : C q := by obtain ⟨bs, ch, fv, h0⟩ := hm.rrep; exact h0.af
  have hbq : ∀ p o, a' = some ⟨p, o, none⟩ → 0 < n → p ≠ q := fun p o e h0 e2 => (ha' p o e h0).2 (e2 ▸ hqC)
  refine append_rep A f d name a n c news w hm.rep (hi.num (by omega)) (leMax hn) hw (fun p o e e2 => (ha p o e).1 (e2 ▸ hm.rep.af)) _ (fun z w1 e1 hr ht => ?_) (fun e1 hf w1 hr ht => ?_) (fun e1 g x w1 hf hx hro hr ht => ?_) (fun e1 g x w1 hf hx hro hr ht => ?_)
  · refine ⟨z, rfl, ht.ofA, ?_⟩
    obtain ⟨h1, h2, h3⟩ := hi.stop e1
    refine rappend_rep C q r _ z name a' n c' news w1 (hm.rrepAt ht) (hi.rnum (by omega)) (h3.rnum (by omega)) (le1000 hn) h1 (h3.fits (by omega)) (hw'.keep0 ht fun p o e h0 => (ha' p o e h0).1) hbq (by omega) _ (fun _ w2 hr2 ht2 => ⟨rfl, fin_cd hm hB ht hr ht2 hr2 (h3.mono (by omega))⟩) (fun e => absurd e h2) (fun e => absurd e h2) (fun e => absurd e h2)
  · refine ⟨6, rfl, ht.ofA, ?_⟩
    obtain ⟨h1, h3⟩ := hi.pass e1
    have hl := h3.noneR (s := name) hf
    refine rappend_rep C q r _ 0 name a' n c' news w1 (hm.rrepAt ht) (hi.rnum (by omega)) (h3.rnum (by omega)) (le1000 hn) h1 (h3.fits (by omega)) (hw'.keep0 ht fun p o e h0 => (ha' p o e h0).1) hbq (by omega) _ (fun e => absurd rfl e) (fun _ _ w2 hr2 ht2 => ⟨rfl, fin_cd hm hB ht hr ht2 hr2 (h3.mono (by omega))⟩) (fun _ g' x' ls w2 hno => by rw [hl] at hno; cases hno) (fun _ g' x' ls w2 hno => by rw [hl] at hno; cases hno)
  · refine ⟨7, rfl, ht.ofA, ?_⟩
    obtain ⟨h1, h3⟩ := hi.pass e1
    obtain ⟨hl, hl2⟩ := h3.fileR (s := name) hf hx
    refine rappend_rep C q r _ 0 name a' n c' news w1 (hm.rrepAt ht) (hi.rnum (by omega)) (h3.rnum (by omega)) (le1000 hn) h1 (h3.fits (by omega)) (hw'.keep0 ht fun p o e h0 => (ha' p o e h0).1) hbq (by omega) _ (fun e => absurd rfl e) (fun _ hno => by rw [hl] at hno; cases hno) (fun _ g' x' ls w2 h4 h5 h6 h7 hr2 ht2 => ⟨rfl, fin_cd hm hB ht hr ht2 hr2 (h3.mono (by omega))⟩) (fun _ g' x' ls w2 h4 h5 h6 h7 => ?_)
    have h8 := h3.acc.used h3.sim h6
    have h9 := h3.sim.limit
    have h10 : d.tick.used = d.used := rfl
    have h11 : d.tick.limit = d.limit := rfl
    omega
  · refine ⟨0, rfl, ht.ofA, ?_⟩
    obtain ⟨h1, h3⟩ := hi.pass e1
    obtain ⟨hl, hl2⟩ := h3.fileR (s := name) hf hx
    refine rappend_rep C q r _ 0 name a' n c' news w1 (hm.rrepAt ht) (hi.rnum (by omega)) (h3.rnum (by omega)) (le1000 hn) h1 (h3.fits (by omega)) (hw'.keep0 ht fun p o e h0 => (ha' p o e h0).1) hbq (by omega) _ (fun e => absurd rfl e) (fun _ hno => by rw [hl] at hno; cases hno) (fun _ g' x' ls w2 h4 h5 h6 h7 => ?_) (fun _ g' x' ls w2 h4 h5 h6 h7 hr2 ht2 => ?_)
    · have h8 := h3.acc.used h3.sim h6
      have h9 := h3.sim.limit
      have h10 : d.tick.used = d.used := rfl
      have h11 : d.tick.limit = d.limit := rfl
      omega
    · rw [hl] at h4; cases h4
      rw [hl2] at h5; cases h5
      exact ⟨rfl, fin_cd hm hB ht hr ht2 hr2 (h3.put hx (h3.sim.named hf) ⟨name, hf⟩ news (by omega) hro)⟩
theorem turn_pair (hm : Mem2 B f q w d r A C) (hB : B ≤ w.heap.size) (hi : Inv i rho d r) (hb : i ≤ 900) (name : ByteArray) (hn : name.size ≤ 300) (at_ : Int) (b : BitVec 8) :
    Calls Try.prog 30 #[.pointer (some ⟨f, 0, none⟩), .string name, .int .i64 at_, .int .u8 (b.toNat : Int)] w fun e w1 => ∃ z : Int, e = .returned (.int .i64 z) ∧ Turns (AC A C) w w1 ∧ Calls Try.prog 65 #[.pointer (some ⟨q, 0, none⟩), .string name, .int .i64 at_, .int .u8 (b.toNat : Int)] w1 fun e2 w2 => e2 = .returned (.int .i64 z) ∧ Fin B i f q A C w w2 := by
  have hA0 : Turns A w w := Turns.refl _ _
  refine turn_rep A f d name at_ b w hm.rep (leMax hn) _ (fun hf => ?_) (fun g x hf hx ho => ?_) (fun g x k w1 hf hx hk hkl hr ht => ?_)
  · refine ⟨6, rfl, hA0.ofA, ?_⟩
    have hl := hi.noneR (s := name) hf
    exact rturn_rep C q r name at_ b w hm.rrep (hi.rnum (by omega)) (leMax hn) _ (fun _ w2 hr2 ht2 => ⟨rfl, fin_cd hm hB hA0 (hm.rep.grown w) (ht2.mono fun _ _ x => x.elim) (hr2.grown w) (hi.mono (by omega))⟩) (fun g' x' w2 h4 => by rw [hl] at h4; cases h4) (fun g' x' k w2 h4 => by rw [hl] at h4; cases h4)
  · refine ⟨2, rfl, hA0.ofA, ?_⟩
    obtain ⟨hl, hl2⟩ := hi.fileR (s := name) hf hx
    refine rturn_rep C q r name at_ b w hm.rrep (hi.rnum (by omega)) (leMax hn) _ (fun h4 => by rw [hl] at h4; cases h4) (fun g' x' w2 h4 h5 h6 hr2 ht2 => ⟨rfl, fin_cd hm hB hA0 (hm.rep.grown w) (ht2.mono fun _ _ x => x.elim) (hr2.grown w) (hi.mono (by omega))⟩) (fun g' x' k w2 h4 h5 h6 h7 => ?_)
    rw [hl] at h4; cases h4
    rw [hl2] at h5; cases h5
    omega
  · refine ⟨0, rfl, ht.ofA, ?_⟩
    obtain ⟨hl, hl2⟩ := hi.fileR (s := name) hf hx
    refine rturn_rep C q r name at_ b w1 (hm.rrepAt ht) (hi.rnum (by omega)) (leMax hn) _ (fun h4 => by rw [hl] at h4; cases h4) (fun g' x' w2 h4 h5 h6 => ?_) (fun g' x' k' w2 h4 h5 h6 h7 hr2 ht2 => ?_)
    · rw [hl] at h4; cases h4
      rw [hl2] at h5; cases h5
      omega
    · rw [hl] at h4; cases h4
      rw [hl2] at h5; cases h5
      obtain rfl : k = k' := by omega
      have hlen : (turnAt x.bytes k b).length = x.bytes.length := by unfold turnAt; rw [List.length_modify]
      exact ⟨rfl, fin_cd hm hB ht (hr.grown w) ht2 hr2 ((hi.setF (y := ⟨turnAt x.bytes k b, x.synced⟩) (hi.sim.named hf) hx hlen (by show x.synced ≤ (turnAt x.bytes k b).length; rw [hlen]; exact (hi.bytes g x hx).2)).mono (by omega))⟩
theorem fault_pair (hm : Mem2 B f q w d r A C) (hB : B ≤ w.heap.size) (hi : Inv i rho d r) (n z : Int) (hn : n ≤ 9223372036854775807) :
    Calls Try.prog 19 #[.pointer (some ⟨f, 0, none⟩), .int .i64 n, .int .i64 z] w fun e w1 => ∃ y : Int, e = .returned (.int .i64 y) ∧ Turns (AC A C) w w1 ∧ Calls Try.prog 63 #[.pointer (some ⟨q, 0, none⟩), .int .i64 n, .int .i64 z] w1 fun e2 w2 => e2 = .returned (.int .i64 y) ∧ Fin B i f q A C w w2 := by
  by_cases hz : z = 7 ∨ z = 8
  · refine (fault_rep A f d n z w hm.rep hz).mono ?_
    rintro e w1 ⟨rfl, hr, ht⟩
    refine ⟨0, rfl, ht.ofA, ?_⟩
    refine (rfault_rep C q r n z w1 (hm.rrepAt ht) hz).mono ?_
    rintro e w2 ⟨rfl, hr2, ht2⟩
    exact ⟨rfl, fin_cd hm hB ht (hr.grown w) ht2 (hr2.grown w1) ((hi.faulted hn (by omega)).mono (by omega))⟩
  · refine (fault_bad A f d n z w hm.rep (fun e => hz (.inl e)) (fun e => hz (.inr e))).mono ?_
    rintro e w1 ⟨rfl, rfl⟩
    refine ⟨2, rfl, Turns.refl _ _, ?_⟩
    refine (rfault_bad q n z w1 (fun e => hz (.inl e)) (fun e => hz (.inr e))).mono ?_
    rintro e w2 ⟨rfl, rfl⟩
    exact ⟨rfl, Turns.refl _ _, rho, d, r, A, C, hm, hi.mono (by omega), fun _ _ h => h⟩
theorem fuse_pair (hm : Mem2 B f q w d r A C) (hB : B ≤ w.heap.size) (hi : Inv i rho d r) (n : Int) (hn : n ≤ 9223372036854775807) :
    Calls Try.prog 62 #[.pointer (some ⟨q, 0, none⟩), .int .i64 n] w fun e w1 => (∃ v, e = .returned v) ∧ Turns (AC A C) w w1 ∧ Calls Try.prog 17 #[.pointer (some ⟨f, 0, none⟩), .int .i64 n] w1 fun e2 w2 => e2 = .returned (.int .i64 0) ∧ Fin B i f q A C w w2 := by
  refine (rfuse_rep C q r n w hm.rrep).mono ?_
  rintro e w1 ⟨hv, hr, ht⟩
  refine ⟨hv, ht.ofC, ?_⟩
  refine (fuse_rep A f d n w1 (hm.repAt ht)).mono ?_
  rintro e w2 ⟨rfl, hr2, ht2⟩
  exact ⟨rfl, fin_dc hm hB ht (hr.grown w) ht2 (hr2.grown w1) ((hi.fused hn).mono (by omega))⟩
end
end Go.Proofs.Ytefjljdgdoklmaa
