import Derived.Test.YtefjljdgdoklmaaM16
import Derived.Test.YtefjljdgdoklmaaM09
/-
  The document's Create: the walk.
-/
namespace Go.Proofs.Ytefjljdgdoklmaa
open Go.RowKit Go.Maps

def RDisk.add (r : RDisk) (name : ByteArray) (g : Nat) : RDisk := (r.setF g ⟨[], 0⟩).change ⟨⟨#[]⟩, name, some g⟩

set_option maxRecDepth 100000 in
set_option maxHeartbeats 2000000 in
theorem rcreate_rep (A : Nat → Prop) (q : Nat) (r r1 : RDisk) (z : Int) (name : ByteArray) (w : World) (h : RRep A w q r) (hn : RNum r) (hn1 : RNum r1) (hnm : name.size ≤ 1000) (hz : r.begin (goodN name) = (z, r1)) (R : Ending → World → Prop)
    (HE : z ≠ 0 → ∀ w', RRep (Grow A w) w' q r1 → Turns A w w' → R (.returned (.int .i64 z)) w')
    (HT : z = 0 → ∀ g w', fileOf r1.now name = some g → RRep (Grow A w) w' q r1 → Turns A w w' → R (.returned (.int .i64 5)) w')
    (HN : z = 0 → fileOf r1.now name = none → ∀ g w', w.heap.size ≤ g → RRep (Grow A w) w' q (r1.add name g) → Turns A w w' → R (.returned (.int .i64 0)) w') :
    Calls Try.prog 56 #[.pointer (some ⟨q, 0, none⟩), .string name] w R := by
  obtain ⟨bs, ch, fv, h⟩ := h
  have t0 : Turns (fun _ => False) w (w.alloc (.cells #[.string name] 9)) := (Turns.refl _ w).alloc _
  have hB := rbegin_rep A q r (some ⟨w.heap.size, 0, none⟩) 1 1 [name] _ bs ch fv (h.quiet t0) hn (strs_one w name) (by decide) (fun s hs => by simp at hs; rw [hs]; exact hnm)
  rw [show [name].all goodN = goodN name by simp, hz] at hB
  have HB := hide hB
  have hqa := h.af
  have hsz0 := t0.size
  have HEE := hide HE
  have HTT := hide HT
  have HNN := hide HN
  have T0 := hide t0
  have HN1 := hide hn1
  have hqw := lt_of_heap h.cells
  clear hB h hn hz HE HT HN t0 hn1
  go_enter Try.func56, Try.ntmps56
  go_wp2_with fail
  refine HB.out.mono ?_
  rintro e w1 ⟨rfl, r1r, t1⟩
  have R1 := hide r1r
  have tw1 : Turns (fun k => k = q) w w1 := (T0.out.mono fun _ _ x => x.elim).trans t1
  have TW1 := hide tw1
  have hsz1 := tw1.size
  clear r1r t1 tw1 HB
  by_cases hz0 : z = 0
  · subst hz0
    go_wp2_with fail
    refine (rnow_rep A q r1 w1 ⟨bs, ch, fv, R1.out⟩ HN1.out).mono ?_
    rintro e w2 ⟨N, rfl, d2, b2⟩
    have hlk := d2.look81 name (by unfold maxLen; omega)
    have t2 : Turns (fun _ => False) w1 w2 := Turns.of_below b2 _
    have R2 := hide (R1.out.quiet t2)
    have TW2 := hide (TW1.out.trans (t2.mono fun _ _ x => x.elim))
    have hsz2 := t2.size
    clear d2 b2 t2 R1 TW1
    cases hfile : fileOf r1.now name with
    | some g =>
      rw [hfile] at hlk
      simp only [ptrOf] at hlk
      have HF := hide (HTT.out (by trivial) g w2 hfile ⟨bs, ch, fv, R2.out.mono fun k _ hk => .inl hk⟩ (TW2.out.mono fun k _ e => by rw [e]; exact hqa))
      clear hfile
      go_wp2_with fail
      exact HF.out
    | none =>
      rw [hfile] at hlk
      simp only [ptrOf] at hlk
      have ta : Turns (fun _ => False) w2 (w2.alloc (.cells #[.slice none 0 0, .int .i64 0] 95)) := (Turns.refl _ w2).alloc _
      have Ra := R2.out.fresh (Nat.le_refl _) ta (heap_alloc_new w2 _)
      have ea : (w2.alloc (.cells #[.slice none 0 0, .int .i64 0] 95)).heap.size = w2.heap.size + 1 := by simp
      have tb : Turns (fun _ => False) (w2.alloc (.cells #[.slice none 0 0, .int .i64 0] 95)) ((w2.alloc (.cells #[.slice none 0 0, .int .i64 0] 95)).alloc (.cells #[.string name, .pointer (some ⟨w2.heap.size, 0, none⟩), .string ⟨#[]⟩] 97)) := (Turns.refl _ _).alloc _
      have Rb := Ra.quiet tb
      have hrow := heap_alloc_new (w2.alloc (.cells #[.slice none 0 0, .int .i64 0] 95)) (.cells #[.string name, .pointer (some ⟨w2.heap.size, 0, none⟩), .string ⟨#[]⟩] 97)
      rw [ea] at hrow
      obtain ⟨g3, n3, c3, w3, hr3, hl3, t3, hin3⟩ := append_rchg _ ch (r1.setF w2.heap.size ⟨[], 0⟩).changes Rb.chs (by have := HN1.out.changes; show r1.changes.length ≤ 1000000000; omega) ⟨⟨#[]⟩, name, some w2.heap.size⟩ ⟨w2.heap.size + 1, 0, none⟩ 1 (fun j u hu => by
        rw [Go.WideShapes.add_plain, Nat.zero_add, cell_of_row _ _ _ _ _ _ hrow, List.getElem?_toArray]
        exact hu)
      have hq2 : w2.cell? ⟨q, 2, none⟩ = some ch := cell_of_row w2 q 2 _ 84 (0, 0) R2.out.cells
      have hc3 := t3.heap Rb.cells (fun e => (Rb.chrow e).1 rfl)
      have y3 : w3.cell? ⟨q, 2, none⟩ = some ch := cell_of_row w3 q 2 _ 84 (0, 0) hc3
      have z3 : w3.frozen? ⟨q, 2, none⟩ = false := frozen_of_row w3 q 2 _ 84 hc3
      have t4 := (Tick.refl hc3).set 2 (.slice (some ⟨g3, 0, none⟩) n3 c3)
      have u4 := Turns.of_tick t4
      have hin4 : ∀ k, inRow (.slice (some ⟨g3, 0, none⟩) n3 c3) k → ¬ k = q := fun k hk e => by
        obtain ⟨cs, hc⟩ := hl3.row hk
        rw [e] at hc
        exact absurd (one_type hc3 hc) (by decide)
      have hszb : w2.heap.size ≤ ((w2.alloc (.cells #[.slice none 0 0, .int .i64 0] 95)).alloc (.cells #[.string name, .pointer (some ⟨w2.heap.size, 0, none⟩), .string ⟨#[]⟩] 97)).heap.size := Nat.le_trans ta.size tb.size
      have Rc := Rb.changed (w' := w3.setCell ⟨q, 2, none⟩ (.slice (some ⟨g3, 0, none⟩) n3 c3)) ⟨⟨#[]⟩, name, some w2.heap.size⟩ (ch' := .slice (some ⟨g3, 0, none⟩) n3 c3) t4.1 (hl3.keep u4 hin4) ((t3.mono fun k _ e => .inr e).trans (u4.mono fun k _ e => .inl e)) hin3 (fun g hg => by
        obtain rfl : w2.heap.size = g := by simpa using hg
        exact ⟨⟨[], 0⟩, by simp [RDisk.setF]⟩)
      have HF := hide (HNN.out (by trivial) hfile w2.heap.size (w3.setCell ⟨q, 2, none⟩ (.slice (some ⟨g3, 0, none⟩) n3 c3)) (by omega) ⟨bs, _, _, Rc.mono fun k _ hk => by
          rcases hk with (hk | hk) | hk
          · exact .inl hk
          · exact .inr (by omega)
          · exact .inr (by omega)⟩ (((TW2.out.mono fun k _ e => by rw [e]; exact hqa).trans ((ta.trans tb).mono fun _ _ x => x.elim)).andThen ((t3.mono (S' := fun k => k = q ∨ inRow ch k) fun k _ e => .inr e).trans (u4.mono fun k _ e => .inl e)) (fun k hk e => by
          rcases e with e | e
          · rw [e]; exact hqa
          · exact R2.out.ac k e)))
      have hq := hr3 82
      clear hfile ta Ra tb Rb hrow hr3 hl3 t3 hin3 hc3 t4 u4 hin4 Rc ea hszb
      go_wp2_with (at_builtin; refine wpList_append_run rfl _ _ 82 rfl _ _ rfl rfl _ _ hq ?_)
      exact HF.out
  · have hzz : (z != 0) = true := by rw [bne_iff_ne]; exact hz0
    have HF := hide (HEE.out hz0 w1 ⟨bs, ch, fv, R1.out.mono fun k _ hk => .inl hk⟩ (TW1.out.mono fun k _ e => by rw [e]; exact hqa))
    clear hz0
    go_wp2_with fail
    exact HF.out
end Go.Proofs.Ytefjljdgdoklmaa

/-
  One of the document's files has turned; a name of its directory is a file.
-/
namespace Go.Proofs.Ytefjljdgdoklmaa
open Go.RowKit Go.Maps

section
variable {A : Nat → Prop} {w w' : World} {q : Nat} {r : RDisk} {bs : Nat} {ch : Value} {fv : Nat → Value}
/-- One file has turned. -/
theorem RRepAt.filed (h : RRepAt A w q r bs ch fv) {g : Nat} {x x' : Fil} {v' : Value} (hx : r.files g = some x) (hg : w'.heap[g]? = some (.cells #[v', .int .i64 (x'.synced : Nat)] 95 (0, 0))) (ho : OwnB w' v' x'.bytes) (t : Turns (fun k => k = g) w w') (hr : ∀ k, inRow v' k → inRow (fv g) k ∨ w.heap.size ≤ k) : RRepAt (Grow A w) w' q (r.setF g x') bs ch (fun k => if k = g then v' else fv k) where
  cells := t.heap h.cells (fun e => (h.file hx).1 e.symm)
  synced := h.synced.keep t fun e => (h.file hx).2.1 e.symm
  chs := h.chs.keep t fun k hk e => by rw [e] at hk; exact (h.file hx).2.2.1 hk
  af := .inl h.af
  ay := .inl h.ay
  ac := fun k hk => .inl (h.ac k hk)
  files := by
    refine ⟨fun p y hp => ?_, fun p p' y y' k hp hp' hne hk => ?_⟩
    · by_cases e : p = g
      · subst e
        have hy : x' = y := by simpa [RDisk.setF] using hp
        subst hy
        rw [if_pos rfl]
        exact ⟨hg, ho, .inl (h.files.each p x hx).ag, fun k hk => (hr k hk).imp ((h.files.each p x hx).ar k) id⟩
      · rw [if_neg e]
        have hp' : r.files p = some y := by simpa [RDisk.setF, e] using hp
        refine ((h.files.each p y hp').mono (A' := Grow A w) fun k _ hk => .inl hk).keep t e (fun k hk u => ?_)
        have := (h.row hp' hk).2.2.2.1
        rw [u, hx] at this
        cases this
    · by_cases e : p = g
      · rw [if_pos e] at hk
        have e' : p' ≠ g := fun e' => hne (e.trans e'.symm)
        rw [if_neg e']
        have hq2 : r.files p' = some y' := by simpa [RDisk.setF, e'] using hp'
        intro u
        rcases hr k hk with v | v
        · exact h.files.apart p' g y' x k hq2 hx e' u v
        · have := (h.row hq2 u).2.2.2.2; omega
      · rw [if_neg e] at hk
        have hq2 : r.files p = some y := by simpa [RDisk.setF, e] using hp
        by_cases e' : p' = g
        · rw [if_pos e']
          intro u
          rcases hr k u with v | v
          · exact h.files.apart p g y x k hq2 hx e hk v
          · have := (h.row hq2 hk).2.2.2.2; omega
        · rw [if_neg e']
          exact h.files.apart p p' y y' k hq2 (by simpa [RDisk.setF, e'] using hp') hne hk
  refs := by
    have hup : ∀ p, (∃ y, r.files p = some y) → ∃ y, (r.setF g x').files p = some y := fun p ⟨y, hy⟩ => by
      by_cases e : p = g
      · exact ⟨x', by simp [RDisk.setF, e]⟩
      · exact ⟨y, by simp [RDisk.setF, e, hy]⟩
    exact ⟨h.refs.fs, fun s p hs => hup p (h.refs.synced s p hs), fun c hc p hp => hup p (h.refs.changes c hc p hp)⟩
end
def putR (E : DataW Unit) (file : Option Nat) (became : ByteArray) : DataW Unit := match file with
  | none => E
  | some g => E.put (key became) (.lit (.int .i64 (g : Nat)))
theorem applyR_eq (D : DataW Unit) (c : Chg) : applyR D c = putR (if c.went.size = 0 then D else D.del (key c.went)) c.file c.became := rfl
/-- Which file a name is behind a change, in the document's words. -/
theorem fileOf_applyR' (D : DataW Unit) (hD : IsMap D) (c : Chg) (s : ByteArray) :
    fileOf (applyR D c) s = match c.file with
      | none => if s = c.went ∧ c.went.size ≠ 0 then none else fileOf D s
      | some g => if s = c.became then some g else if s = c.went ∧ c.went.size ≠ 0 then none else fileOf D s := by
  rw [applyR_eq]
  obtain ⟨went, became, file⟩ := c
  have hdel : IsMap (if went.size = 0 then D else D.del (key went)) ∧ fileOf (if went.size = 0 then D else D.del (key went)) s = if s = went ∧ went.size ≠ 0 then none else fileOf D s := by
    by_cases hw : went.size = 0
    · rw [if_pos hw, if_neg (fun e => e.2 hw)]
      exact ⟨hD, rfl⟩
    · rw [if_neg hw]
      refine ⟨hD.del _, ?_⟩
      by_cases e : s = went
      · rw [if_pos ⟨e, hw⟩, e]
        unfold fileOf
        rw [atKey_del_same]
      · rw [if_neg (fun e' => e e'.1)]
        exact fileOf_congr (atKey_del_other (key_ne e) _)
  show fileOf (putR (if went.size = 0 then D else D.del (key went)) file became) s = _
  generalize (if went.size = 0 then D else D.del (key went)) = E at *
  cases file with
  | none => exact hdel.2
  | some g =>
    show fileOf (E.put (key became) (.lit (.int .i64 (g : Nat)))) s = if s = became then some g else if s = went ∧ went.size ≠ 0 then none else fileOf D s
    by_cases e : s = became
    · rw [if_pos e, e]
      exact fileOf_lit _ _ _ (atKey_put_same hdel.1 (keyLit _) _ _)
    · rw [if_neg e, ← hdel.2]
      exact fileOf_congr (atKey_put_other (key_ne e) _ _)
theorem fileOf_applyR (D : DataW Unit) (hD : IsMap D) (c : Chg) {s : ByteArray} {g : Nat} (h : fileOf (applyR D c) s = some g) : fileOf D s = some g ∨ c.file = some g := by
  rw [fileOf_applyR' D hD] at h
  cases e : c.file with
  | none =>
    rw [e] at h
    simp only at h
    split at h
    · cases h
    · exact .inl h
  | some q =>
    rw [e] at h
    simp only at h
    split at h
    · exact .inr h
    · split at h
      · cases h
      · exact .inl h
theorem isMap_applyR {D : DataW Unit} (hD : IsMap D) (c : Chg) : IsMap (applyR D c) := by
  rw [applyR_eq]
  have hE : IsMap (if c.went.size = 0 then D else D.del (key c.went)) := by
    split
    · exact hD
    · exact hD.del _
  cases c.file with
  | none => exact hE
  | some g => exact hE.put _ _
theorem fileOf_foldR (l : List Chg) : ∀ {D : DataW Unit}, IsMap D → ∀ {s : ByteArray} {g : Nat}, fileOf (l.foldl applyR D) s = some g → fileOf D s = some g ∨ ∃ c, c ∈ l ∧ c.file = some g := by
  induction l with
  | nil =>
    intro D hD s g h
    exact .inl h
  | cons c r ih =>
    intro D hD s g h
    rcases ih (isMap_applyR hD c) h with h | ⟨x, h1, h2⟩
    · rcases fileOf_applyR D hD c h with h | h
      · exact .inl h
      · exact .inr ⟨c, by simp, h⟩
    · exact .inr ⟨x, by simp [h1], h2⟩
theorem RRepAt.look {A : Nat → Prop} {w : World} {q : Nat} {r : RDisk} {bs : Nat} {ch : Value} {fv : Nat → Value} (h : RRepAt A w q r bs ch fv) {s : ByteArray} {g : Nat} (hs : fileOf r.now s = some g) : ∃ x, r.files g = some x := by
  rcases fileOf_foldR r.changes h.synced.isMap hs with hs | ⟨c, h1, h2⟩
  · exact h.refs.synced s g hs
  · exact h.refs.changes c h1 g h2
end Go.Proofs.Ytefjljdgdoklmaa

/-
  The document's Sync.
-/
namespace Go.Proofs.Ytefjljdgdoklmaa
open Go.RowKit Go.Maps

set_option maxRecDepth 100000 in
set_option maxHeartbeats 2000000 in
theorem rsync_rep (A : Nat → Prop) (q : Nat) (r r1 : RDisk) (z : Int) (name : ByteArray) (w : World) (h : RRep A w q r) (hn : RNum r) (hn1 : RNum r1) (hnm : name.size ≤ 1000) (hz : r.begin (goodN name) = (z, r1)) (R : Ending → World → Prop)
    (HE : z ≠ 0 → ∀ w', RRep (Grow A w) w' q r1 → Turns A w w' → R (.returned (.int .i64 z)) w')
    (HN : z = 0 → fileOf r1.now name = none → ∀ w', RRep (Grow A w) w' q r1 → Turns A w w' → R (.returned (.int .i64 6)) w')
    (HS : z = 0 → ∀ g x w', fileOf r1.now name = some g → r1.files g = some x → RRep (Grow A w) w' q (r1.setF g ⟨x.bytes, x.bytes.length⟩) → Turns A w w' → R (.returned (.int .i64 0)) w') :
    Calls Try.prog 57 #[.pointer (some ⟨q, 0, none⟩), .string name] w R := by
  obtain ⟨bs, ch, fv, h⟩ := h
  have t0 : Turns (fun _ => False) w (w.alloc (.cells #[.string name] 9)) := (Turns.refl _ w).alloc _
  have hB := rbegin_rep A q r (some ⟨w.heap.size, 0, none⟩) 1 1 [name] _ bs ch fv (h.quiet t0) hn (strs_one w name) (by decide) (fun s hs => by simp at hs; rw [hs]; exact hnm)
  rw [show [name].all goodN = (goodN name) by simp, hz] at hB
  have HB := hide hB
  have hqa := h.af
  have hsz0 := t0.size
  have HEE := hide HE
  have HNN := hide HN
  have HSS := hide HS
  have T0 := hide t0
  have HN1 := hide hn1
  have hqw := lt_of_heap h.cells
  clear hB h hn hz HE HN HS t0 hn1
  go_enter Try.func57, Try.ntmps57
  go_wp2_with fail
  refine HB.out.mono ?_
  rintro e w1 ⟨rfl, r1r, t1⟩
  have R1 := hide r1r
  have tw1 : Turns (fun k => k = q) w w1 := (T0.out.mono fun _ _ x => x.elim).trans t1
  have TW1 := hide tw1
  have hsz1 := tw1.size
  clear r1r t1 tw1 HB
  by_cases hz0 : z = 0
  · subst hz0
    go_wp2_with fail
    refine (rnow_rep A q r1 w1 ⟨bs, ch, fv, R1.out⟩ HN1.out).mono ?_
    rintro e w2 ⟨N, rfl, d2, b2⟩
    have hlk := d2.look81 name (by unfold maxLen; omega)
    have t2 : Turns (fun _ => False) w1 w2 := Turns.of_below b2 _
    have R2 := hide (R1.out.quiet t2)
    have TW2 := hide (TW1.out.trans (t2.mono fun _ _ x => x.elim))
    have hsz2 := t2.size
    clear d2 b2 t2 R1 TW1
    cases hfile : fileOf r1.now name with
    | none =>
      rw [hfile] at hlk
      simp only [ptrOf] at hlk
      have HF := hide (HNN.out (by trivial) hfile w2 ⟨bs, ch, fv, R2.out.mono fun k _ hk => .inl hk⟩ (TW2.out.mono fun k _ e => by rw [e]; exact hqa))
      clear hfile
      go_wp2_with fail
      exact HF.out
    | some g =>
      rw [hfile] at hlk
      simp only [ptrOf] at hlk
      obtain ⟨x, hx⟩ := R2.out.look hfile
      have TA2 := hide (TW2.out.mono (S' := A) fun k _ e => by rw [e]; exact hqa)
      have hF := R2.out.files.each g x hx
      obtain ⟨fa, fc, hfv⟩ := hF.own.slice
      have hc := hF.cell
      rw [hfv] at hc
      have c0 : w2.cell? ⟨g, 0, none⟩ = some (.slice fa x.bytes.length fc) := cell_of_row w2 g 0 _ 95 (0, 0) hc
      have c1 : w2.cell? ⟨g, 1, none⟩ = some (.int .i64 (x.synced : Nat)) := cell_of_row w2 g 1 _ 95 (0, 0) hc
      have z1 : w2.frozen? ⟨g, 1, none⟩ = false := frozen_of_row w2 g 1 _ 95 hc
      have t3 := (Tick.refl hc).set 1 (.int .i64 (x.bytes.length : Nat))
      have u3 := Turns.of_tick t3
      have hrow : ∀ k, inRow (fv g) k → ¬ k = g := fun k hk e => by
        have := (R2.out.row hx hk).2.2.2.1
        rw [e, hx] at this
        cases this
      have Rc := R2.out.filed (w' := w2.setCell ⟨g, 1, none⟩ (.int .i64 (x.bytes.length : Nat))) (x' := ⟨x.bytes, x.bytes.length⟩) (v' := .slice fa x.bytes.length fc) hx t3.1 (by rw [← hfv]; exact hF.own.keep u3 hrow) u3 (fun k hk => .inl (by rw [hfv]; exact hk))
      have HF := hide (HSS.out (by trivial) g x _ hfile hx ⟨bs, ch, _, Rc.mono fun k _ hk => grow_of (by omega) k hk⟩ (TA2.out.trans (u3.mono fun k _ e => by rw [e]; exact hF.ag)))
      clear hfile hx hF hfv hc t3 u3 hrow Rc
      generalize x.bytes.length = L at *
      go_wp2_with fail
      exact HF.out
  · have hzz : (z != 0) = true := by rw [bne_iff_ne]; exact hz0
    have HF := hide (HEE.out hz0 w1 ⟨bs, ch, fv, R1.out.mono fun k _ hk => .inl hk⟩ (TW1.out.mono fun k _ e => by rw [e]; exact hqa))
    clear hz0
    go_wp2_with fail
    exact HF.out
end Go.Proofs.Ytefjljdgdoklmaa
