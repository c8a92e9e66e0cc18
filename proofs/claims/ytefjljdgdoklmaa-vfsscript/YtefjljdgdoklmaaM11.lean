import Derived.Test.YtefjljdgdoklmaaM10
/-
  The document's Sync.
-/
namespace Go.Proofs.Ytefjljdgdoklmaa
open Go.RowKit Go.Maps

set_option maxRecDepth 100000 in
set_option maxHeartbeats 2000000 in
theorem rsync_rep (A : Nat → Prop) (q : Nat) (r r1 : RDisk) (z : Int) (name : ByteArray) (w : World) (h : RRep A w q r) (hn : RNum r) (hn1 : RNum r1) (hnm : name.size ≤ 1000) (hz : r.begin (goodN name) = (z, r1)) (R : Ending → World → Prop)
    (HE : z ≠ 0 → ∀ w', RRep (Grow A w) w' q r1 → Turns A w w' → R (.returned (.int .i64 z)) w')
    (HN : z = 0 → fileOf r1.now name = none → ∀ w', RRep (Grow A w) w' q r1 → Turns A w w' → R (.returned (.int .i64 6)) w')
    (HS : z = 0 → ∀ g x w', fileOf r1.now name = some g → r1.files g = some x → RRep (Grow A w) w' q (r1.setF g ⟨x.bytes, x.bytes.length⟩) → Turns A w w' → R (.returned (.int .i64 0)) w') :
    Calls Try.prog 57 #[.pointer (some ⟨q, 0, none⟩), .string name] w R := by
  obtain ⟨bs, ch, fv, h⟩ := h
  have t0 : Turns (fun _ => False) w (w.alloc (.cells #[.string name] 9)) := (Turns.refl _ w).alloc _
  have hB := rbegin_rep A q r (some ⟨w.heap.size, 0, none⟩) 1 1 [name] _ bs ch fv (h.quiet t0) hn (strs_one w name) (by decide) (fun s hs => by simp at hs; rw [hs]; exact hnm)
  rw [show [name].all goodN = (goodN name) by simp, hz] at hB
  have HB := hide hB
  have hqa := h.af
  have hsz0 := t0.size
  have HEE := hide HE
  have HNN := hide HN
  have HSS := hide HS
  have T0 := hide t0
  have HN1 := hide hn1
  have hqw := lt_of_heap h.cells
  clear hB h hn hz HE HN HS t0 hn1
  go_enter Try.func57, Try.ntmps57
  go_wp2_with fail
  refine HB.out.mono ?_
  rintro e w1 ⟨rfl, r1r, t1⟩
  have R1 := hide r1r
  have tw1 : Turns (fun k => k = q) w w1 := (T0.out.mono fun _ _ x => x.elim).trans t1
  have TW1 := hide tw1
  have hsz1 := tw1.size
  clear r1r t1 tw1 HB
  by_cases hz0 : z = 0
  · subst hz0
    go_wp2_with fail
    refine (rnow_rep A q r1 w1 ⟨bs, ch, fv, R1.out⟩ HN1.out).mono ?_
    rintro e w2 ⟨N, rfl, d2, b2⟩
    have hlk := d2.look81 name (by unfold maxLen; omega)
    have t2 : Turns (fun _ => False) w1 w2 := Turns.of_below b2 _
    have R2 := hide (R1.out.quiet t2)
    have TW2 := hide (TW1.out.trans (t2.mono fun _ _ x => x.elim))
    have hsz2 := t2.size
    clear d2 b2 t2 R1 TW1
    cases hfile : fileOf r1.now name with
    | none =>
      rw [hfile] at hlk
      simp only [ptrOf] at hlk
      have HF := hide (HNN.out (by trivial) hfile w2 ⟨bs, ch, fv, R2.out.mono fun k _ hk => .inl hk⟩ (TW2.out.mono fun k _ e => by rw [e]; exact hqa))
      clear hfile
      go_wp2_with fail
      exact HF.out
    | some g =>
      rw [hfile] at hlk
      simp only [ptrOf] at hlk
      obtain ⟨x, hx⟩ := R2.out.look hfile
      have TA2 := hide (TW2.out.mono (S' := A) fun k _ e => by rw [e]; exact hqa)
      have hF := R2.out.files.each g x hx
      obtain ⟨fa, fc, hfv⟩ := hF.own.slice
      have hc := hF.cell
      rw [hfv] at hc
      have c0 : w2.cell? ⟨g, 0, none⟩ = some (.slice fa x.bytes.length fc) := cell_of_row w2 g 0 _ 95 (0, 0) hc
      have c1 : w2.cell? ⟨g, 1, none⟩ = some (.int .i64 (x.synced : Nat)) := cell_of_row w2 g 1 _ 95 (0, 0) hc
      have z1 : w2.frozen? ⟨g, 1, none⟩ = false := frozen_of_row w2 g 1 _ 95 hc
      have t3 := (Tick.refl hc).set 1 (.int .i64 (x.bytes.length : Nat))
      have u3 := Turns.of_tick t3
      have hrow : ∀ k, inRow (fv g) k → ¬ k = g := fun k hk e => by
        have := (R2.out.row hx hk).2.2.2.1
        rw [e, hx] at this
        cases this
      have Rc := R2.out.filed (w' := w2.setCell ⟨g, 1, none⟩ (.int .i64 (x.bytes.length : Nat))) (x' := ⟨x.bytes, x.bytes.length⟩) (v' := .slice fa x.bytes.length fc) hx t3.1 (by rw [← hfv]; exact hF.own.keep u3 hrow) u3 (fun k hk => .inl (by rw [hfv]; exact hk))
      have HF := hide (HSS.out (by trivial) g x _ hfile hx ⟨bs, ch, _, Rc.mono fun k _ hk => grow_of (by omega) k hk⟩ (TA2.out.trans (u3.mono fun k _ e => by rw [e]; exact hF.ag)))
      clear hfile hx hF hfv hc t3 u3 hrow Rc
      generalize x.bytes.length = L at *
      go_wp2_with fail
      exact HF.out
  · have hzz : (z != 0) = true := by rw [bne_iff_ne]; exact hz0
    have HF := hide (HEE.out hz0 w1 ⟨bs, ch, fv, R1.out.mono fun k _ hk => .inl hk⟩ (TW1.out.mono fun k _ e => by rw [e]; exact hqa))
    clear hz0
    go_wp2_with fail
    exact HF.out
end Go.Proofs.Ytefjljdgdoklmaa

/-
  The document's Remove, Rename and SyncDir.
-/
namespace Go.Proofs.Ytefjljdgdoklmaa
open Go.RowKit Go.Maps

theorem some_file {F : Nat → Option Fil} {g : Nat} {x : Fil} (hx : F g = some x) (p : Nat) (hp : some g = some p) : ∃ x, F p = some x := by
  obtain rfl : g = p := Option.some.inj hp
  exact ⟨x, hx⟩
theorem fullR {D : DataW Unit} (h : Full D) (c : Chg) : Full (applyR D c) := by
  rw [applyR_eq]
  have hE : Full (if c.went.size = 0 then D else D.del (key c.went)) := by
    split
    · exact h
    · exact h.del _
  cases c.file with
  | none => exact hE
  | some g => exact hE.put _ _
theorem fullR_fold (l : List Chg) : ∀ {D : DataW Unit}, Full D → Full (l.foldl applyR D) := by
  induction l with
  | nil => exact fun h => h
  | cons c r ih => exact fun h => ih (fullR h c)

set_option maxRecDepth 100000 in
set_option maxHeartbeats 2000000 in
theorem rremove_rep (A : Nat → Prop) (q : Nat) (r r1 : RDisk) (z : Int) (name : ByteArray) (w : World) (h : RRep A w q r) (hn : RNum r) (hn1 : RNum r1) (hnm : name.size ≤ 1000) (hz : r.begin (goodN name) = (z, r1)) (R : Ending → World → Prop)
    (HE : z ≠ 0 → ∀ w', RRep (Grow A w) w' q r1 → Turns A w w' → R (.returned (.int .i64 z)) w')
    (HN : z = 0 → fileOf r1.now name = none → ∀ w', RRep (Grow A w) w' q r1 → Turns A w w' → R (.returned (.int .i64 6)) w')
    (HS : z = 0 → ∀ g x w', fileOf r1.now name = some g → r1.files g = some x → RRep (Grow A w) w' q (r1.change ⟨name, ⟨#[]⟩, none⟩) → Turns A w w' → R (.returned (.int .i64 0)) w') :
    Calls Try.prog 60 #[.pointer (some ⟨q, 0, none⟩), .string name] w R := by
  obtain ⟨bs, ch, fv, h⟩ := h
  have t0 : Turns (fun _ => False) w (w.alloc (.cells #[.string name] 9)) := (Turns.refl _ w).alloc _
  have hB := rbegin_rep A q r (some ⟨w.heap.size, 0, none⟩) 1 1 [name] _ bs ch fv (h.quiet t0) hn (strs_one w name) (by decide) (fun s hs => by simp at hs; rw [hs]; exact hnm)
  rw [show [name].all goodN = (goodN name) by simp, hz] at hB
  have HB := hide hB
  have hqa := h.af
  have hsz0 := t0.size
  have HEE := hide HE
  have HNN := hide HN
  have HSS := hide HS
  have T0 := hide t0
  have HN1 := hide hn1
  have hqw := lt_of_heap h.cells
  clear hB h hn hz HE HN HS t0 hn1
  go_enter Try.func60, Try.ntmps60
  go_wp2_with fail
  refine HB.out.mono ?_
  rintro e w1 ⟨rfl, r1r, t1⟩
  have R1 := hide r1r
  have tw1 : Turns (fun k => k = q) w w1 := (T0.out.mono fun _ _ x => x.elim).trans t1
  have TW1 := hide tw1
  have hsz1 := tw1.size
  clear r1r t1 tw1 HB
  by_cases hz0 : z = 0
  · subst hz0
    go_wp2_with fail
    refine (rnow_rep A q r1 w1 ⟨bs, ch, fv, R1.out⟩ HN1.out).mono ?_
    rintro e w2 ⟨N, rfl, d2, b2⟩
    have hlk := d2.look81 name (by unfold maxLen; omega)
    have t2 : Turns (fun _ => False) w1 w2 := Turns.of_below b2 _
    have R2 := hide (R1.out.quiet t2)
    have TW2 := hide (TW1.out.trans (t2.mono fun _ _ x => x.elim))
    have hsz2 := t2.size
    clear d2 b2 t2 R1 TW1
    cases hfile : fileOf r1.now name with
    | none =>
      rw [hfile] at hlk
      simp only [ptrOf] at hlk
      have HF := hide (HNN.out (by trivial) hfile w2 ⟨bs, ch, fv, R2.out.mono fun k _ hk => .inl hk⟩ (TW2.out.mono fun k _ e => by rw [e]; exact hqa))
      clear hfile
      go_wp2_with fail
      exact HF.out
    | some g =>
      rw [hfile] at hlk
      simp only [ptrOf] at hlk
      obtain ⟨x, hx⟩ := R2.out.look hfile
      have TA2 := hide (TW2.out.mono (S' := A) fun k _ e => by rw [e]; exact hqa)
      have tb : Turns (fun _ => False) w2 (w2.alloc (.cells #[.string ⟨#[]⟩, .pointer none, .string name] 97)) := (Turns.refl _ _).alloc _
      have Rb := R2.out.quiet tb
      have hrow := heap_alloc_new w2 (.cells #[.string ⟨#[]⟩, .pointer none, .string name] 97)
      obtain ⟨g3, n3, c3, w3, hr3, hl3, t3, hin3⟩ := append_rchg _ ch r1.changes Rb.chs (by have := HN1.out.changes; omega) ⟨name, ⟨#[]⟩, none⟩ ⟨w2.heap.size, 0, none⟩ 1 (fun j u hu => by
        rw [Go.WideShapes.add_plain, Nat.zero_add, cell_of_row _ _ _ _ _ _ hrow, List.getElem?_toArray]
        exact hu)
      have hq2 : w2.cell? ⟨q, 2, none⟩ = some ch := cell_of_row w2 q 2 _ 84 (0, 0) R2.out.cells
      have hc3 := t3.heap Rb.cells (fun e => (Rb.chrow e).1 rfl)
      have y3 : w3.cell? ⟨q, 2, none⟩ = some ch := cell_of_row w3 q 2 _ 84 (0, 0) hc3
      have z3 : w3.frozen? ⟨q, 2, none⟩ = false := frozen_of_row w3 q 2 _ 84 hc3
      have t4 := (Tick.refl hc3).set 2 (.slice (some ⟨g3, 0, none⟩) n3 c3)
      have u4 := Turns.of_tick t4
      have hin4 : ∀ k, inRow (.slice (some ⟨g3, 0, none⟩) n3 c3) k → ¬ k = q := fun k hk e => by
        obtain ⟨cs, hc⟩ := hl3.row hk
        rw [e] at hc
        exact absurd (one_type hc3 hc) (by decide)
      have hszb := tb.size
      have Rc := Rb.changed (w' := w3.setCell ⟨q, 2, none⟩ (.slice (some ⟨g3, 0, none⟩) n3 c3)) ⟨name, ⟨#[]⟩, none⟩ (ch' := .slice (some ⟨g3, 0, none⟩) n3 c3) t4.1 (hl3.keep u4 hin4) ((t3.mono fun k _ e => .inr e).trans (u4.mono fun k _ e => .inl e)) hin3 (fun p hp => by cases hp)
      have HF := hide (HSS.out (by trivial) g x (w3.setCell ⟨q, 2, none⟩ (.slice (some ⟨g3, 0, none⟩) n3 c3)) hfile hx ⟨bs, _, _, Rc.mono fun k _ hk => grow_of (by omega) k hk⟩ ((TA2.out.trans (tb.mono fun _ _ x => x.elim)).andThen ((t3.mono (S' := fun k => k = q ∨ inRow ch k) fun k _ e => .inr e).trans (u4.mono fun k _ e => .inl e)) (fun k hk e => by
        rcases e with e | e
        · rw [e]; exact hqa
        · exact R2.out.ac k e)))
      have hq := hr3 82
      clear hfile tb Rb hrow hr3 hl3 t3 hin3 hc3 t4 u4 hin4 Rc hszb
      go_wp2_with (at_builtin; refine wpList_append_run rfl _ _ 82 rfl _ _ rfl rfl _ _ hq ?_)
      exact HF.out
  · have hzz : (z != 0) = true := by rw [bne_iff_ne]; exact hz0
    have HF := hide (HEE.out hz0 w1 ⟨bs, ch, fv, R1.out.mono fun k _ hk => .inl hk⟩ (TW1.out.mono fun k _ e => by rw [e]; exact hqa))
    clear hz0
    go_wp2_with fail
    exact HF.out

set_option maxRecDepth 100000 in
set_option maxHeartbeats 2000000 in
theorem rrename_rep (A : Nat → Prop) (q : Nat) (r r1 : RDisk) (z : Int) (s t : ByteArray) (w : World) (h : RRep A w q r) (hn : RNum r) (hn1 : RNum r1) (hsm : s.size ≤ 1000) (htm : t.size ≤ 1000) (hz : r.begin (goodN s && goodN t) = (z, r1)) (R : Ending → World → Prop)
    (HE : z ≠ 0 → ∀ w', RRep (Grow A w) w' q r1 → Turns A w w' → R (.returned (.int .i64 z)) w')
    (HN : z = 0 → fileOf r1.now s = none → ∀ w', RRep (Grow A w) w' q r1 → Turns A w w' → R (.returned (.int .i64 6)) w')
    (HI : z = 0 → s = t → ∀ g x w', fileOf r1.now s = some g → r1.files g = some x → RRep (Grow A w) w' q r1 → Turns A w w' → R (.returned (.int .i64 0)) w')
    (HS : z = 0 → s ≠ t → ∀ g x w', fileOf r1.now s = some g → r1.files g = some x → RRep (Grow A w) w' q (r1.change ⟨s, t, some g⟩) → Turns A w w' → R (.returned (.int .i64 0)) w') :
    Calls Try.prog 59 #[.pointer (some ⟨q, 0, none⟩), .string s, .string t] w R := by
  obtain ⟨bs, ch, fv, h⟩ := h
  have t0 : Turns (fun _ => False) w (w.alloc (.cells #[.string s, .string t] 9)) := (Turns.refl _ w).alloc _
  have hB := rbegin_rep A q r (some ⟨w.heap.size, 0, none⟩) 2 2 [s, t] _ bs ch fv (h.quiet t0) hn (strs_two w s t) (by decide) (fun s hs => by simp at hs; rcases hs with rfl | rfl <;> assumption)
  rw [show [s, t].all goodN = (goodN s && goodN t) by simp, hz] at hB
  have HB := hide hB
  have hqa := h.af
  have hsz0 := t0.size
  have HEE := hide HE
  have HNN := hide HN
  have HSS := hide HS
  have T0 := hide t0
  have HN1 := hide hn1
  have hqw := lt_of_heap h.cells
  have HII := hide HI
  clear HI
  clear hB h hn hz HE HN HS t0 hn1
  go_enter Try.func59, Try.ntmps59
  go_wp2_with fail
  refine HB.out.mono ?_
  rintro e w1 ⟨rfl, r1r, t1⟩
  have R1 := hide r1r
  have tw1 : Turns (fun k => k = q) w w1 := (T0.out.mono fun _ _ x => x.elim).trans t1
  have TW1 := hide tw1
  have hsz1 := tw1.size
  clear r1r t1 tw1 HB
  by_cases hz0 : z = 0
  · subst hz0
    go_wp2_with fail
    refine (rnow_rep A q r1 w1 ⟨bs, ch, fv, R1.out⟩ HN1.out).mono ?_
    rintro e w2 ⟨N, rfl, d2, b2⟩
    have hlk := d2.look81 s (by unfold maxLen; omega)
    have t2 : Turns (fun _ => False) w1 w2 := Turns.of_below b2 _
    have R2 := hide (R1.out.quiet t2)
    have TW2 := hide (TW1.out.trans (t2.mono fun _ _ x => x.elim))
    have hsz2 := t2.size
    clear d2 b2 t2 R1 TW1
    cases hfile : fileOf r1.now s with
    | none =>
      rw [hfile] at hlk
      simp only [ptrOf] at hlk
      have HF := hide (HNN.out (by trivial) hfile w2 ⟨bs, ch, fv, R2.out.mono fun k _ hk => .inl hk⟩ (TW2.out.mono fun k _ e => by rw [e]; exact hqa))
      clear hfile
      go_wp2_with fail
      exact HF.out
    | some g =>
      rw [hfile] at hlk
      simp only [ptrOf] at hlk
      obtain ⟨x, hx⟩ := R2.out.look hfile
      have TA2 := hide (TW2.out.mono (S' := A) fun k _ e => by rw [e]; exact hqa)
      by_cases hst : s = t
      · subst hst
        have HF := hide (HII.out (by trivial) rfl g x w2 hfile hx ⟨bs, ch, fv, R2.out.mono fun k _ hk => .inl hk⟩ TA2.out)
        clear hfile hx
        go_wp2_with fail
        exact HF.out
      · have hne : (s.toList == t.toList) = false := by
          rw [beq_eq_false_iff_ne]
          intro e
          rw [ByteArray.toList_eq, ByteArray.toList_eq] at e
          apply hst
          cases s; cases t
          congr
          exact Array.toList_inj.1 e
        have tb : Turns (fun _ => False) w2 (w2.alloc (.cells #[.string t, .pointer (some ⟨g, 0, none⟩), .string s] 97)) := (Turns.refl _ _).alloc _
        have Rb := R2.out.quiet tb
        have hrow := heap_alloc_new w2 (.cells #[.string t, .pointer (some ⟨g, 0, none⟩), .string s] 97)
        obtain ⟨g3, n3, c3, w3, hr3, hl3, t3, hin3⟩ := append_rchg _ ch r1.changes Rb.chs (by have := HN1.out.changes; omega) ⟨s, t, some g⟩ ⟨w2.heap.size, 0, none⟩ 1 (fun j u hu => by
          rw [Go.WideShapes.add_plain, Nat.zero_add, cell_of_row _ _ _ _ _ _ hrow, List.getElem?_toArray]
          exact hu)
        have hq2 : w2.cell? ⟨q, 2, none⟩ = some ch := cell_of_row w2 q 2 _ 84 (0, 0) R2.out.cells
        have hc3 := t3.heap Rb.cells (fun e => (Rb.chrow e).1 rfl)
        have y3 : w3.cell? ⟨q, 2, none⟩ = some ch := cell_of_row w3 q 2 _ 84 (0, 0) hc3
        have z3 : w3.frozen? ⟨q, 2, none⟩ = false := frozen_of_row w3 q 2 _ 84 hc3
        have t4 := (Tick.refl hc3).set 2 (.slice (some ⟨g3, 0, none⟩) n3 c3)
        have u4 := Turns.of_tick t4
        have hin4 : ∀ k, inRow (.slice (some ⟨g3, 0, none⟩) n3 c3) k → ¬ k = q := fun k hk e => by
          obtain ⟨cs, hc⟩ := hl3.row hk
          rw [e] at hc
          exact absurd (one_type hc3 hc) (by decide)
        have hszb := tb.size
        have Rc := Rb.changed (w' := w3.setCell ⟨q, 2, none⟩ (.slice (some ⟨g3, 0, none⟩) n3 c3)) ⟨s, t, some g⟩ (ch' := .slice (some ⟨g3, 0, none⟩) n3 c3) t4.1 (hl3.keep u4 hin4) ((t3.mono fun k _ e => .inr e).trans (u4.mono fun k _ e => .inl e)) hin3 (fun p hp => some_file hx p hp)
        have HF := hide (HSS.out (by trivial) hst g x (w3.setCell ⟨q, 2, none⟩ (.slice (some ⟨g3, 0, none⟩) n3 c3)) hfile hx ⟨bs, _, _, Rc.mono fun k _ hk => grow_of (by omega) k hk⟩ ((TA2.out.trans (tb.mono fun _ _ x => x.elim)).andThen ((t3.mono (S' := fun k => k = q ∨ inRow ch k) fun k _ e => .inr e).trans (u4.mono fun k _ e => .inl e)) (fun k hk e => by
          rcases e with e | e
          · rw [e]; exact hqa
          · exact R2.out.ac k e)))
        have hq := hr3 82
        clear hst hfile tb Rb hrow hr3 hl3 t3 hin3 hc3 t4 u4 hin4 Rc hszb
        go_wp2_with (at_builtin; refine wpList_append_run rfl _ _ 82 rfl _ _ rfl rfl _ _ hq ?_)
        exact HF.out
  · have hzz : (z != 0) = true := by rw [bne_iff_ne]; exact hz0
    have HF := hide (HEE.out hz0 w1 ⟨bs, ch, fv, R1.out.mono fun k _ hk => .inl hk⟩ (TW1.out.mono fun k _ e => by rw [e]; exact hqa))
    clear hz0
    go_wp2_with fail
    exact HF.out

set_option maxRecDepth 100000 in
set_option maxHeartbeats 2000000 in
theorem rsyncdir_rep (A : Nat → Prop) (q : Nat) (r r1 : RDisk) (z : Int) (w : World) (h : RRep A w q r) (hn : RNum r) (hn1 : RNum r1) (hz : r.op = (z, r1)) (R : Ending → World → Prop)
    (HE : z ≠ 0 → ∀ w', RRep (Grow A w) w' q r1 → Turns A w w' → R (.returned (.int .i64 z)) w')
    (HS : z = 0 → ∀ w', RRep (Grow A w) w' q { r1 with synced := r1.now, changes := [] } → Turns A w w' → R (.returned (.int .i64 0)) w') :
    Calls Try.prog 58 #[.pointer (some ⟨q, 0, none⟩)] w R := by
  obtain ⟨bs, ch, fv, h⟩ := h
  have hB := rop_rep A q r w bs ch fv h hn
  rw [hz] at hB
  have HB := hide hB
  have hqa := h.af
  have HEE := hide HE
  have HSS := hide HS
  have HN1 := hide hn1
  have hqw := lt_of_heap h.cells
  clear hB h hn hz HE HS hn1
  go_enter Try.func58, Try.ntmps58
  go_wp2_with fail
  refine HB.out.mono ?_
  rintro e w1 ⟨rfl, r1r, t1⟩
  have R1 := hide r1r
  have TW1 := hide t1
  have hsz1 := t1.size
  clear r1r t1 HB
  by_cases hz0 : z = 0
  · subst hz0
    go_wp2_with fail
    refine (rnow_rep A q r1 w1 ⟨bs, ch, fv, R1.out⟩ HN1.out).mono ?_
    rintro e w2 ⟨N, rfl, d2, b2⟩
    have t2 : Turns (fun _ => False) w1 w2 := Turns.of_below b2 _
    have R2 := R1.out.quiet t2
    have y1 : w2.cell? ⟨q, 1, none⟩ = some (.map (some bs)) := cell_of_row w2 q 1 _ 84 (0, 0) R2.cells
    have y2 : w2.cell? ⟨q, 2, none⟩ = some ch := cell_of_row w2 q 2 _ 84 (0, 0) R2.cells
    have z1 : w2.frozen? ⟨q, 1, none⟩ = false := frozen_of_row w2 q 1 _ 84 R2.cells
    have z2 : w2.frozen? ⟨q, 2, none⟩ = false := frozen_of_row w2 q 2 _ 84 R2.cells
    have t3 := ((Tick.refl R2.cells).set 1 (.map (some w1.heap.size))).set 2 (.slice none 0 0)
    have u3 := Turns.of_tick t3
    have hbq : w1.heap.size ≠ q := by omega
    have hfull : Full r1.now := by
      unfold RDisk.now
      exact fullR_fold _ R2.refs.fs
    have Rc : RRepAt (Grow A w) ((w2.setCell ⟨q, 1, none⟩ (.map (some w1.heap.size))).setCell ⟨q, 2, none⟩ (.slice none 0 0)) q { r1 with synced := r1.now, changes := [] } w1.heap.size (.slice none 0 0) fv := by
      refine ⟨t3.1, (d2.keep u3 hbq).tight, .inl ⟨rfl, rfl⟩, .inl R2.af, .inr hsz1, fun k hk => ?_, ⟨fun g x hg => ?_, R2.files.apart⟩, ⟨hfull, fun s g hs => R2.look hs, fun c hc => by cases hc⟩⟩
      · obtain ⟨_, _, e⟩ := hk
        cases e
      · have hg' : r1.files g = some x := hg
        exact ((R2.files.each g x hg').mono (A' := Grow A w) fun k _ hk => .inl hk).keep u3 (R2.file hg').1 fun k hk => (R2.row hg' hk).1
    have HF := hide (HSS.out (by trivial) _ ⟨_, _, _, Rc⟩ ((TW1.out.trans (t2.mono fun _ _ x => x.elim)).trans u3 |>.mono fun k _ e => by rw [e]; exact hqa))
    clear d2 b2 t2 R2 t3 u3 hfull Rc
    go_wp2_with fail
    exact HF.out
  · have hzz : (z != 0) = true := by rw [bne_iff_ne]; exact hz0
    have HF := hide (HEE.out hz0 w1 ⟨bs, ch, fv, R1.out.mono fun k _ hk => .inl hk⟩ (TW1.out.mono fun k _ e => by rw [e]; exact hqa))
    clear hz0
    go_wp2_with fail
    exact HF.out
end Go.Proofs.Ytefjljdgdoklmaa

/-
  The document's New, Fuse, Fault and Size.
-/
namespace Go.Proofs.Ytefjljdgdoklmaa
open Go.RowKit Go.Maps

def rzero (limit : Int) : RDisk := { limit := limit, synced := .map [], changes := [], files := fun _ => none, off := false, fuse := -1, fault := -1, fail := 0, n := 0 }

set_option maxRecDepth 100000 in
set_option maxHeartbeats 1000000 in
theorem rnew_good (limit : Int) (w : World) (h1 : 0 ≤ limit) (h2 : limit ≤ 1073741824) :
    Calls Try.prog 24 #[.int .i64 limit] w fun e w' => e = .returned (.tuple #[.pointer (some ⟨w.heap.size + 1, 0, none⟩), .int .i64 0]) ∧ RRep (fun k => w.heap.size ≤ k) w' (w.heap.size + 1) (rzero limit) ∧ Below w.heap.size w w' := by
  have hmm := @run_makeMap Try.prog
  have g1 : ¬ limit < 0 := by omega
  have g2 : ¬ (1073741824 : Int) < limit := by omega
  have d0 := World.ownsMap_made w Try.prog 9 ptrR
  have e1 : (w.alloc (.map #[] 0)).heap.size = w.heap.size + 1 := by simp
  have D0 := World.ownsMap.alloc d0 (.cells (rfCells limit (.map (some w.heap.size)) (.slice none 0 0) false (-1) (-1) 0 0) 84)
  have B0 : Hid (Below w.heap.size w ((w.alloc (.map #[] 0)).alloc (.cells (rfCells limit (.map (some w.heap.size)) (.slice none 0 0) false (-1) (-1) 0 0) 84))) := ((Below.refl _ _).alloc (Nat.le_refl _) _).alloc (by simp) _
  have N0 := heap_alloc_new (w.alloc (.map #[] 0)) (.cells (rfCells limit (.map (some w.heap.size)) (.slice none 0 0) false (-1) (-1) 0 0) 84)
  rw [e1] at N0
  have FIN : Hid (RRep (fun k => w.heap.size ≤ k) ((w.alloc (.map #[] 0)).alloc (.cells (rfCells limit (.map (some w.heap.size)) (.slice none 0 0) false (-1) (-1) 0 0) 84)) (w.heap.size + 1) (rzero limit)) := by
    refine ⟨w.heap.size, .slice none 0 0, fun _ => .slice none 0 0, ⟨N0, Dir.tight D0, .inl ⟨rfl, rfl⟩, Nat.le_succ _, Nat.le_refl _, fun k hk => ?_, ⟨fun g x hx => (by cases hx), fun g g' x x' k hg => (by cases hg)⟩, ⟨Full.empty, fun s g hs => ?_, fun c hc => (by cases hc)⟩⟩⟩
    · obtain ⟨_, _, e⟩ := hk
      cases e
    · have hs' : fileOf (.map []) s = some g := hs
      rw [none_file] at hs'; cases hs'
  clear d0 e1 D0 N0
  go_enter Try.func24, Try.ntmps24
  go_wp2_with fail
  go_ret2
  exact ⟨rfl, FIN.out, B0.out⟩
set_option maxRecDepth 100000 in
set_option maxHeartbeats 1000000 in
theorem rnew_bad (limit : Int) (w : World) (h : limit < 0 ∨ 1073741824 < limit) :
    Calls Try.prog 24 #[.int .i64 limit] w fun e w' => e = .returned (.tuple #[.pointer none, .int .i64 2]) ∧ w' = w := by
  by_cases h1 : limit < 0
  · go_enter Try.func24, Try.ntmps24
    go_wp2_with fail
    go_ret2
    exact ⟨rfl, rfl⟩
  · have g2 : (1073741824 : Int) < limit := by omega
    go_enter Try.func24, Try.ntmps24
    go_wp2_with fail
    go_ret2
    exact ⟨rfl, rfl⟩

set_option maxRecDepth 100000 in
set_option maxHeartbeats 1000000 in
theorem rfuse_rep (A : Nat → Prop) (q : Nat) (r : RDisk) (n : Int) (w : World) (h : RRep A w q r) : Calls Try.prog 62 #[.pointer (some ⟨q, 0, none⟩), .int .i64 n] w fun e w' => (∃ v, e = .returned v) ∧ RRep A w' q { r with fuse := max (-1) n } ∧ Turns A w w' := by
  obtain ⟨bs, ch, fv, h⟩ := h
  have c4 : w.cell? ⟨q, 4, none⟩ = some (.int .i64 r.fuse) := cell_of_row w q 4 _ 84 (0, 0) h.cells
  have z4 : w.frozen? ⟨q, 4, none⟩ = false := frozen_of_row w q 4 _ 84 h.cells
  have t := (Tick.refl h.cells).set 4 (.int .i64 (max (-1) n))
  have FIN : Hid (RRep A (w.setCell ⟨q, 4, none⟩ (.int .i64 (max (-1) n))) q { r with fuse := max (-1) n } ∧ Turns A w (w.setCell ⟨q, 4, none⟩ (.int .i64 (max (-1) n)))) :=
    ⟨⟨bs, ch, fv, h.turn (Turns.of_tick t) t.1 rfl rfl rfl⟩, (Turns.of_tick t).mono fun k _ e => by rw [e]; exact h.af⟩
  clear h t
  by_cases hn : (-1 : Int) < n
  · rw [show max (-1) n = n by omega] at FIN ⊢
    go_enter Try.func62, Try.ntmps62
    go_wp2_with fail
    go_end0
    exact ⟨⟨_, rfl⟩, FIN.out⟩
  · rw [show max (-1) n = -1 by omega] at FIN ⊢
    go_enter Try.func62, Try.ntmps62
    go_wp2_with fail
    go_end0
    exact ⟨⟨_, rfl⟩, FIN.out⟩
set_option maxRecDepth 100000 in
set_option maxHeartbeats 1000000 in
theorem rfault_bad (q : Nat) (n z : Int) (w : World) (h7 : z ≠ 7) (h8 : z ≠ 8) : Calls Try.prog 63 #[.pointer (some ⟨q, 0, none⟩), .int .i64 n, .int .i64 z] w fun e w' => e = .returned (.int .i64 2) ∧ w' = w := by
  have g7 : (z != 7) = true := by rw [bne_iff_ne]; exact h7
  have g8 : (z != 8) = true := by rw [bne_iff_ne]; exact h8
  go_enter Try.func63, Try.ntmps63
  go_wp2_with fail
  go_ret
  exact ⟨rfl, rfl⟩
set_option maxRecDepth 100000 in
set_option maxHeartbeats 1000000 in
theorem rfault_rep (A : Nat → Prop) (q : Nat) (r : RDisk) (n z : Int) (w : World) (h : RRep A w q r) (hz : z = 7 ∨ z = 8) : Calls Try.prog 63 #[.pointer (some ⟨q, 0, none⟩), .int .i64 n, .int .i64 z] w fun e w' => e = .returned (.int .i64 0) ∧ RRep A w' q { r with fault := max (-1) n, fail := z } ∧ Turns A w w' := by
  obtain ⟨bs, ch, fv, h⟩ := h
  have c5 : w.cell? ⟨q, 5, none⟩ = some (.int .i64 r.fault) := cell_of_row w q 5 _ 84 (0, 0) h.cells
  have z5 : w.frozen? ⟨q, 5, none⟩ = false := frozen_of_row w q 5 _ 84 h.cells
  have c6 : w.cell? ⟨q, 6, none⟩ = some (.int .i64 r.fail) := cell_of_row w q 6 _ 84 (0, 0) h.cells
  have z6 : w.frozen? ⟨q, 6, none⟩ = false := frozen_of_row w q 6 _ 84 h.cells
  have t := ((Tick.refl h.cells).set 5 (.int .i64 (max (-1) n))).set 6 (.int .i64 z)
  have FIN : Hid (RRep A ((w.setCell ⟨q, 5, none⟩ (.int .i64 (max (-1) n))).setCell ⟨q, 6, none⟩ (.int .i64 z)) q { r with fault := max (-1) n, fail := z } ∧ Turns A w ((w.setCell ⟨q, 5, none⟩ (.int .i64 (max (-1) n))).setCell ⟨q, 6, none⟩ (.int .i64 z))) :=
    ⟨⟨bs, ch, fv, h.turn (Turns.of_tick t) t.1 rfl rfl rfl⟩, (Turns.of_tick t).mono fun k _ e => by rw [e]; exact h.af⟩
  clear h t
  by_cases hn : (-1 : Int) < n
  · rw [show max (-1) n = n by omega] at FIN ⊢
    rcases hz with rfl | rfl
    all_goals
      go_enter Try.func63, Try.ntmps63
      go_wp2_with fail
      go_ret
      exact ⟨rfl, FIN.out⟩
  · rw [show max (-1) n = -1 by omega] at FIN ⊢
    rcases hz with rfl | rfl
    all_goals
      go_enter Try.func63, Try.ntmps63
      go_wp2_with fail
      go_ret
      exact ⟨rfl, FIN.out⟩

def RDisk.size (r : RDisk) (s : ByteArray) : Int := match fileOf r.now s with
  | none => -1
  | some g => match r.files g with
    | none => -1
    | some x => (x.bytes.length : Int)
set_option maxRecDepth 100000 in
set_option maxHeartbeats 1000000 in
theorem rsize_rep (A : Nat → Prop) (q : Nat) (r : RDisk) (name : ByteArray) (w : World) (h : RRep A w q r) (hn : RNum r) (hnm : name.size ≤ maxLen) :
    Calls Try.prog 69 #[.pointer (some ⟨q, 0, none⟩), .string name] w fun e w' => e = .returned (.int .i64 (r.size name)) ∧ Below w.heap.size w w' := by
  have H := hide h
  have HN := hide hn
  clear h hn
  go_enter Try.func69, Try.ntmps69
  go_wp2_with fail
  refine (rnow_rep A q r _ H.out HN.out).mono ?_
  rintro e w1 ⟨N, rfl, d1, b1⟩
  have hlk := d1.look81 name hnm
  have B1 := hide b1
  cases e : fileOf r.now name with
  | none =>
    have hs : r.size name = -1 := by unfold RDisk.size; rw [e]
    rw [e] at hlk
    simp only [ptrOf] at hlk
    have HS := hide hs
    clear hs d1 b1 e
    go_wp2_with fail
    go_ret
    exact ⟨by rw [HS.out]; rfl, B1.out⟩
  | some g =>
    obtain ⟨bs, ch, fv, h⟩ := H.out
    have h1 := h.quiet (Turns.of_below b1 _)
    obtain ⟨x, hx⟩ := h1.look e
    have hs : r.size name = (x.bytes.length : Int) := by unfold RDisk.size; rw [e]; simp only [hx]
    obtain ⟨fa, fc, hfv⟩ := (h1.files.each g x hx).own.slice
    have hc := (h1.files.each g x hx).cell
    rw [hfv] at hc
    have c0 : w1.cell? ⟨g, 0, none⟩ = some (.slice fa x.bytes.length fc) := cell_of_row w1 g 0 _ 95 (0, 0) hc
    rw [e] at hlk
    simp only [ptrOf] at hlk
    have HS := hide hs
    clear hs d1 b1 e h1 hx hfv hc h
    generalize x.bytes.length = L at *
    go_wp2_with fail
    go_ret
    exact ⟨by rw [HS.out]; rfl, B1.out⟩
end Go.Proofs.Ytefjljdgdoklmaa
