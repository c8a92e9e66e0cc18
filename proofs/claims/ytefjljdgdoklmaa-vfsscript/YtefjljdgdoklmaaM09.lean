import Derived.Test.YtefjljdgdoklmaaM08
import Derived.Test.YtefjljdgdoklmaaM06
import Derived.Deep.Upon
/-
  Operations on the file of a name, of any file system: Sync, Append, Remove, Rename.
-/
namespace Go.Proofs.Ytefjljdgdoklmaa
open Go.RowKit Go.Maps

/-- An operation on the file of a name. -/
theorem onfile_rep (A : Nat → Prop) (f M q : Nat) (caps : Array Value) (hent : ∀ g w, (callFunc M (#[.pointer (some ⟨g, 0, none⟩)] ++ caps)).run Try.prog w = .ok (.enter M (#[.pointer (some ⟨g, 0, none⟩)] ++ caps)) w) (d : Disk) (right : Bool) (name : ByteArray) (w : World) (bn bs : Nat) (ch : Value) (fv : Nat → Value) (h : RepAt A w f d bn bs ch fv) (hn : Num d) (hnm : name.size ≤ maxLen) (hv : OnVars w q (some ⟨f, 0, none⟩) name M caps) (hq : f < q) (R : Ending → World → Prop)
    (HE : ∀ z w', (d.guard right).1 = some z → RepAt A w' f (d.guard right).2 bn bs ch fv → Turns (fun k => k = f) w w' → R (.returned (.int .i64 z)) w')
    (HN : (d.guard right).1 = none → fileOf d.names name = none → ∀ w', RepAt A w' f d.tick bn bs ch fv → Turns (fun k => k = f) w w' → R (.returned (.int .i64 6)) w')
    (HS : (d.guard right).1 = none → ∀ g x, fileOf d.names name = some g → d.files g = some x → ∀ wm, RepAt A wm f d.tick bn bs ch fv → Turns (fun k => k = f) w wm → Calls Try.prog M (#[.pointer (some ⟨g, 0, none⟩)] ++ caps) wm fun e w' => ∃ z : Int, e = .returned (.int .i64 z) ∧ R (.returned (.int .i64 z)) w') :
    Calls Try.prog 36 #[.pointer (some ⟨f, 0, none⟩), .bool right, onVal q] w R := by
  obtain ⟨v0, v1, v2⟩ := hv
  refine operate_rep A f 73 _ (enters73 _) d right w bn bs ch fv h hn _ HE (fun hg wc hr ht => ?_)
  have xf : ∀ k, k ≠ f → ∀ v, w.cell? ⟨k, 0, none⟩ = some v → wc.cell? ⟨k, 0, none⟩ = some v := fun k hk v hv => ht.cell hv hk
  have c1 : wc.cell? ⟨f, 1, none⟩ = some (.map (some bn)) := cell_of_row wc f 1 _ 57 (0, 0) hr.cells
  cases hfile : fileOf d.names name with
  | none =>
    refine (onFile1_none f bn (Maps.size d.names) q (q + 1) (q + 2) d.names name wc (xf _ (by omega) _ v0) (xf _ (by omega) _ v1) c1 hr.names hnm hfile).mono ?_
    rintro e w2 ⟨rfl, m, rfl⟩
    exact ⟨6, rfl, HN hg hfile _ (hr.quiet ((Turns.refl _ wc).drewN m)) (ht.drewN m)⟩
  | some g =>
    obtain ⟨x, hx⟩ := h.refs.names name g hfile
    refine onFile1_some f bn (Maps.size d.names) q (q + 1) (q + 2) g M caps d.names name wc (hent g) (xf _ (by omega) _ v0) (xf _ (by omega) _ v1) c1 (xf _ (by omega) _ v2) hr.names hnm hfile _ fun m => ?_
    refine (HS hg g x hfile hx _ (hr.quiet ((Turns.refl _ wc).drewN m)) (ht.drewN m)).mono ?_
    rintro e w2 ⟨z, rfl, hz⟩
    exact ⟨z, rfl, z, rfl, hz⟩

section
variable {A : Nat → Prop} {w w' : World} {f : Nat} {d : Disk} {bn bs : Nat} {ch : Value} {fv : Nat → Value}
/-- One file has turned, and the file system's own numbers. -/
theorem RepAt.filedTo {A' : Nat → Prop} (hA : ∀ k, A k → A' k) (h : RepAt A w f d bn bs ch fv) {d' : Disk} {g : Nat} {x x' : Fil} {v' : Value} (hx : d.files g = some x) (hf : w'.heap[f]? = some (.cells (d'.cells bn bs ch) 57 (0, 0))) (hg : w'.heap[g]? = some (.cells #[v', .int .i64 (x'.synced : Nat)] 70 (0, 0))) (ho : OwnB w' v' x'.bytes) (t : Turns (fun k => k = f ∨ k = g ∨ inRow (fv g) k) w w') (hr : ∀ k, inRow v' k → inRow (fv g) k ∨ w.heap.size ≤ k ∧ A' k)
    (e1 : d'.names = d.names) (e2 : d'.synced = d.synced) (e3 : d'.changes = d.changes) (e4 : d'.files = (d.setF g x').files) : RepAt A' w' f d' bn bs ch (fun k => if k = g then v' else fv k) where
  cells := hf
  names := by
    rw [e1]
    refine h.names.keep t fun e => ?_
    rcases e with e | e | e
    · exact h.fn e.symm
    · exact (h.file hx).2.1 e.symm
    · exact (h.row hx e).2.1 rfl
  synced := by
    rw [e2]
    refine h.synced.keep t fun e => ?_
    rcases e with e | e | e
    · exact h.fs e.symm
    · exact (h.file hx).2.2.1 e.symm
    · exact (h.row hx e).2.2.1 rfl
  chs := by
    rw [e3]
    refine h.chs.keep t fun k hk e => ?_
    rcases e with e | e | e
    · exact (h.chrow hk).1 e
    · rw [e] at hk; exact (h.file hx).2.2.2.1 hk
    · exact (h.row hx e).2.2.2.1 hk
  ne := h.ne
  af := hA _ h.af
  an := hA _ h.an
  ay := hA _ h.ay
  ac := fun k hk => hA _ (h.ac k hk)
  files := by
    rw [e4]
    refine ⟨fun q y hq => ?_, fun q q' y y' k hq hq' hne hk => ?_⟩
    · by_cases e : q = g
      · subst e
        have hy : x' = y := by simpa [Disk.setF] using hq
        subst hy
        rw [if_pos rfl]
        exact ⟨hg, ho, hA _ (h.files.each q x hx).ag, fun k hk => (hr k hk).elim (fun e => hA _ ((h.files.each q x hx).ar k e)) And.right⟩
      · rw [if_neg e]
        have hq' : d.files q = some y := by simpa [Disk.setF, e] using hq
        refine ((h.files.each q y hq').mono (A' := A') fun k _ hk => hA k hk).keep t (fun u => ?_) (fun k hk u => ?_)
        · rcases u with u | u | u
          · exact (h.file hq').1 u
          · exact e u
          · rw [(h.row hx u).2.2.2.2.1] at hq'; cases hq'
        · rcases u with u | u | u
          · exact (h.row hq' hk).1 u
          · have := (h.row hq' hk).2.2.2.2.1
            rw [u, hx] at this; cases this
          · exact h.files.apart q g y x k hq' hx e hk u
    · by_cases e : q = g
      · rw [if_pos e] at hk
        have e' : q' ≠ g := fun e' => hne (e.trans e'.symm)
        rw [if_neg e']
        have hq2 : d.files q' = some y' := by simpa [Disk.setF, e'] using hq'
        intro u
        rcases hr k hk with v | v
        · exact h.files.apart q' g y' x k hq2 hx e' u v
        · have := (h.row hq2 u).2.2.2.2.2; have := v.1; omega
      · rw [if_neg e] at hk
        have hq2 : d.files q = some y := by simpa [Disk.setF, e] using hq
        by_cases e' : q' = g
        · rw [if_pos e']
          intro u
          rcases hr k u with v | v
          · exact h.files.apart q g y x k hq2 hx e hk v
          · have := (h.row hq2 hk).2.2.2.2.2; have := v.1; omega
        · rw [if_neg e']
          exact h.files.apart q q' y y' k hq2 (by simpa [Disk.setF, e'] using hq') hne hk
  refs := by
    have hup : ∀ q, (∃ y, d.files q = some y) → ∃ y, d'.files q = some y := fun q ⟨y, hy⟩ => by
      rw [e4]
      by_cases e : q = g
      · exact ⟨x', by simp [Disk.setF, e]⟩
      · exact ⟨y, by simp [Disk.setF, e, hy]⟩
    exact ⟨by rw [e1]; exact h.refs.fn, by rw [e2]; exact h.refs.fs, by rw [e1]; exact fun s q hs => hup q (h.refs.names s q hs), by rw [e2]; exact fun s q hs => hup q (h.refs.synced s q hs), by rw [e3]; exact fun c hc q hq => hup q (h.refs.changes c hc q hq)⟩
theorem RepAt.filed (h : RepAt A w f d bn bs ch fv) {d' : Disk} {g : Nat} {x x' : Fil} {v' : Value} (hx : d.files g = some x) (hf : w'.heap[f]? = some (.cells (d'.cells bn bs ch) 57 (0, 0))) (hg : w'.heap[g]? = some (.cells #[v', .int .i64 (x'.synced : Nat)] 70 (0, 0))) (ho : OwnB w' v' x'.bytes) (t : Turns (fun k => k = f ∨ k = g ∨ inRow (fv g) k) w w') (hr : ∀ k, inRow v' k → inRow (fv g) k ∨ w.heap.size ≤ k)
    (e1 : d'.names = d.names) (e2 : d'.synced = d.synced) (e3 : d'.changes = d.changes) (e4 : d'.files = (d.setF g x').files) : RepAt (Grow A w) w' f d' bn bs ch (fun k => if k = g then v' else fv k) :=
  h.filedTo (A' := Grow A w) (fun _ hk => .inl hk) hx hf hg ho t (fun k hk => (hr k hk).imp id fun e => ⟨e, .inr e⟩) e1 e2 e3 e4
end

theorem OwnB.slice {w : World} {v : Value} {bs : List (BitVec 8)} (h : OwnB w v bs) : ∃ a c, v = .slice a bs.length c := by
  rcases h with ⟨rfl, rfl⟩ | ⟨r, c, n, rfl, rfl, _⟩
  · exact ⟨_, _, rfl⟩
  · exact ⟨_, _, rfl⟩

set_option maxHeartbeats 1000000 in
theorem sync_rep (A : Nat → Prop) (f : Nat) (d : Disk) (name : ByteArray) (w : World) (h : Rep A w f d) (hn : Num d) (hnm : name.size ≤ maxLen) (R : Ending → World → Prop)
    (HE : ∀ z w', (d.guard (goodN name)).1 = some z → Rep (Grow A w) w' f (d.guard (goodN name)).2 → Turns A w w' → R (.returned (.int .i64 z)) w')
    (HN : (d.guard (goodN name)).1 = none → fileOf d.names name = none → ∀ w', Rep (Grow A w) w' f d.tick → Turns A w w' → R (.returned (.int .i64 6)) w')
    (HS : (d.guard (goodN name)).1 = none → ∀ g x w', fileOf d.names name = some g → d.files g = some x → Rep (Grow A w) w' f (d.tick.setF g ⟨x.bytes, x.bytes.length⟩) → Turns A w w' → R (.returned (.int .i64 0)) w') :
    Calls Try.prog 14 #[.pointer (some ⟨f, 0, none⟩), .string name] w R := by
  obtain ⟨bn, bs, ch, fv, h⟩ := h
  have hfw := lt_of_heap h.cells
  refine sync_via _ name w _ fun w1 t1 hv => ?_
  have tA : ∀ {w'}, Turns (fun k => k = f) w1 w' → Turns A w w' := fun t => (t1.mono fun _ _ x => x.elim).trans (t.mono fun k _ e => by rw [e]; exact h.af)
  refine onfile_rep A f 48 w.heap.size #[] (fun g w => enters48 _ w) d (goodN name) name w1 bn bs ch fv (h.quiet t1) hn hnm hv hfw _ (fun z w' hg hr ht => ?_) (fun hg hfile w' hr ht => ?_) (fun hg g x hfile hx wm hr ht => ?_)
  · exact ⟨z, rfl, HE z w' hg ⟨bn, bs, ch, fv, hr.mono fun k _ hk => .inl hk⟩ (tA ht)⟩
  · exact ⟨6, rfl, HN hg hfile w' ⟨bn, bs, ch, fv, hr.mono fun k _ hk => .inl hk⟩ (tA ht)⟩
  · have hF := hr.files.each g x hx
    obtain ⟨fa, fc, hfv⟩ := hF.own.slice
    have hc := hF.cell
    rw [hfv] at hc
    refine (sync1_any g x.bytes.length (x.synced : Nat) fa fc wm hc).mono ?_
    rintro e w2 ⟨rfl, k1⟩
    have u2 := Turns.of_tick k1
    have hrow : ∀ k, inRow (fv g) k → ¬ k = g := fun k hk e => by
      have := (hr.row (d := d.tick) hx hk).2.2.2.2.1
      rw [e] at this
      rw [show d.tick.files g = d.files g from rfl, hx] at this
      cases this
    have hR : RepAt (Grow A wm) w2 f (d.tick.setF g ⟨x.bytes, x.bytes.length⟩) bn bs ch _ := hr.filed (d := d.tick) (d' := d.tick.setF g ⟨x.bytes, x.bytes.length⟩) (g := g) (x := x) (x' := ⟨x.bytes, x.bytes.length⟩) (v' := .slice fa x.bytes.length fc) hx (u2.heap hr.cells (fun e => (hr.file (d := d.tick) hx).1 e.symm)) k1.1 (by
        rw [← hfv]
        exact hF.own.keep u2 hrow) (u2.mono fun k _ e => .inr (.inl e)) (fun k hk => .inl (by rw [hfv]; exact hk)) rfl rfl rfl rfl
    have hsz : w.heap.size ≤ wm.heap.size := Nat.le_trans t1.size ht.size
    exact ⟨0, rfl, 0, rfl, HS hg g x w2 hfile hx ⟨bn, bs, ch, _, hR.mono fun k _ => grow_of hsz k⟩ ((tA ht).trans (u2.mono fun k _ e => by rw [e]; exact (h.files.each g x hx).ag))⟩
end Go.Proofs.Ytefjljdgdoklmaa

/-
  Append: bytes behind a file's bytes, any number of them.
-/
namespace Go.Proofs.Ytefjljdgdoklmaa
open Go.RowKit Go.Maps

/-- What append answers, onto bytes of one's own, whatever their number. -/
theorem append_all (w : World) (v : Value) (bs : List (BitVec 8)) (h : OwnB w v bs) (x : Value) (news : List (BitVec 8)) (hx : Bytes w x news) (hsm : bs.length + news.length ≤ 140737488355328) :
    ∃ (a' : Option Addr) (n' c' : Nat) (w' : World), (∀ ty, (Builtin.append_ #[28, 28] ty #[v, x]).run Try.prog w = .ok (.slice a' n' c') w') ∧ OwnB w' (.slice a' n' c') (bs ++ news) ∧ Turns (inRow v) w w' ∧ ∀ k, inRow (.slice a' n' c') k → inRow v k ∨ w.heap.size ≤ k := by
  by_cases hpos : 0 < news.length ∨ v ≠ .slice none 0 0
  · obtain ⟨g', n', c', w', h1, h2, h3, h4⟩ := append_own w v bs h x news hx hpos hsm
    exact ⟨_, n', c', w', h1, h2, h3, h4⟩
  · have hv : v = .slice none 0 0 := Classical.byContradiction fun e => hpos (.inr e)
    have hnl : news.length = 0 := by
      rcases Nat.eq_zero_or_pos news.length with e | e
      · exact e
      · exact absurd (.inl e) hpos
    obtain rfl : news = [] := by simpa using hnl
    subst hv
    have hb : bs = [] := by
      rcases h with ⟨e, _⟩ | ⟨g, c, n, e, _⟩
      · exact e
      · cases e
    subst hb
    have hs := src_of_bytes hx
    refine ⟨none, 0, 0, w, fun ty => run_append_nothing w 28 28 ty 5 Try.t5 Try.underlying28 info5 none 0 0 (Nat.le_refl _) x hs, .inl ⟨rfl, rfl⟩, Turns.refl _ _, fun k hk => .inl hk⟩

set_option maxRecDepth 100000 in
set_option maxHeartbeats 4000000 in
theorem append1_all (f pf pb g : Nat) (cs : Array Value) (fv : Value) (s0 : Int) (bs news : List (BitVec 8)) (n : Nat) (a : Option Addr) (c : Nat) (limit used : Int) (w : World) (h0 : w.cell? ⟨pf, 0, none⟩ = some (.pointer (some ⟨f, 0, none⟩))) (h1 : w.cell? ⟨pb, 0, none⟩ = some (.slice a n c))
    (h : w.heap[f]? = some (.cells cs 57 (0, 0))) (h2 : cs[0]? = some (.int .i64 limit)) (h3 : cs[4]? = some (.int .i64 used)) (hl : 0 ≤ used ∧ used ≤ limit ∧ limit ≤ 1073741824) (hf : (n : Int) ≤ limit - used)
    (hx : w.heap[g]? = some (.cells #[fv, .int .i64 s0] 70 (0, 0))) (hown : OwnB w fv bs) (hb : Bytes w (.slice a n c) news) (hbs : bs.length ≤ 1073741824) (hpg : pf ≠ g) (hbg : pb ≠ g) (hpr : ¬ inRow fv pf) (hbr : ¬ inRow fv pb) :
    Calls Try.prog 40 #[.pointer (some ⟨g, 0, none⟩), .pointer (some ⟨pb, 0, none⟩), .pointer (some ⟨pf, 0, none⟩)] w fun e w' => e = .returned (.int .i64 0) ∧ ∃ fv', w'.heap[g]? = some (.cells #[fv', .int .i64 s0] 70 (0, 0)) ∧ OwnB w' fv' (bs ++ news) ∧ w'.heap[f]? = some (.cells (cs.setIfInBounds 4 (.int .i64 (used + n))) 57 (0, 0)) ∧
      Turns (fun k => k = f ∨ k = g ∨ inRow fv k) w w' ∧ ∀ k, inRow fv' k → inRow fv k ∨ w.heap.size ≤ k := by
  have hnl := hb.len
  have hgf : g ≠ f := fun e => by rw [e, h] at hx; cases hx
  have hrow : ∀ k, inRow fv k → k ≠ f ∧ k ≠ g := fun k hk => by
    obtain ⟨cs', hc⟩ := hown.row hk
    exact ⟨fun e => (by rw [e, h] at hc; cases hc), fun e => (by rw [e, hx] at hc; cases hc)⟩
  have q0 : w.cell? ⟨f, 0, none⟩ = some (.int .i64 limit) := (cell_of_row w f 0 _ 57 (0, 0) h).trans h2
  have q4 : w.cell? ⟨f, 4, none⟩ = some (.int .i64 used) := (cell_of_row w f 4 _ 57 (0, 0) h).trans h3
  have hfw := lt_of_heap h
  have H := hide h
  have HX := hide hx
  have HO := hide hown
  have HB := hide hb
  have HRW := hide hrow
  have HNL := hide hnl
  have hfi : ¬ limit - used < (n : Int) := by omega
  clear h hx hown hb hrow hnl
  go_enter Try.func40, Try.ntmps40
  go_wp2_with fail
  go_quiet (fail)
  have r0 : (w.drewN nq).cell? ⟨pf, 0, none⟩ = some (.pointer (some ⟨f, 0, none⟩)) := h0
  have r1 : (w.drewN nq).cell? ⟨pb, 0, none⟩ = some (.slice a n c) := h1
  have t0 : Turns (fun k => k = f ∨ k = g ∨ inRow fv k) w (w.drewN nq) := (Turns.refl _ w).drewN nq
  have H1 : Hid ((w.drewN nq).heap[f]? = some (.cells cs 57 (0, 0))) := H.out
  have HX1 : Hid ((w.drewN nq).heap[g]? = some (.cells #[fv, .int .i64 s0] 70 (0, 0))) := HX.out
  have HO1 : Hid (OwnB (w.drewN nq) fv bs) := HO.out
  have HB1 : Hid (Bytes (w.drewN nq) (.slice a n c) news) := HB.out
  have hsz : (w.drewN nq).heap.size = w.heap.size := rfl
  have T0 := hide t0
  clear q0 q4 h0 h1 t0
  generalize w.drewN nq = w1 at *
  obtain ⟨g3, n3, c3, w3, hr3, ho3, t3, hin3⟩ := append_all w1.drew fv bs HO1.out (.slice a n c) news HB1.out (by have := HNL.out; omega)
  have y0 : w1.cell? ⟨g, 0, none⟩ = some fv := cell_of_row w1 g 0 _ 70 (0, 0) HX1.out
  have HX3 := hide (t3.heap (a := w1.drew) HX1.out (fun hk => (HRW.out g hk).2 rfl))
  have H3 := hide (t3.heap (a := w1.drew) H1.out (fun hk => (HRW.out f hk).1 rfl))
  have y3 : w3.cell? ⟨g, 0, none⟩ = some fv := cell_of_row w3 g 0 _ 70 (0, 0) HX3.out
  have z3 : w3.frozen? ⟨g, 0, none⟩ = false := frozen_of_row w3 g 0 _ 70 HX3.out
  have r03 := t3.cell (a := w1.drew) r0 hpr
  have r13 := t3.cell (a := w1.drew) r1 hbr
  have T3 := hide ((T0.out.drew).trans (t3.mono fun k _ e => .inr (.inr e)))
  have HO3 := hide ho3
  have HIN : Hid (∀ k, inRow (.slice g3 n3 c3) k → inRow fv k ∨ w.heap.size ≤ k) := fun k hk => by rw [← hsz]; exact hin3 k hk
  have hq := hr3 28
  clear ho3 t3 hin3 hr3
  go_wp2_with fail
  go_cut [23] from 17 to 25 (fun _ wx => wx = w3.setCell ⟨g, 0, none⟩ (.slice g3 n3 c3))
  case first =>
    go_region_law (first
      | (refine step_append_run rfl (.tmp 21) (.tmp 22) 28 rfl _ _ rfl rfl _ _ hq 23 rfl ?_; simp only [Act.put, List.setIfInBounds_toArray, List.set_cons_zero, List.set_cons_succ]))
    all_goals go_wp2_with fail
    all_goals go_meet
    all_goals rfl
  case rest =>
    subst hcut
    have t4 := (Tick.refl HX3.out).set 0 (.slice g3 n3 c3)
    have u4 := Turns.of_tick t4
    have hg3 : ∀ k, inRow (.slice g3 n3 c3) k → k ≠ g ∧ k ≠ f := fun k hk => by
      obtain ⟨cs', hc⟩ := HO3.out.row hk
      exact ⟨fun e => (by rw [e, HX3.out] at hc; cases hc), fun e => (by rw [e, H3.out] at hc; cases hc)⟩
    have H4 := hide (u4.heap H3.out (fun e => hgf e.symm))
    have HX4 := hide t4.1
    have HO4 := hide (HO3.out.keep u4 (fun k hk => (hg3 k hk).1))
    have T4 := hide (T3.out.trans (u4.mono fun k _ e => .inr (.inl e)))
    have r04 := u4.cell r03 hpg
    have r14 := u4.cell r13 hbg
    clear t4 u4 y0 y3 z3 r03 r13 hq r0 r1
    generalize w3.setCell ⟨g, 0, none⟩ (.slice g3 n3 c3) = wd at *
    have d4 : wd.cell? ⟨f, 4, none⟩ = some (.int .i64 used) := (cell_of_row wd f 4 _ 57 (0, 0) H4.out).trans h3
    have z4 : wd.frozen? ⟨f, 4, none⟩ = false := frozen_of_row wd f 4 _ 57 H4.out
    go_wp2_with fail
    go_cut [32] from 26 to 34 (fun _ wx => wx = (wd.setCell ⟨f, 4, none⟩ (.int .i64 (used + n))).drew)
    case first =>
      go_region_with (fail)
      all_goals go_wp2_with fail
      all_goals go_meet
      all_goals rw [wrapI _ (by omega) (by omega)]
    case rest =>
      subst hcut
      have t5 := ((Tick.refl H4.out).set 4 (.int .i64 (used + n))).drew
      have u5 := Turns.of_tick t5
      have FIN := hide (And.intro (u5.heap HX4.out hgf) (And.intro (HO4.out.keep u5 (fun k hk => (hg3 k hk).2)) (And.intro t5.1 (And.intro (T4.out.trans (u5.mono fun k _ e => .inl e)) HIN.out))))
      clear t5 u5
      go_wp2_with fail
      go_ret
      exact ⟨rfl, _, FIN.out⟩
end Go.Proofs.Ytefjljdgdoklmaa

/-
  Append and SyncDir of any file system.
-/
namespace Go.Proofs.Ytefjljdgdoklmaa
open Go.RowKit Go.Maps

def Disk.put (d : Disk) (g : Nat) (x : Fil) (news : List (BitVec 8)) : Disk := { d.setF g ⟨x.bytes ++ news, x.synced⟩ with used := d.used + news.length }

theorem Bytes.keep {S : Nat → Prop} {w w' : World} {a : Option Addr} {n c : Nat} {bs : List (BitVec 8)} (h : Bytes w (.slice a n c) bs) (t : Turns S w w') (ha : ∀ q o, a = some ⟨q, o, none⟩ → ¬ S q) : Bytes w' (.slice a n c) bs := by
  obtain ⟨a', c', e, hc⟩ := h
  have e3 : a = a' := by cases e; rfl
  refine ⟨a', c', e, fun k hk => ?_⟩
  obtain ⟨q, o, e1, e2⟩ := hc k hk
  exact ⟨q, o, e1, t.cell e2 (ha q o (e3.trans e1))⟩

set_option maxHeartbeats 1000000 in
theorem append_rep (A : Nat → Prop) (f : Nat) (d : Disk) (name : ByteArray) (a : Option Addr) (n c : Nat) (news : List (BitVec 8)) (w : World) (h : Rep A w f d) (hn : Num d) (hnm : name.size ≤ maxLen) (hb : Bytes w (.slice a n c) news) (hbf : ∀ q o, a = some ⟨q, o, none⟩ → q ≠ f) (R : Ending → World → Prop)
    (HE : ∀ z w', (d.guard (goodN name)).1 = some z → Rep (Grow A w) w' f (d.guard (goodN name)).2 → Turns A w w' → R (.returned (.int .i64 z)) w')
    (HN : (d.guard (goodN name)).1 = none → fileOf d.names name = none → ∀ w', Rep (Grow A w) w' f d.tick → Turns A w w' → R (.returned (.int .i64 6)) w')
    (HF : (d.guard (goodN name)).1 = none → ∀ g x w', fileOf d.names name = some g → d.files g = some x → d.limit - d.used < (news.length : Int) → Rep (Grow A w) w' f d.tick → Turns A w w' → R (.returned (.int .i64 7)) w')
    (HS : (d.guard (goodN name)).1 = none → ∀ g x w', fileOf d.names name = some g → d.files g = some x → (news.length : Int) ≤ d.limit - d.used → Rep (Grow A w) w' f (d.tick.put g x news) → Turns A w w' → R (.returned (.int .i64 0)) w') :
    Calls Try.prog 10 #[.pointer (some ⟨f, 0, none⟩), .string name, .slice a n c] w R := by
  obtain ⟨bn, bs, ch, fv, h⟩ := h
  have hfw := lt_of_heap h.cells
  have hnl := hb.len
  refine append_via _ name a n c w _ fun w1 t1 x0 x1 hv => ?_
  have tA : ∀ {w'}, Turns (fun k => k = f) w1 w' → Turns A w w' := fun t => (t1.mono fun _ _ x => x.elim).trans (t.mono fun k _ e => by rw [e]; exact h.af)
  have tS : ∀ {w'}, Turns (fun k => k = f) w1 w' → Turns (fun k => k < w.heap.size) w1 w' := fun t => t.mono fun k _ e => by rw [e]; exact hfw
  refine onfile_rep A f 40 (w.heap.size + 2) _ (fun g w => enters40 _ w) d (goodN name) name w1 bn bs ch fv (h.quiet t1) hn hnm hv (by omega) _ (fun z w' hg hr ht => ?_) (fun hg hfile w' hr ht => ?_) (fun hg g x hfile hx wm hr ht => ?_)
  · exact ⟨z, rfl, HE z w' hg ⟨bn, bs, ch, fv, hr.mono fun k _ hk => .inl hk⟩ (tA ht), tS ht⟩
  · exact ⟨6, rfl, HN hg hfile w' ⟨bn, bs, ch, fv, hr.mono fun k _ hk => .inl hk⟩ (tA ht), tS ht⟩
  · have hF := hr.files.each g x hx
    have y0 := ht.cell x0 (by show ¬ w.heap.size = f; omega)
    have y1 := ht.cell x1 (by show ¬ w.heap.size + 1 = f; omega)
    have hu := hn.used
    have hu' : 0 ≤ d.used ∧ d.used ≤ d.limit ∧ d.limit ≤ 1073741824 := by omega
    by_cases hroom : (n : Int) ≤ d.limit - d.used
    · have hgw := (h.file hx).2.2.2.2
      have hrl : ∀ k, inRow (fv g) k → k < w.heap.size := fun k hk => (h.row hx hk).2.2.2.2.2
      refine (append1_all f w.heap.size (w.heap.size + 1) g _ (fv g) (x.synced : Nat) x.bytes news n a c d.limit d.used wm y0 y1 hr.cells rfl rfl hu' hroom hF.cell hF.own ((hb.keep t1 fun _ _ _ x => x).keep ht hbf) (hn.bytes g x hx).1 (by omega) (by omega) (fun e => by have := hrl _ e; omega) (fun e => by have := hrl _ e; omega)).mono ?_
      rintro e w2 ⟨rfl, v', k1, k2, k3, k4, k5⟩
      have hR : RepAt (Grow A wm) w2 f (d.tick.put g x news) bn bs ch _ := hr.filed (d := d.tick) (d' := d.tick.put g x news) (g := g) (x := x) (x' := ⟨x.bytes ++ news, x.synced⟩) (v' := v') hx (by
          rw [k3, hnl]
          rfl) k1 k2 k4 k5 rfl rfl rfl rfl
      have hsz : w.heap.size ≤ wm.heap.size := Nat.le_trans t1.size ht.size
      refine ⟨0, rfl, 0, rfl, HS hg g x w2 hfile hx (by omega) ⟨bn, bs, ch, _, hR.mono fun k _ => grow_of hsz k⟩ ((tA ht).trans (k4.mono fun k _ e => ?_)), (tS ht).trans (k4.mono fun k _ e => ?_)⟩
      · rcases e with e | e | e
        · rw [e]; exact h.af
        · rw [e]; exact (h.files.each g x hx).ag
        · exact (h.files.each g x hx).ar k e
      · rcases e with e | e | e
        · rw [e]; exact hfw
        · rw [e]; exact hgw
        · exact hrl k e
    · refine (append1_full f w.heap.size (w.heap.size + 1) _ n a c d.limit d.used wm y0 y1 (cell_of_row wm f 0 _ 57 (0, 0) hr.cells) (cell_of_row wm f 4 _ 57 (0, 0) hr.cells) hu' (by omega)).mono ?_
      rintro e w2 ⟨rfl, m, rfl⟩
      exact ⟨7, rfl, 7, rfl, HF hg g x _ hfile hx (by omega) ⟨bn, bs, ch, fv, (hr.mono fun k _ hk => .inl hk).quiet ((Turns.refl _ wm).drewN m)⟩ ((tA ht).drewN m), (tS ht).drewN m⟩

def Disk.settled (d : Disk) : Disk := { d with synced := d.changes.foldl applyD d.synced, changes := [], used := d.used - d.lost, lost := 0 }

set_option maxHeartbeats 1000000 in
theorem syncdir_rep (A : Nat → Prop) (f : Nat) (d : Disk) (w : World) (h : Rep A w f d) (hn : Num d) (R : Ending → World → Prop)
    (HE : ∀ z w', (d.guard true).1 = some z → Rep (Grow A w) w' f (d.guard true).2 → Turns A w w' → R (.returned (.int .i64 z)) w')
    (HS : (d.guard true).1 = none → ∀ w', Rep (Grow A w) w' f d.tick.settled → Turns A w w' → R (.returned (.int .i64 0)) w') :
    Calls Try.prog 13 #[.pointer (some ⟨f, 0, none⟩)] w R := by
  obtain ⟨bn, bs, ch, fv, h⟩ := h
  have hfw := lt_of_heap h.cells
  have hsw := h.synced.lt
  refine syncdir_via _ w _ fun w1 t1 x0 => ?_
  have tA : ∀ {w'}, Turns (fun k => k = f) w1 w' → Turns A w w' := fun t => (t1.mono fun _ _ x => x.elim).trans (t.mono fun k _ e => by rw [e]; exact h.af)
  refine operate_rep A f 47 _ (enters47 _) d true w1 bn bs ch fv (h.quiet t1) hn _ (fun z w' hg hr ht => ?_) (fun hg wc hr ht => ?_)
  · exact ⟨z, rfl, HE z w' hg ⟨bn, bs, ch, fv, hr.mono fun k _ hk => .inl hk⟩ (tA ht)⟩
  · have hu := hn.used
    have hs := hn.synced
    have hc := hn.changes
    refine (syncdir1_any f bs (Maps.size d.synced) w.heap.size d.synced d.changes d.limit d.used d.lost (d.ops + 1) (tick d.fuse) (tick d.fault) d.fail d.on _ ch wc (ht.cell x0 (by show ¬ w.heap.size = f; omega)) hr.cells hr.synced hr.chs (by omega) hn.text (by omega) (by omega) (by omega)).mono ?_
    rintro e w2 ⟨rfl, k1, k2, k3⟩
    have hR : RepAt A w2 f d.tick.settled bn bs (.slice none 0 0) fv := by
      refine ⟨k1, hr.names.keep k3 (fun e => e.elim hr.fn.symm hr.ne), k2.tight, .inl ⟨rfl, rfl⟩, hr.ne, hr.af, hr.an, hr.ay, fun k hk => ?_, ⟨fun g x hx => ?_, hr.files.apart⟩, ⟨h.refs.fn, h.refs.fs.fold _, h.refs.names, fun s g hs => ?_, fun c hc => by cases hc⟩⟩
      · obtain ⟨_, _, e⟩ := hk
        cases e
      · have hx' : d.tick.files g = some x := hx
        refine (hr.files.each g x hx').keep k3 (fun e => ?_) (fun k hk e => ?_)
        · rcases e with e | e
          · exact (hr.file hx').1 e
          · exact (hr.file hx').2.2.1 e
        · rcases e with e | e
          · exact (hr.row hx' hk).1 e
          · exact (hr.row hx' hk).2.2.1 e
      · rcases fileOf_folded d.changes h.synced.isMap hs with hs | ⟨c, h1, h2⟩
        · exact h.refs.synced s g hs
        · exact h.refs.changes c h1 g h2
    exact ⟨0, rfl, 0, rfl, HS hg w2 ⟨bn, bs, _, fv, hR.mono fun k _ hk => .inl hk⟩ ((tA ht).trans (k3.mono fun k _ e => by
      rcases e with e | e
      · rw [e]; exact h.af
      · rw [e]; exact h.ay))⟩
end Go.Proofs.Ytefjljdgdoklmaa
