/-
  Operations on the file of a name, of any file system: Sync, Append, Remove, Rename.
-/
import Derived.Test.YtefjljdgdoklmaaDcr
namespace Go.Proofs.Ytefjljdgdoklmaa
open Go.RowKit Go.Maps

/-- An operation on the file of a name. -/
theorem onfile_rep (A : Nat → Prop) (f M q : Nat) (caps : Array Value) (hent : ∀ g w, (callFunc M (#[.pointer (some ⟨g, 0, none⟩)] ++ caps)).run Try.prog w = .ok (.enter M (#[.pointer (some ⟨g, 0, none⟩)] ++ caps)) w) (d : Disk) (right : Bool) (name : ByteArray) (w : World) (bn bs : Nat) (ch : Value) (fv : Nat → Value) (h : RepAt A w f d bn bs ch fv) (hn : Num d) (hnm : name.size ≤ maxLen) (hv : OnVars w q (some ⟨f, 0, none⟩) name M caps) (hq : f < q) (R : Ending → World → Prop)
    (HE : ∀ z w', (d.guard right).1 = some z → RepAt A w' f (d.guard right).2 bn bs ch fv → Turns (fun k => k = f) w w' → R (.returned (.int .i64 z)) w')
    (HN : (d.guard right).1 = none → fileOf d.names name = none → ∀ w', RepAt A w' f d.tick bn bs ch fv → Turns (fun k => k = f) w w' → R (.returned (.int .i64 6)) w')
    (HS : (d.guard right).1 = none → ∀ g x, fileOf d.names name = some g → d.files g = some x → ∀ wm, RepAt A wm f d.tick bn bs ch fv → Turns (fun k => k = f) w wm → Calls Try.prog M (#[.pointer (some ⟨g, 0, none⟩)] ++ caps) wm fun e w' => ∃ z : Int, e = .returned (.int .i64 z) ∧ R (.returned (.int .i64 z)) w') :
    Calls Try.prog 36 #[.pointer (some ⟨f, 0, none⟩), .bool right, onVal q] w R := by
  obtain ⟨v0, v1, v2⟩ := hv
  refine operate_rep A f 73 _ (enters73 _) d right w bn bs ch fv h hn _ HE (fun hg wc hr ht => ?_)
  have xf : ∀ k, k ≠ f → ∀ v, w.cell? ⟨k, 0, none⟩ = some v → wc.cell? ⟨k, 0, none⟩ = some v := fun k hk v hv => ht.cell hv hk
  have c1 : wc.cell? ⟨f, 1, none⟩ = some (.map (some bn)) := cell_of_row wc f 1 _ 57 (0, 0) hr.cells
  cases hfile : fileOf d.names name with
  | none =>
    refine (onFile1_none f bn (Maps.size d.names) q (q + 1) (q + 2) d.names name wc (xf _ (by omega) _ v0) (xf _ (by omega) _ v1) c1 hr.names hnm hfile).mono ?_
    rintro e w2 ⟨rfl, m, rfl⟩
    exact ⟨6, rfl, HN hg hfile _ (hr.quiet ((Turns.refl _ wc).drewN m)) (ht.drewN m)⟩
  | some g =>
    obtain ⟨x, hx⟩ := h.refs.names name g hfile
    refine onFile1_some f bn (Maps.size d.names) q (q + 1) (q + 2) g M caps d.names name wc (hent g) (xf _ (by omega) _ v0) (xf _ (by omega) _ v1) c1 (xf _ (by omega) _ v2) hr.names hnm hfile _ fun m => ?_
    refine (HS hg g x hfile hx _ (hr.quiet ((Turns.refl _ wc).drewN m)) (ht.drewN m)).mono ?_
    rintro e w2 ⟨z, rfl, hz⟩
    exact ⟨z, rfl, z, rfl, hz⟩

section
variable {A : Nat → Prop} {w w' : World} {f : Nat} {d : Disk} {bn bs : Nat} {ch : Value} {fv : Nat → Value}
/-- One file has turned, and the file system's own numbers. -/
theorem RepAt.filedTo {A' : Nat → Prop} (hA : ∀ k, A k → A' k) (h : RepAt A w f d bn bs ch fv) {d' : Disk} {g : Nat} {x x' : Fil} {v' : Value} (hx : d.files g = some x) (hf : w'.heap[f]? = some (.cells (d'.cells bn bs ch) 57 (0, 0))) (hg : w'.heap[g]? = some (.cells #[v', .int .i64 (x'.synced : Nat)] 70 (0, 0))) (ho : OwnB w' v' x'.bytes) (t : Turns (fun k => k = f ∨ k = g ∨ inRow (fv g) k) w w') (hr : ∀ k, inRow v' k → inRow (fv g) k ∨ w.heap.size ≤ k ∧ A' k)
    (e1 : d'.names = d.names) (e2 : d'.synced = d.synced) (e3 : d'.changes = d.changes) (e4 : d'.files = (d.setF g x').files) : RepAt A' w' f d' bn bs ch (fun k => if k = g then v' else fv k) where
  cells := hf
  names := by
    rw [e1]
    refine h.names.keep t fun e => ?_
    rcases e with e | e | e
    · exact h.fn e.symm
    · exact (h.file hx).2.1 e.symm
    · exact (h.row hx e).2.1 rfl
  synced := by
    rw [e2]
    refine h.synced.keep t fun e => ?_
    rcases e with e | e | e
    · exact h.fs e.symm
    · exact (h.file hx).2.2.1 e.symm
    · exact (h.row hx e).2.2.1 rfl
  chs := by
    rw [e3]
    refine h.chs.keep t fun k hk e => ?_
    rcases e with e | e | e
    · exact (h.chrow hk).1 e
    · rw [e] at hk; exact (h.file hx).2.2.2.1 hk
    · exact (h.row hx e).2.2.2.1 hk
  ne := h.ne
  af := hA _ h.af
  an := hA _ h.an
  ay := hA _ h.ay
  ac := fun k hk => hA _ (h.ac k hk)
  files := by
    rw [e4]
    refine ⟨fun q y hq => ?_, fun q q' y y' k hq hq' hne hk => ?_⟩
    · by_cases e : q = g
      · subst e
        have hy : x' = y := by simpa [Disk.setF] using hq
        subst hy
        rw [if_pos rfl]
        exact ⟨hg, ho, hA _ (h.files.each q x hx).ag, fun k hk => (hr k hk).elim (fun e => hA _ ((h.files.each q x hx).ar k e)) And.right⟩
      · rw [if_neg e]
        have hq' : d.files q = some y := by simpa [Disk.setF, e] using hq
        refine ((h.files.each q y hq').mono (A' := A') fun k _ hk => hA k hk).keep t (fun u => ?_) (fun k hk u => ?_)
        · rcases u with u | u | u
          · exact (h.file hq').1 u
          · exact e u
          · rw [(h.row hx u).2.2.2.2.1] at hq'; cases hq'
        · rcases u with u | u | u
          · exact (h.row hq' hk).1 u
          · have := (h.row hq' hk).2.2.2.2.1
            rw [u, hx] at this; cases this
          · exact h.files.apart q g y x k hq' hx e hk u
    · by_cases e : q = g
      · rw [if_pos e] at hk
        have e' : q' ≠ g := fun e' => hne (e.trans e'.symm)
        rw [if_neg e']
        have hq2 : d.files q' = some y' := by simpa [Disk.setF, e'] using hq'
        intro u
        rcases hr k hk with v | v
        · exact h.files.apart q' g y' x k hq2 hx e' u v
        · have := (h.row hq2 u).2.2.2.2.2; have := v.1; omega
      · rw [if_neg e] at hk
        have hq2 : d.files q = some y := by simpa [Disk.setF, e] using hq
        by_cases e' : q' = g
        · rw [if_pos e']
          intro u
          rcases hr k u with v | v
          · exact h.files.apart q g y x k hq2 hx e hk v
          · have := (h.row hq2 hk).2.2.2.2.2; have := v.1; omega
        · rw [if_neg e']
          exact h.files.apart q q' y y' k hq2 (by simpa [Disk.setF, e'] using hq') hne hk
  refs := by
    have hup : ∀ q, (∃ y, d.files q = some y) → ∃ y, d'.files q = some y := fun q ⟨y, hy⟩ => by
      rw [e4]
      by_cases e : q = g
      · exact ⟨x', by simp [Disk.setF, e]⟩
      · exact ⟨y, by simp [Disk.setF, e, hy]⟩
    exact ⟨by rw [e1]; exact h.refs.fn, by rw [e2]; exact h.refs.fs, by rw [e1]; exact fun s q hs => hup q (h.refs.names s q hs), by rw [e2]; exact fun s q hs => hup q (h.refs.synced s q hs), by rw [e3]; exact fun c hc q hq => hup q (h.refs.changes c hc q hq)⟩
theorem RepAt.filed (h : RepAt A w f d bn bs ch fv) {d' : Disk} {g : Nat} {x x' : Fil} {v' : Value} (hx : d.files g = some x) (hf : w'.heap[f]? = some (.cells (d'.cells bn bs ch) 57 (0, 0))) (hg : w'.heap[g]? = some (.cells #[v', .int .i64 (x'.synced : Nat)] 70 (0, 0))) (ho : OwnB w' v' x'.bytes) (t : Turns (fun k => k = f ∨ k = g ∨ inRow (fv g) k) w w') (hr : ∀ k, inRow v' k → inRow (fv g) k ∨ w.heap.size ≤ k)
    (e1 : d'.names = d.names) (e2 : d'.synced = d.synced) (e3 : d'.changes = d.changes) (e4 : d'.files = (d.setF g x').files) : RepAt (Grow A w) w' f d' bn bs ch (fun k => if k = g then v' else fv k) :=
  h.filedTo (A' := Grow A w) (fun _ hk => .inl hk) hx hf hg ho t (fun k hk => (hr k hk).imp id fun e => ⟨e, .inr e⟩) e1 e2 e3 e4
end

theorem OwnB.slice {w : World} {v : Value} {bs : List (BitVec 8)} (h : OwnB w v bs) : ∃ a c, v = .slice a bs.length c := by
  rcases h with ⟨rfl, rfl⟩ | ⟨r, c, n, rfl, rfl, _⟩
  · exact ⟨_, _, rfl⟩
  · exact ⟨_, _, rfl⟩

set_option maxHeartbeats 1000000 in
theorem sync_rep (A : Nat → Prop) (f : Nat) (d : Disk) (name : ByteArray) (w : World) (h : Rep A w f d) (hn : Num d) (hnm : name.size ≤ maxLen) (R : Ending → World → Prop)
    (HE : ∀ z w', (d.guard (goodN name)).1 = some z → Rep (Grow A w) w' f (d.guard (goodN name)).2 → Turns A w w' → R (.returned (.int .i64 z)) w')
    (HN : (d.guard (goodN name)).1 = none → fileOf d.names name = none → ∀ w', Rep (Grow A w) w' f d.tick → Turns A w w' → R (.returned (.int .i64 6)) w')
    (HS : (d.guard (goodN name)).1 = none → ∀ g x w', fileOf d.names name = some g → d.files g = some x → Rep (Grow A w) w' f (d.tick.setF g ⟨x.bytes, x.bytes.length⟩) → Turns A w w' → R (.returned (.int .i64 0)) w') :
    Calls Try.prog 14 #[.pointer (some ⟨f, 0, none⟩), .string name] w R := by
  obtain ⟨bn, bs, ch, fv, h⟩ := h
  have hfw := lt_of_heap h.cells
  refine sync_via _ name w _ fun w1 t1 hv => ?_
  have tA : ∀ {w'}, Turns (fun k => k = f) w1 w' → Turns A w w' := fun t => (t1.mono fun _ _ x => x.elim).trans (t.mono fun k _ e => by rw [e]; exact h.af)
  refine onfile_rep A f 48 w.heap.size #[] (fun g w => enters48 _ w) d (goodN name) name w1 bn bs ch fv (h.quiet t1) hn hnm hv hfw _ (fun z w' hg hr ht => ?_) (fun hg hfile w' hr ht => ?_) (fun hg g x hfile hx wm hr ht => ?_)
  · exact ⟨z, rfl, HE z w' hg ⟨bn, bs, ch, fv, hr.mono fun k _ hk => .inl hk⟩ (tA ht)⟩
  · exact ⟨6, rfl, HN hg hfile w' ⟨bn, bs, ch, fv, hr.mono fun k _ hk => .inl hk⟩ (tA ht)⟩
  · have hF := hr.files.each g x hx
    obtain ⟨fa, fc, hfv⟩ := hF.own.slice
    have hc := hF.cell
    rw [hfv] at hc
    refine (sync1_any g x.bytes.length (x.synced : Nat) fa fc wm hc).mono ?_
    rintro e w2 ⟨rfl, k1⟩
    have u2 := Turns.of_tick k1
    have hrow : ∀ k, inRow (fv g) k → ¬ k = g := fun k hk e => by
      have := (hr.row (d := d.tick) hx hk).2.2.2.2.1
      rw [e] at this
      rw [show d.tick.files g = d.files g from rfl, hx] at this
      cases this
    have hR : RepAt (Grow A wm) w2 f (d.tick.setF g ⟨x.bytes, x.bytes.length⟩) bn bs ch _ := hr.filed (d := d.tick) (d' := d.tick.setF g ⟨x.bytes, x.bytes.length⟩) (g := g) (x := x) (x' := ⟨x.bytes, x.bytes.length⟩) (v' := .slice fa x.bytes.length fc) hx (u2.heap hr.cells (fun e => (hr.file (d := d.tick) hx).1 e.symm)) k1.1 (by
        rw [← hfv]
        exact hF.own.keep u2 hrow) (u2.mono fun k _ e => .inr (.inl e)) (fun k hk => .inl (by rw [hfv]; exact hk)) rfl rfl rfl rfl
    have hsz : w.heap.size ≤ wm.heap.size := Nat.le_trans t1.size ht.size
    exact ⟨0, rfl, 0, rfl, HS hg g x w2 hfile hx ⟨bn, bs, ch, _, hR.mono fun k _ => grow_of hsz k⟩ ((tA ht).trans (u2.mono fun k _ e => by rw [e]; exact (h.files.each g x hx).ag))⟩
end Go.Proofs.Ytefjljdgdoklmaa
