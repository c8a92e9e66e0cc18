/-
  Append and SyncDir of any file system.
-/
import Derived.Test.YtefjljdgdoklmaaDfi
import Derived.Test.YtefjljdgdoklmaaApp2
namespace Go.Proofs.Ytefjljdgdoklmaa
open Go.RowKit Go.Maps

def Disk.put (d : Disk) (g : Nat) (x : Fil) (news : List (BitVec 8)) : Disk := { d.setF g ⟨x.bytes ++ news, x.synced⟩ with used := d.used + news.length }

theorem Bytes.keep {S : Nat → Prop} {w w' : World} {a : Option Addr} {n c : Nat} {bs : List (BitVec 8)} (h : Bytes w (.slice a n c) bs) (t : Turns S w w') (ha : ∀ q o, a = some ⟨q, o, none⟩ → ¬ S q) : Bytes w' (.slice a n c) bs := by
  obtain ⟨a', c', e, hc⟩ := h
  have e3 : a = a' := by cases e; rfl
  refine ⟨a', c', e, fun k hk => ?_⟩
  obtain ⟨q, o, e1, e2⟩ := hc k hk
  exact ⟨q, o, e1, t.cell e2 (ha q o (e3.trans e1))⟩

set_option maxHeartbeats 1000000 in
theorem append_rep (A : Nat → Prop) (f : Nat) (d : Disk) (name : ByteArray) (a : Option Addr) (n c : Nat) (news : List (BitVec 8)) (w : World) (h : Rep A w f d) (hn : Num d) (hnm : name.size ≤ maxLen) (hb : Bytes w (.slice a n c) news) (hbf : ∀ q o, a = some ⟨q, o, none⟩ → q ≠ f) (R : Ending → World → Prop)
    (HE : ∀ z w', (d.guard (goodN name)).1 = some z → Rep (Grow A w) w' f (d.guard (goodN name)).2 → Turns A w w' → R (.returned (.int .i64 z)) w')
    (HN : (d.guard (goodN name)).1 = none → fileOf d.names name = none → ∀ w', Rep (Grow A w) w' f d.tick → Turns A w w' → R (.returned (.int .i64 6)) w')
    (HF : (d.guard (goodN name)).1 = none → ∀ g x w', fileOf d.names name = some g → d.files g = some x → d.limit - d.used < (news.length : Int) → Rep (Grow A w) w' f d.tick → Turns A w w' → R (.returned (.int .i64 7)) w')
    (HS : (d.guard (goodN name)).1 = none → ∀ g x w', fileOf d.names name = some g → d.files g = some x → (news.length : Int) ≤ d.limit - d.used → Rep (Grow A w) w' f (d.tick.put g x news) → Turns A w w' → R (.returned (.int .i64 0)) w') :
    Calls Try.prog 10 #[.pointer (some ⟨f, 0, none⟩), .string name, .slice a n c] w R := by
  obtain ⟨bn, bs, ch, fv, h⟩ := h
  have hfw := lt_of_heap h.cells
  have hnl := hb.len
  refine append_via _ name a n c w _ fun w1 t1 x0 x1 hv => ?_
  have tA : ∀ {w'}, Turns (fun k => k = f) w1 w' → Turns A w w' := fun t => (t1.mono fun _ _ x => x.elim).trans (t.mono fun k _ e => by rw [e]; exact h.af)
  have tS : ∀ {w'}, Turns (fun k => k = f) w1 w' → Turns (fun k => k < w.heap.size) w1 w' := fun t => t.mono fun k _ e => by rw [e]; exact hfw
  refine onfile_rep A f 40 (w.heap.size + 2) _ (fun g w => enters40 _ w) d (goodN name) name w1 bn bs ch fv (h.quiet t1) hn hnm hv (by omega) _ (fun z w' hg hr ht => ?_) (fun hg hfile w' hr ht => ?_) (fun hg g x hfile hx wm hr ht => ?_)
  · exact ⟨z, rfl, HE z w' hg ⟨bn, bs, ch, fv, hr.mono fun k _ hk => .inl hk⟩ (tA ht), tS ht⟩
  · exact ⟨6, rfl, HN hg hfile w' ⟨bn, bs, ch, fv, hr.mono fun k _ hk => .inl hk⟩ (tA ht), tS ht⟩
  · have hF := hr.files.each g x hx
    have y0 := ht.cell x0 (by show ¬ w.heap.size = f; omega)
    have y1 := ht.cell x1 (by show ¬ w.heap.size + 1 = f; omega)
    have hu := hn.used
    have hu' : 0 ≤ d.used ∧ d.used ≤ d.limit ∧ d.limit ≤ 1073741824 := by omega
    by_cases hroom : (n : Int) ≤ d.limit - d.used
    · have hgw := (h.file hx).2.2.2.2
      have hrl : ∀ k, inRow (fv g) k → k < w.heap.size := fun k hk => (h.row hx hk).2.2.2.2.2
      refine (append1_all f w.heap.size (w.heap.size + 1) g _ (fv g) (x.synced : Nat) x.bytes news n a c d.limit d.used wm y0 y1 hr.cells rfl rfl hu' hroom hF.cell hF.own ((hb.keep t1 fun _ _ _ x => x).keep ht hbf) (hn.bytes g x hx).1 (by omega) (by omega) (fun e => by have := hrl _ e; omega) (fun e => by have := hrl _ e; omega)).mono ?_
      rintro e w2 ⟨rfl, v', k1, k2, k3, k4, k5⟩
      have hR : RepAt (Grow A wm) w2 f (d.tick.put g x news) bn bs ch _ := hr.filed (d := d.tick) (d' := d.tick.put g x news) (g := g) (x := x) (x' := ⟨x.bytes ++ news, x.synced⟩) (v' := v') hx (by
          rw [k3, hnl]
          rfl) k1 k2 k4 k5 rfl rfl rfl rfl
      have hsz : w.heap.size ≤ wm.heap.size := Nat.le_trans t1.size ht.size
      refine ⟨0, rfl, 0, rfl, HS hg g x w2 hfile hx (by omega) ⟨bn, bs, ch, _, hR.mono fun k _ => grow_of hsz k⟩ ((tA ht).trans (k4.mono fun k _ e => ?_)), (tS ht).trans (k4.mono fun k _ e => ?_)⟩
      · rcases e with e | e | e
        · rw [e]; exact h.af
        · rw [e]; exact (h.files.each g x hx).ag
        · exact (h.files.each g x hx).ar k e
      · rcases e with e | e | e
        · rw [e]; exact hfw
        · rw [e]; exact hgw
        · exact hrl k e
    · refine (append1_full f w.heap.size (w.heap.size + 1) _ n a c d.limit d.used wm y0 y1 (cell_of_row wm f 0 _ 57 (0, 0) hr.cells) (cell_of_row wm f 4 _ 57 (0, 0) hr.cells) hu' (by omega)).mono ?_
      rintro e w2 ⟨rfl, m, rfl⟩
      exact ⟨7, rfl, 7, rfl, HF hg g x _ hfile hx (by omega) ⟨bn, bs, ch, fv, (hr.mono fun k _ hk => .inl hk).quiet ((Turns.refl _ wm).drewN m)⟩ ((tA ht).drewN m), (tS ht).drewN m⟩

def Disk.settled (d : Disk) : Disk := { d with synced := d.changes.foldl applyD d.synced, changes := [], used := d.used - d.lost, lost := 0 }

set_option maxHeartbeats 1000000 in
theorem syncdir_rep (A : Nat → Prop) (f : Nat) (d : Disk) (w : World) (h : Rep A w f d) (hn : Num d) (R : Ending → World → Prop)
    (HE : ∀ z w', (d.guard true).1 = some z → Rep (Grow A w) w' f (d.guard true).2 → Turns A w w' → R (.returned (.int .i64 z)) w')
    (HS : (d.guard true).1 = none → ∀ w', Rep (Grow A w) w' f d.tick.settled → Turns A w w' → R (.returned (.int .i64 0)) w') :
    Calls Try.prog 13 #[.pointer (some ⟨f, 0, none⟩)] w R := by
  obtain ⟨bn, bs, ch, fv, h⟩ := h
  have hfw := lt_of_heap h.cells
  have hsw := h.synced.lt
  refine syncdir_via _ w _ fun w1 t1 x0 => ?_
  have tA : ∀ {w'}, Turns (fun k => k = f) w1 w' → Turns A w w' := fun t => (t1.mono fun _ _ x => x.elim).trans (t.mono fun k _ e => by rw [e]; exact h.af)
  refine operate_rep A f 47 _ (enters47 _) d true w1 bn bs ch fv (h.quiet t1) hn _ (fun z w' hg hr ht => ?_) (fun hg wc hr ht => ?_)
  · exact ⟨z, rfl, HE z w' hg ⟨bn, bs, ch, fv, hr.mono fun k _ hk => .inl hk⟩ (tA ht)⟩
  · have hu := hn.used
    have hs := hn.synced
    have hc := hn.changes
    refine (syncdir1_any f bs (Maps.size d.synced) w.heap.size d.synced d.changes d.limit d.used d.lost (d.ops + 1) (tick d.fuse) (tick d.fault) d.fail d.on _ ch wc (ht.cell x0 (by show ¬ w.heap.size = f; omega)) hr.cells hr.synced hr.chs (by omega) hn.text (by omega) (by omega) (by omega)).mono ?_
    rintro e w2 ⟨rfl, k1, k2, k3⟩
    have hR : RepAt A w2 f d.tick.settled bn bs (.slice none 0 0) fv := by
      refine ⟨k1, hr.names.keep k3 (fun e => e.elim hr.fn.symm hr.ne), k2.tight, .inl ⟨rfl, rfl⟩, hr.ne, hr.af, hr.an, hr.ay, fun k hk => ?_, ⟨fun g x hx => ?_, hr.files.apart⟩, ⟨h.refs.fn, h.refs.fs.fold _, h.refs.names, fun s g hs => ?_, fun c hc => by cases hc⟩⟩
      · obtain ⟨_, _, e⟩ := hk
        cases e
      · have hx' : d.tick.files g = some x := hx
        refine (hr.files.each g x hx').keep k3 (fun e => ?_) (fun k hk e => ?_)
        · rcases e with e | e
          · exact (hr.file hx').1 e
          · exact (hr.file hx').2.2.1 e
        · rcases e with e | e
          · exact (hr.row hx' hk).1 e
          · exact (hr.row hx' hk).2.2.1 e
      · rcases fileOf_folded d.changes h.synced.isMap hs with hs | ⟨c, h1, h2⟩
        · exact h.refs.synced s g hs
        · exact h.refs.changes c h1 g h2
    exact ⟨0, rfl, 0, rfl, HS hg w2 ⟨bn, bs, _, fv, hR.mono fun k _ hk => .inl hk⟩ ((tA ht).trans (k3.mono fun k _ e => by
      rcases e with e | e
      · rw [e]; exact h.af
      · rw [e]; exact h.ay))⟩
end Go.Proofs.Ytefjljdgdoklmaa
