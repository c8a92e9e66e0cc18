/-
  A file system with one file: SyncDir, Append, Sync, and Create of a name that is there.
-/
import Derived.Test.YtefjljdgdoklmaaOne
namespace Go.Proofs.Ytefjljdgdoklmaa
open Go.RowKit Go.Maps

set_option maxHeartbeats 1000000 in
theorem syncdir_one (B f g : Nat) (name : ByteArray) (l : List Chg) (S T : DataW Unit) (bytes : List (BitVec 8)) (s0 : Nat) (limit used lost ops : Int) (w : World) (h : One B w f g name l S bytes s0 limit used lost ops) (hT : l.foldl applyD S = T) (hl : l.length ≤ 100) (hnm : ∀ x ∈ l, x.went.size ≤ maxLen ∧ x.became.size ≤ maxLen) (ho : 0 ≤ ops ∧ ops ≤ 1000) (hu : 0 ≤ lost ∧ lost ≤ used ∧ used ≤ 1073741824) (hB : B ≤ w.heap.size) (hS : Maps.size S ≤ 900) :
    Calls Try.prog 13 #[.pointer (some ⟨f, 0, none⟩)] w fun e w' => e = .returned (.int .i64 0) ∧ One B w' f g name [] T bytes s0 limit (used - lost) 0 (ops + 1) ∧ Below B w w' := by
  obtain ⟨fB, gB, bn, bs, nn, ns, ch, fv, hf, hd, hs0, hch, hg, hown, hne, b1, b2, b3, b4, m1, _⟩ := h
  have hs := hs0.tight
  generalize Maps.size S = ns at *
  refine syncdir_via _ w _ fun w1 t1 x0 => ?_
  have hf1 := t1.heap hf (fun x => x)
  refine operate_go f bn 47 _ (enters47 _) limit used lost ops (-1) (-1) 0 _ _ w1 hf1 (by omega) (by decide) (by decide) (by decide) (by decide) _ fun wc hTk => ?_
  have u := Turns.of_tick hTk
  have hd1 : Dir w1 bn nn (one name g) := hd.keep t1 (fun x => x)
  have hs1 : Dir w1 bs ns S := hs.keep t1 (fun x => x)
  have hfn : f ≠ bn := hd1.ne_cells hf1
  have hfs : f ≠ bs := hs1.ne_cells hf1
  have hfw := lt_of_heap hf
  have hsw := hs.lt
  have hgf : g ≠ f := fun e => by rw [e, hf] at hg; cases hg
  have hgn : g ≠ bn := hd.ne_cells hg
  have hgs : g ≠ bs := hs.ne_cells hg
  have hrow : ∀ k, inRow ch k → k ≠ f := fun k hk e => by
    obtain ⟨cs, hc⟩ := hch.row hk
    rw [e, hf] at hc
    cases hc
  have hrowf : ∀ k, inRow fv k → k ≠ f ∧ k ≠ bs := fun k hk => by
    obtain ⟨cs, hc⟩ := hown.row hk
    exact ⟨fun e => (by rw [e, hf] at hc; cases hc), hs.ne_cells hc⟩
  refine (syncdir1_any f bs ns w.heap.size S l limit used lost (ops + 1) (tick (-1)) (tick (-1)) 0 true _ ch wc (u.cell x0 (by show ¬ w.heap.size = f; omega)) hTk.1 (hs1.keep u hfs.symm) ((hch.keep t1 (fun _ _ x => x)).keep u hrow) (by omega) hnm (by omega) (by omega) hu).mono ?_
  rintro e w2 ⟨rfl, k1, k2, k3⟩
  have tall : Turns (fun k => k = f ∨ k = bs) w w2 := ((t1.mono fun _ _ x => x.elim).trans (u.mono fun _ _ e => Or.inl e)).trans k3
  refine ⟨0, rfl, 0, rfl, rfl, ⟨fB, gB, bn, bs, nn, ns + l.length, _, fv, k1, ?_, ?_, .inl ⟨rfl, rfl⟩, ?_, ?_, hne, b1, b2, ?_, b4, m1, by omega⟩, ?_⟩
  · exact hd.keep tall fun e => e.elim hfn.symm hne
  · rw [← hT]
    exact k2
  · exact tall.heap hg fun e => e.elim hgf hgs
  · exact hown.keep tall fun k hk e => e.elim (hrowf k hk).1 (hrowf k hk).2
  · intro k hk
    obtain ⟨_, _, e⟩ := hk
    cases e
  · exact tall.below hB fun k e => by
      rcases e with e | e
      · omega
      · omega

set_option maxHeartbeats 1000000 in
theorem append_one (B f g : Nat) (name : ByteArray) (l : List Chg) (S : DataW Unit) (bytes news : List (BitVec 8)) (s0 : Nat) (limit used lost ops : Int) (a : Option Addr) (n c : Nat) (w : World) (h : One B w f g name l S bytes s0 limit used lost ops) (hb : Bytes w (.slice a n c) news) (hpos : 0 < n) (hroom : (n : Int) ≤ limit - used) (hu : 0 ≤ used ∧ used ≤ limit ∧ limit ≤ 1073741824) (hbl : bytes.length ≤ 1073741824) (ho : 0 ≤ ops ∧ ops ≤ 1000) (hB : B ≤ w.heap.size) (hgn : goodN name = true) (hnm : name.size ≤ maxLen)
    (hbf : ∀ q o, a = some ⟨q, o, none⟩ → q ≠ f) :
    Calls Try.prog 10 #[.pointer (some ⟨f, 0, none⟩), .string name, .slice a n c] w fun e w' => e = .returned (.int .i64 0) ∧ One B w' f g name l S (bytes ++ news) s0 limit (used + n) lost (ops + 1) ∧ Below B w w' := by
  obtain ⟨fB, gB, bn, bs, nn, ns, ch, fv, hf, hd, hs, hch, hg, hown, hne, b1, b2, b3, b4, m1, m2⟩ := h
  refine append_via _ name a n c w _ fun w1 t1 x0 x1 hv => ?_
  obtain ⟨v0, v1, v2⟩ := hv
  rw [hgn]
  have hf1 := t1.heap hf (fun x => x)
  have hd1 : Dir w1 bn nn (one name g) := hd.keep t1 (fun x => x)
  have hs1 : Dir w1 bs ns S := hs.keep t1 (fun x => x)
  have hfn : f ≠ bn := hd1.ne_cells hf1
  have hfs : f ≠ bs := hs1.ne_cells hf1
  have hfw := lt_of_heap hf
  have hgw := lt_of_heap hg
  have hgf : g ≠ f := fun e => by rw [e, hf] at hg; cases hg
  have hgbn : g ≠ bn := hd.ne_cells hg
  have hgs : g ≠ bs := hs.ne_cells hg
  have hrow : ∀ k, inRow ch k → k ≠ f ∧ k ≠ g ∧ ¬ inRow fv k := fun k hk => by
    obtain ⟨cs, hc⟩ := hch.row hk
    refine ⟨fun e => (by rw [e, hf] at hc; cases hc), fun e => (by rw [e, hg] at hc; cases hc), fun e => ?_⟩
    obtain ⟨cs', hc'⟩ := hown.row e
    rw [hc] at hc'
    cases hc'
  have hrowf : ∀ k, inRow fv k → k ≠ f ∧ k ≠ g ∧ k ≠ bn ∧ k ≠ bs ∧ k < w.heap.size := fun k hk => by
    obtain ⟨cs, hc⟩ := hown.row hk
    exact ⟨fun e => (by rw [e, hf] at hc; cases hc), fun e => (by rw [e, hg] at hc; cases hc), hd.ne_cells hc, hs.ne_cells hc, lt_of_heap hc⟩
  refine operate_go f bn 73 _ (enters73 _) limit used lost ops (-1) (-1) 0 _ _ w1 hf1 (by omega) (by decide) (by decide) (by decide) (by decide) _ fun wc hTk => ?_
  have u := Turns.of_tick hTk
  have xf : ∀ q, q ≠ f → ∀ v, w1.cell? ⟨q, 0, none⟩ = some v → wc.cell? ⟨q, 0, none⟩ = some v := fun q hq v hv => u.cell hv hq
  refine onFile1_some f bn nn (w.heap.size + 2) (w.heap.size + 2 + 1) (w.heap.size + 2 + 2) g 40 _ (one name g) name wc (fun w => enters40 _ w) (xf _ (by omega) _ v0) (xf _ (by omega) _ v1) (hTk.cell 1) (xf _ (by omega) _ v2) (hd1.keep u hfn.symm) hnm (one_file name g) _ fun m => ?_
  have tm : Turns (fun _ => False) wc (wc.drewN m) := (Turns.refl _ wc).drewN m
  have hbw : Bytes (wc.drewN m) (.slice a n c) news := by
    obtain ⟨a', c', e, hc⟩ := hb
    refine ⟨a', c', e, fun k hk => ?_⟩
    obtain ⟨q, o, e1, e2⟩ := hc k hk
    refine ⟨q, o, e1, ?_⟩
    have e3 : a = a' := by cases e; rfl
    exact tm.cell (u.cell (t1.cell e2 (fun x => x)) (hbf q o (e3.trans e1))) (fun x => x)
  refine (append1_any f w.heap.size (w.heap.size + 1) g _ fv (s0 : Nat) bytes news n a c limit used (wc.drewN m) (xf _ (by omega) _ x0) (xf _ (by omega) _ x1) hTk.1 rfl rfl hu hroom
    (u.heap (t1.heap hg (fun x => x)) hgf) (((hown.keep t1 (fun _ _ x => x)).keep u (fun k hk => (hrowf k hk).1)).keep tm (fun _ _ x => x)) hbw hpos hbl (by omega) (by omega) (fun e => by have := (hrowf _ e).2.2.2.2; omega) (fun e => by have := (hrowf _ e).2.2.2.2; omega)).mono ?_
  rintro e w2 ⟨rfl, fv', k1, k2, k3, k4, k5⟩
  have tall : Turns (fun k => k = f ∨ k = g ∨ inRow fv k) w w2 := (((t1.mono fun _ _ x => x.elim).trans (u.mono fun _ _ e => Or.inl e)).drewN m).trans k4
  have tsm : Turns (fun k => k < w.heap.size) w1 w2 := ((u.mono fun k _ (e : k = f) => by omega).drewN m).trans (k4.mono fun k _ e => by
    rcases e with e | e | e
    · omega
    · omega
    · exact (hrowf k e).2.2.2.2)
  refine ⟨0, rfl, 0, rfl, 0, rfl, ⟨rfl, ⟨fB, gB, bn, bs, nn, ns, ch, fv', k3, ?_, ?_, ?_, k1, k2, hne, b1, b2, b3, ?_, m1, m2⟩, ?_⟩, tsm⟩
  · exact hd.keep tall fun e => by
      rcases e with e | e | e
      · exact hfn e.symm
      · exact hgbn e.symm
      · exact (hrowf _ e).2.2.1 rfl
  · exact hs.keep tall fun e => by
      rcases e with e | e | e
      · exact hfs e.symm
      · exact hgs e.symm
      · exact (hrowf _ e).2.2.2.1 rfl
  · exact hch.keep tall fun k hk e => by
      rcases e with e | e | e
      · exact (hrow k hk).1 e
      · exact (hrow k hk).2.1 e
      · exact (hrow k hk).2.2 e
  · intro k hk
    rcases k5 k hk with e | e
    · exact b4 k e
    · have h1 := t1.size
      have h2 := u.size
      have h3 := tm.size
      omega
  · exact tall.below hB fun k e => by
      rcases e with e | e | e
      · omega
      · omega
      · exact b4 k e
end Go.Proofs.Ytefjljdgdoklmaa
