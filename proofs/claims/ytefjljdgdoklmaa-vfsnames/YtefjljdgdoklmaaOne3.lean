/-
  A file system with one file: Sync, Create of a name that is there, a crash, Read.
-/
import Derived.Test.YtefjljdgdoklmaaOne2
import Derived.Test.YtefjljdgdoklmaaCrs
namespace Go.Proofs.Ytefjljdgdoklmaa
open Go.RowKit Go.Maps

set_option maxHeartbeats 1000000 in
theorem sync_one (B f g : Nat) (name : ByteArray) (l : List Chg) (S : DataW Unit) (bytes : List (BitVec 8)) (s0 : Nat) (limit used lost ops : Int) (w : World) (h : One B w f g name l S bytes s0 limit used lost ops) (ho : 0 ≤ ops ∧ ops ≤ 1000) (hB : B ≤ w.heap.size) (hgn : goodN name = true) (hnm : name.size ≤ maxLen) :
    Calls Try.prog 14 #[.pointer (some ⟨f, 0, none⟩), .string name] w fun e w' => e = .returned (.int .i64 0) ∧ One B w' f g name l S bytes bytes.length limit used lost (ops + 1) ∧ Below B w w' := by
  obtain ⟨fB, gB, bn, bs, nn, ns, ch, fv, hf, hd, hs, hch, hg, hown, hne, b1, b2, b3, b4, m1, m2⟩ := h
  refine sync_via _ name w _ fun w1 t1 hv => ?_
  obtain ⟨v0, v1, v2⟩ := hv
  rw [hgn]
  have hf1 := t1.heap hf (fun x => x)
  have hd1 : Dir w1 bn nn (one name g) := hd.keep t1 (fun x => x)
  have hs1 : Dir w1 bs ns S := hs.keep t1 (fun x => x)
  have hfn : f ≠ bn := hd1.ne_cells hf1
  have hfs : f ≠ bs := hs1.ne_cells hf1
  have hfw := lt_of_heap hf
  have hgf : g ≠ f := fun e => by rw [e, hf] at hg; cases hg
  have hgbn : g ≠ bn := hd.ne_cells hg
  have hgs : g ≠ bs := hs.ne_cells hg
  have hrow : ∀ k, inRow ch k → k ≠ f ∧ k ≠ g := fun k hk => by
    obtain ⟨cs, hc⟩ := hch.row hk
    exact ⟨fun e => (by rw [e, hf] at hc; cases hc), fun e => (by rw [e, hg] at hc; cases hc)⟩
  have hrowf : ∀ k, inRow fv k → k ≠ f ∧ k ≠ g := fun k hk => by
    obtain ⟨cs, hc⟩ := hown.row hk
    exact ⟨fun e => (by rw [e, hf] at hc; cases hc), fun e => (by rw [e, hg] at hc; cases hc)⟩
  obtain ⟨fa, fc, rfl⟩ : ∃ fa fc, fv = .slice fa bytes.length fc := by
    rcases hown with ⟨rfl, rfl⟩ | ⟨r, c, n, rfl, rfl, _⟩
    · exact ⟨_, _, rfl⟩
    · exact ⟨_, _, rfl⟩
  refine operate_go f bn 73 _ (enters73 _) limit used lost ops (-1) (-1) 0 _ _ w1 hf1 (by omega) (by decide) (by decide) (by decide) (by decide) _ fun wc hTk => ?_
  have u := Turns.of_tick hTk
  have xf : ∀ q, q ≠ f → ∀ v, w1.cell? ⟨q, 0, none⟩ = some v → wc.cell? ⟨q, 0, none⟩ = some v := fun q hq v hv => u.cell hv hq
  refine onFile1_some f bn nn w.heap.size (w.heap.size + 1) (w.heap.size + 2) g 48 _ (one name g) name wc (fun w => enters48 _ w) (xf _ (by omega) _ v0) (xf _ (by omega) _ v1) (hTk.cell 1) (xf _ (by omega) _ v2) (hd1.keep u hfn.symm) hnm (one_file name g) _ fun m => ?_
  refine (sync1_any g bytes.length (s0 : Nat) fa fc (wc.drewN m) (u.heap (t1.heap hg (fun x => x)) hgf)).mono ?_
  rintro e w2 ⟨rfl, k1⟩
  have u2 := Turns.of_tick k1
  have tall : Turns (fun k => k = f ∨ k = g) w w2 := (((t1.mono fun _ _ x => x.elim).trans (u.mono fun _ _ e => Or.inl e)).drewN m).trans (u2.mono fun _ _ e => Or.inr e)
  have tf : w2.heap[f]? = _ := u2.heap (a := wc.drewN m) hTk.1 (fun e => hgf e.symm)
  refine ⟨0, rfl, 0, rfl, 0, rfl, rfl, ⟨fB, gB, bn, bs, nn, ns, ch, _, tf, ?_, ?_, ?_, k1.1, ?_, hne, b1, b2, b3, b4, m1, m2⟩, ?_⟩
  · exact hd.keep tall fun e => e.elim (fun e => hfn e.symm) (fun e => hgbn e.symm)
  · exact hs.keep tall fun e => e.elim (fun e => hfs e.symm) (fun e => hgs e.symm)
  · exact hch.keep tall fun k hk e => e.elim (hrow k hk).1 (hrow k hk).2
  · exact hown.keep tall fun k hk e => e.elim (hrowf k hk).1 (hrowf k hk).2
  · exact tall.below hB fun k e => by
      rcases e with e | e
      · omega
      · omega

set_option maxHeartbeats 1000000 in
theorem create_there (B f g : Nat) (name : ByteArray) (l : List Chg) (S : DataW Unit) (bytes : List (BitVec 8)) (s0 : Nat) (limit used lost ops : Int) (w : World) (h : One B w f g name l S bytes s0 limit used lost ops) (ho : 0 ≤ ops ∧ ops ≤ 1000) (hB : B ≤ w.heap.size) (hgn : goodN name = true) (hnm : name.size ≤ maxLen) :
    Calls Try.prog 9 #[.pointer (some ⟨f, 0, none⟩), .string name] w fun e w' => e = .returned (.int .i64 5) ∧ Below B w w' := by
  obtain ⟨fB, gB, bn, bs, nn, ns, ch, fv, hf, hd, hs, hch, hg, hown, hne, b1, b2, b3, b4, m1, m2⟩ := h
  refine create_via _ name w _ fun w1 pf pn t1 x0 x1 hpf hpn => ?_
  rw [hgn]
  have hf1 := t1.heap hf (fun x => x)
  have hd1 : Dir w1 bn nn (one name g) := hd.keep t1 (fun x => x)
  have hfn : f ≠ bn := hd1.ne_cells hf1
  have hfw := lt_of_heap hf
  refine operate_go f bn 37 _ (enters37 _) limit used lost ops (-1) (-1) 0 _ _ w1 hf1 (by omega) (by decide) (by decide) (by decide) (by decide) _ fun wc hTk => ?_
  have u := Turns.of_tick hTk
  refine (create1_there f bn nn pf pn g (one name g) name wc (u.cell x0 (by show ¬ pf = f; omega)) (u.cell x1 (by show ¬ pn = f; omega)) (hTk.cell 1) (hd1.keep u hfn.symm) hnm (one_file name g)).mono ?_
  rintro e w2 ⟨rfl, m, rfl⟩
  refine ⟨5, rfl, 5, rfl, ⟨rfl, ?_⟩, ((u.mono fun k _ (e : k = f) => by omega).drewN m)⟩
  have := t1.below hB (fun _ x => x.elim)
  exact below_drewN (this.trans (u.below (by have := t1.size; omega) (fun k e => by have e' : k = f := e; omega))) m
end Go.Proofs.Ytefjljdgdoklmaa
