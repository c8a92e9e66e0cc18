import Derived.Test.YtefjljdgdoklmaaM12
import Derived.Test.YtefjljdgdoklmaaM08
/-
  A file system with one file: Sync, Create of a name that is there, a crash, Read.
-/
namespace Go.Proofs.Ytefjljdgdoklmaa
open Go.RowKit Go.Maps

set_option maxHeartbeats 1000000 in
theorem sync_one (B f g : Nat) (name : ByteArray) (l : List Chg) (S : DataW Unit) (bytes : List (BitVec 8)) (s0 : Nat) (limit used lost ops : Int) (w : World) (h : One B w f g name l S bytes s0 limit used lost ops) (ho : 0 ≤ ops ∧ ops ≤ 1000) (hB : B ≤ w.heap.size) (hgn : goodN name = true) (hnm : name.size ≤ maxLen) :
    Calls Try.prog 14 #[.pointer (some ⟨f, 0, none⟩), .string name] w fun e w' => e = .returned (.int .i64 0) ∧ One B w' f g name l S bytes bytes.length limit used lost (ops + 1) ∧ Below B w w' := by
  obtain ⟨fB, gB, bn, bs, nn, ns, ch, fv, hf, hd, hs, hch, hg, hown, hne, b1, b2, b3, b4, m1, m2⟩ := h
  refine sync_via _ name w _ fun w1 t1 hv => ?_
  obtain ⟨v0, v1, v2⟩ := hv
  rw [hgn]
  have hf1 := t1.heap hf (fun x => x)
  have hd1 : Dir w1 bn nn (one name g) := hd.keep t1 (fun x => x)
  have hs1 : Dir w1 bs ns S := hs.keep t1 (fun x => x)
  have hfn : f ≠ bn := hd1.ne_cells hf1
  have hfs : f ≠ bs := hs1.ne_cells hf1
  have hfw := lt_of_heap hf
  have hgf : g ≠ f := fun e => by rw [e, hf] at hg; cases hg
  have hgbn : g ≠ bn := hd.ne_cells hg
  have hgs : g ≠ bs := hs.ne_cells hg
  have hrow : ∀ k, inRow ch k → k ≠ f ∧ k ≠ g := fun k hk => by
    obtain ⟨cs, hc⟩ := hch.row hk
    exact ⟨fun e => (by rw [e, hf] at hc; cases hc), fun e => (by rw [e, hg] at hc; cases hc)⟩
  have hrowf : ∀ k, inRow fv k → k ≠ f ∧ k ≠ g := fun k hk => by
    obtain ⟨cs, hc⟩ := hown.row hk
    exact ⟨fun e => (by rw [e, hf] at hc; cases hc), fun e => (by rw [e, hg] at hc; cases hc)⟩
  obtain ⟨fa, fc, rfl⟩ : ∃ fa fc, fv = .slice fa bytes.length fc := by
    rcases hown with ⟨rfl, rfl⟩ | ⟨r, c, n, rfl, rfl, _⟩
    · exact ⟨_, _, rfl⟩
    · exact ⟨_, _, rfl⟩
  refine operate_go f bn 73 _ (enters73 _) limit used lost ops (-1) (-1) 0 _ _ w1 hf1 (by omega) (by decide) (by decide) (by decide) (by decide) _ fun wc hTk => ?_
  have u := Turns.of_tick hTk
  have xf : ∀ q, q ≠ f → ∀ v, w1.cell? ⟨q, 0, none⟩ = some v → wc.cell? ⟨q, 0, none⟩ = some v := fun q hq v hv => u.cell hv hq
  refine onFile1_some f bn nn w.heap.size (w.heap.size + 1) (w.heap.size + 2) g 48 _ (one name g) name wc (fun w => enters48 _ w) (xf _ (by omega) _ v0) (xf _ (by omega) _ v1) (hTk.cell 1) (xf _ (by omega) _ v2) (hd1.keep u hfn.symm) hnm (one_file name g) _ fun m => ?_
  refine (sync1_any g bytes.length (s0 : Nat) fa fc (wc.drewN m) (u.heap (t1.heap hg (fun x => x)) hgf)).mono ?_
  rintro e w2 ⟨rfl, k1⟩
  have u2 := Turns.of_tick k1
  have tall : Turns (fun k => k = f ∨ k = g) w w2 := (((t1.mono fun _ _ x => x.elim).trans (u.mono fun _ _ e => Or.inl e)).drewN m).trans (u2.mono fun _ _ e => Or.inr e)
  have tf : w2.heap[f]? = _ := u2.heap (a := wc.drewN m) hTk.1 (fun e => hgf e.symm)
  refine ⟨0, rfl, 0, rfl, 0, rfl, rfl, ⟨fB, gB, bn, bs, nn, ns, ch, _, tf, ?_, ?_, ?_, k1.1, ?_, hne, b1, b2, b3, b4, m1, m2⟩, ?_⟩
  · exact hd.keep tall fun e => e.elim (fun e => hfn e.symm) (fun e => hgbn e.symm)
  · exact hs.keep tall fun e => e.elim (fun e => hfs e.symm) (fun e => hgs e.symm)
  · exact hch.keep tall fun k hk e => e.elim (hrow k hk).1 (hrow k hk).2
  · exact hown.keep tall fun k hk e => e.elim (hrowf k hk).1 (hrowf k hk).2
  · exact tall.below hB fun k e => by
      rcases e with e | e
      · omega
      · omega

set_option maxHeartbeats 1000000 in
theorem create_there (B f g : Nat) (name : ByteArray) (l : List Chg) (S : DataW Unit) (bytes : List (BitVec 8)) (s0 : Nat) (limit used lost ops : Int) (w : World) (h : One B w f g name l S bytes s0 limit used lost ops) (ho : 0 ≤ ops ∧ ops ≤ 1000) (hB : B ≤ w.heap.size) (hgn : goodN name = true) (hnm : name.size ≤ maxLen) :
    Calls Try.prog 9 #[.pointer (some ⟨f, 0, none⟩), .string name] w fun e w' => e = .returned (.int .i64 5) ∧ Below B w w' := by
  obtain ⟨fB, gB, bn, bs, nn, ns, ch, fv, hf, hd, hs, hch, hg, hown, hne, b1, b2, b3, b4, m1, m2⟩ := h
  refine create_via _ name w _ fun w1 pf pn t1 x0 x1 hpf hpn => ?_
  rw [hgn]
  have hf1 := t1.heap hf (fun x => x)
  have hd1 : Dir w1 bn nn (one name g) := hd.keep t1 (fun x => x)
  have hfn : f ≠ bn := hd1.ne_cells hf1
  have hfw := lt_of_heap hf
  refine operate_go f bn 37 _ (enters37 _) limit used lost ops (-1) (-1) 0 _ _ w1 hf1 (by omega) (by decide) (by decide) (by decide) (by decide) _ fun wc hTk => ?_
  have u := Turns.of_tick hTk
  refine (create1_there f bn nn pf pn g (one name g) name wc (u.cell x0 (by show ¬ pf = f; omega)) (u.cell x1 (by show ¬ pn = f; omega)) (hTk.cell 1) (hd1.keep u hfn.symm) hnm (one_file name g)).mono ?_
  rintro e w2 ⟨rfl, m, rfl⟩
  refine ⟨5, rfl, 5, rfl, ⟨rfl, ?_⟩, ((u.mono fun k _ (e : k = f) => by omega).drewN m)⟩
  have := t1.below hB (fun _ x => x.elim)
  exact below_drewN (this.trans (u.below (by have := t1.size; omega) (fun k e => by have e' : k = f := e; omega))) m
end Go.Proofs.Ytefjljdgdoklmaa

/-
  A file system with one file: a crash, and Read.
-/
namespace Go.Proofs.Ytefjljdgdoklmaa
open Go.RowKit Go.Maps

theorem RowB.take {w : World} {g c : Nat} {bs : List (BitVec 8)} (h : RowB w g c bs) (N : Nat) : RowB w g c (bs.take N) := by
  obtain ⟨cs, h1, h2, h3⟩ := h
  refine ⟨cs, h1, h2, fun k hk => ?_⟩
  have hk' : k < N ∧ k < bs.length := by
    rw [cellsOf_length, List.length_take] at hk
    omega
  rw [h3 k (by rw [cellsOf_length]; exact hk'.2)]
  simp [cellsOf, hk'.1]

set_option maxHeartbeats 1000000 in
theorem crash_here (B f g : Nat) (name : ByteArray) (l : List Chg) (S : DataW Unit) (bytes : List (BitVec 8)) (s0 k : Nat) (limit used lost ops dir kp : Int) (ka : Option Addr) (kn kc : Nat) (w : World) (h : One B w f g name l S bytes s0 limit used lost ops) (hB : B ≤ w.heap.size) (hnm : name.size ≤ maxLen) (hl : l.length ≤ 100) (hln : ∀ x ∈ l, x.went.size ≤ maxLen ∧ x.became.size ≤ maxLen)
    (d1 : dir ≤ 9223372036854775807) (d2 : -9223372036854775808 ≤ dir) (hk : (k : Int) = max dir 0 % ((l.length : Int) + 1)) (hone : (l.take k).foldl applyD S = one name g) (hkeep : (kn = 0 ∧ kp = 0) ∨ (0 < kn ∧ ∃ q o, ka = some ⟨q, o, none⟩ ∧ w.cell? ⟨q, o, none⟩ = some (.int .i64 kp) ∧ (q < B ∨ ∃ cs, w.heap[q]? = some (.cells cs 3 (0, 0))))) (p1 : kp ≤ 9223372036854775807) (p2 : -9223372036854775808 ≤ kp)
    (hne : bytes ≠ []) (h1 : s0 ≤ bytes.length) (h3 : bytes.length ≤ 1073741824) :
    Calls Try.prog 11 #[.pointer (some ⟨f, 0, none⟩), .int .i64 dir, .slice ka kn kc] w fun e w' => e = .returned (.int .i64 0) ∧ ∃ N : Nat, (N : Int) = s0 + max kp 0 % ((bytes.length : Int) - s0 + 1) ∧ N ≤ bytes.length ∧ One B w' f g name [] (one name g) (bytes.take N) N limit N 0 ops ∧ Below B w w' := by
  obtain ⟨fB, gB, bn, bs, nn, ns, ch, fv, hf, hd, hs, hch, hg, hown, hnb, b1, b2, b3, b4, m1, m2⟩ := h
  rcases hown with ⟨e, _⟩ | ⟨r, c, n, rfl, rfl, hc, hrow⟩
  · exact absurd e hne
  have hgf : g ≠ f := fun e => by rw [e, hf] at hg; cases hg
  have hrf : r ≠ f ∧ r ≠ bs ∧ r ≠ g := by
    obtain ⟨cs, hcs, _⟩ := hrow
    exact ⟨fun e => (by rw [e, hf] at hcs; cases hcs), hs.ne_cells hcs, fun e => (by rw [e, hg] at hcs; cases hcs)⟩
  refine (crash_one f bn bs ns S l limit used lost ops (-1) (-1) 0 true ch dir ka kn kc kp name g r bytes.length c s0 k w hf hs hch (by omega) (by omega) hln d1 d2 hk hone hnm ?_ p1 p2 hg h1 hc h3).mono ?_
  · rcases hkeep with e | ⟨e, q, o, e1, e2, e3⟩
    · exact .inl e
    · refine .inr ⟨e, q, o, e1, e2, ?_, ?_⟩
      · rintro rfl
        rcases e3 with e3 | ⟨cs, e3⟩
        · omega
        · rw [hf] at e3; cases e3
      · rintro rfl
        rcases e3 with e3 | ⟨cs, e3⟩
        · omega
        · exact hs.ne_cells e3 rfl
  · rintro e w2 ⟨rfl, bn', ns', N, n1, n2, n3, n4, n5, n6, n7, n8⟩
    have hrow2 : RowB w2 r c bytes := by
      obtain ⟨cs, q1, q2, q3⟩ := hrow
      exact ⟨cs, n8.heap q1 (fun x => x.elim hrf.1 (fun y => y.elim hrf.2.1 hrf.2.2)), q2, q3⟩
    refine ⟨rfl, N, n1, n2, ?_, n8.below hB (fun k x => ?_)⟩
    · refine ⟨fB, gB, bn', bs, 1, 1, _, _, n4, Dir.tight n5, Dir.tight n6, .inl ⟨rfl, rfl⟩, n3, .inr ⟨r, c, N, rfl, ?_, by omega, hrow2.take N⟩, fun e => ?_, Nat.le_trans hB n7, b2, ?_, ?_, by decide, by decide⟩
      · rw [List.length_take]; omega
      · have := hs.lt; omega
      · intro k hk
        obtain ⟨_, _, e⟩ := hk
        cases e
      · intro k hk
        obtain ⟨_, _, e⟩ := hk
        cases e
        exact b4 r ⟨_, _, rfl⟩
    · rcases x with x | x | x
      · omega
      · omega
      · omega

set_option maxHeartbeats 1000000 in
theorem read_here (B f g : Nat) (name : ByteArray) (l : List Chg) (S : DataW Unit) (bytes : List (BitVec 8)) (s0 at' n : Nat) (limit used lost ops : Int) (w : World) (h : One B w f g name l S bytes s0 limit used lost ops) (ho : 0 ≤ ops ∧ ops ≤ 1000) (hB : B ≤ w.heap.size) (hgn : goodN name = true) (hnm : name.size ≤ maxLen) (ha : at' < bytes.length) (hn : n ≤ 9223372036854775807) (hb : bytes.length ≤ 1073741824) :
    Calls Try.prog 20 #[.pointer (some ⟨f, 0, none⟩), .string name, .int .i64 (at' : Nat), .int .i64 (n : Nat)] w fun e w' => ∃ q m c, e = .returned (.tuple #[.slice (some ⟨q, 0, none⟩) m c, .int .i64 0]) ∧ m = (readOf bytes at' n).length ∧ RowB w' q c (readOf bytes at' n) ∧ B ≤ q ∧ One B w' f g name l S bytes s0 limit used lost (ops + 1) ∧ Below B w w' := by
  obtain ⟨fB, gB, bn, bs, nn, ns, ch, fv, hf, hd, hs, hch, hg, hown, hne, b1, b2, b3, b4, m1, m2⟩ := h
  refine read_via _ name _ _ w _ (fun w1 t1 x0 x1 x2 hv => ?_) (by omega) (by omega)
  obtain ⟨v0, v1, v2⟩ := hv
  rw [hgn]
  have hf1 := t1.heap hf (fun x => x)
  have hd1 : Dir w1 bn nn (one name g) := hd.keep t1 (fun x => x)
  have hs1 : Dir w1 bs ns S := hs.keep t1 (fun x => x)
  have hfn : f ≠ bn := hd1.ne_cells hf1
  have hfs : f ≠ bs := hs1.ne_cells hf1
  have hfw := lt_of_heap hf
  have hgw := lt_of_heap hg
  have hdw := hd.lt
  have hsw := hs.lt
  have hgf : g ≠ f := fun e => by rw [e, hf] at hg; cases hg
  have hrow : ∀ k, inRow ch k → k ≠ f ∧ k < w.heap.size := fun k hk => by
    obtain ⟨cs, hc⟩ := hch.row hk
    exact ⟨fun e => (by rw [e, hf] at hc; cases hc), lt_of_heap hc⟩
  have hrowf : ∀ k, inRow fv k → k ≠ f ∧ k < w.heap.size := fun k hk => by
    obtain ⟨cs, hc⟩ := hown.row hk
    exact ⟨fun e => (by rw [e, hf] at hc; cases hc), lt_of_heap hc⟩
  refine operate_go f bn 73 _ (enters73 _) limit used lost ops (-1) (-1) 0 _ _ w1 hf1 (by omega) (by decide) (by decide) (by decide) (by decide) _ fun wc hTk => ?_
  have u := Turns.of_tick hTk
  have xf : ∀ q, q ≠ f → ∀ v, w1.cell? ⟨q, 0, none⟩ = some v → wc.cell? ⟨q, 0, none⟩ = some v := fun q hq v hv => u.cell hv hq
  refine onFile1_some f bn nn (w.heap.size + 3) (w.heap.size + 3 + 1) (w.heap.size + 3 + 2) g 52 _ (one name g) name wc (fun w => enters52 _ w) (xf _ (by omega) _ v0) (xf _ (by omega) _ v1) (hTk.cell 1) (xf _ (by omega) _ v2) (hd1.keep u hfn.symm) hnm (one_file name g) _ fun m => ?_
  have tm : Turns (fun k => k = f) w1 (wc.drewN m) := u.drewN m
  have hown' := (hown.keep t1 (fun _ _ x => x)).keep tm (fun k hk => (hrowf k hk).1)
  rcases id hown with ⟨e, _⟩ | ⟨r, c, L, rfl, rfl, hc, _⟩
  · rw [e] at ha; simp at ha
  obtain ⟨r', c', L', e', _, _, hrow'⟩ : ∃ r' c' L', Value.slice (some ⟨r, 0, none⟩) bytes.length c = .slice (some ⟨r', 0, none⟩) L' c' ∧ L' = bytes.length ∧ L' ≤ c' ∧ RowB (wc.drewN m) r' c' bytes := by
    rcases hown' with ⟨_, e⟩ | ⟨g', c', n', e, e2, e3, e4⟩
    · cases e
    · exact ⟨g', c', n', e, e2, e3, e4⟩
  cases e'
  refine (read1_in g r c bytes.length w.heap.size (w.heap.size + 1) (w.heap.size + 2) (s0 : Nat) bytes at' n (wc.drewN m) (xf _ (by omega) _ x0) (xf _ (by omega) _ x1) (tm.heap x2 (by show ¬ w.heap.size + 2 = f; omega)) (tm.heap (t1.heap hg (fun x => x)) hgf) rfl hrow' hc hb (by omega) hn ha).mono ?_
  rintro e w2 ⟨rfl, q, mm, cq, k1, k2, k3, k4, k5⟩
  have tall : Turns (fun k => k = f) w w2 := ((t1.mono fun _ _ x => x.elim).trans tm).andThen k5 (fun k hk (e : k = w.heap.size + 2) => by omega)
  have tf : w2.heap[f]? = _ := k5.heap (a := wc.drewN m) hTk.1 (by show ¬ f = w.heap.size + 2; omega)
  refine ⟨0, rfl, 0, rfl, 0, _, rfl, k1, q, mm, cq, rfl, k2, k4, ?_, ⟨fB, gB, bn, bs, nn, ns, ch, _, tf, hd.keep tall hfn.symm, hs.keep tall hfs.symm, hch.keep tall (fun k hk => (hrow k hk).1), tall.heap hg hgf, hown.keep tall (fun k hk => (hrowf k hk).1), hne, b1, b2, b3, b4, m1, m2⟩, tall.below hB (fun k (e : k = f) => by omega)⟩
  have h1 := t1.size
  have h2 := tm.size
  omega
end Go.Proofs.Ytefjljdgdoklmaa

/-
  What a crash leaves of a file, whatever its bytes.
-/
namespace Go.Proofs.Ytefjljdgdoklmaa
open Go.RowKit Go.Maps

set_option maxRecDepth 100000 in
set_option maxHeartbeats 1000000 in
theorem fcrash_nil (g : Nat) (keep : Int) (w : World) (h : w.heap[g]? = some (.cells #[.slice none 0 0, .int .i64 0] 70 (0, 0))) (k1 : keep ≤ 9223372036854775807) (k2 : -9223372036854775808 ≤ keep) :
    Calls Try.prog 46 #[.pointer (some ⟨g, 0, none⟩), .int .i64 keep] w fun e w' => (∃ v, e = .returned v) ∧ w'.heap[g]? = some (.cells #[.slice none 0 0, .int .i64 0] 70 (0, 0)) ∧ Turns (fun j => j = g) w w' := by
  have c0 : w.cell? ⟨g, 0, none⟩ = some (.slice none 0 0) := cell_of_row w g 0 _ 70 (0, 0) h
  have c1 : w.cell? ⟨g, 1, none⟩ = some (.int .i64 0) := cell_of_row w g 1 _ 70 (0, 0) h
  have z0 : w.frozen? ⟨g, 0, none⟩ = false := frozen_of_row w g 0 _ 70 h
  have hmod : max keep 0 % (0 + 1) = 0 := by omega
  have hw0 : IntKind.i64.wrap 0 = 0 := wrapI 0 (by decide) (by decide)
  have H := hide h
  clear h
  go_enter Try.func46, Try.ntmps46
  go_wp2_with fail
  go_still_tail 25, (by kernel_rfl)
  still_call (within_any keep 0 _ (by omega) (by omega) k1 k2)
  rw [hmod]
  repeat still_step
  refine wpStill_nil ?_
  have t1 : Tick w (({ w with drawn := w.drawn + 1 } : World).setCell ⟨g, 0, none⟩ (.slice none 0 0)) g 70 #[.slice none 0 0, .int .i64 0] := ((Tick.refl H.out).drew).set 0 (.slice none 0 0)
  have T1 := hide t1
  have z0' : ({ w with drawn := w.drawn + 1 } : World).frozen? ⟨g, 0, none⟩ = false := z0
  have c0' : ({ w with drawn := w.drawn + 1 } : World).cell? ⟨g, 0, none⟩ = some (.slice none 0 0) := c0
  clear t1
  go_wp2_with fail
  refine (sync_any g 0 0 none 0 (w.setCell ⟨g, 0, none⟩ (.slice none 0 0)).drew T1.out.1).mono ?_
  rintro e w2 ⟨⟨v, rfl⟩, t2⟩
  have T2 := hide t2
  have U2 : Hid (Turns (fun j => j = g) w w2) := (Turns.of_tick (w' := (w.setCell ⟨g, 0, none⟩ (.slice none 0 0)).drew) T1.out).trans (Turns.of_tick t2)
  clear t2
  go_wp2_with fail
  go_end0
  exact ⟨⟨_, rfl⟩, T2.out.1, U2.out⟩

/-- How many bytes a crash leaves. -/
def crashN (x : Fil) (k : Int) : Nat := x.synced + (max k 0 % ((x.bytes.length : Int) - x.synced + 1)).toNat
def Fil.crash (x : Fil) (k : Int) : Fil := ⟨x.bytes.take (crashN x k), crashN x k⟩
theorem crashN_le (x : Fil) (k : Int) (h : x.synced ≤ x.bytes.length) : crashN x k ≤ x.bytes.length := by
  unfold crashN
  have e2 := Int.emod_lt_of_pos (max k 0) (show (0 : Int) < (x.bytes.length : Int) - x.synced + 1 by omega)
  have e1 := Int.emod_nonneg (max k 0) (show (x.bytes.length : Int) - x.synced + 1 ≠ 0 by omega)
  omega

theorem fcrash_all (g : Nat) (v : Value) (x : Fil) (keep : Int) (w : World) (h : w.heap[g]? = some (.cells #[v, .int .i64 (x.synced : Nat)] 70 (0, 0))) (hown : OwnB w v x.bytes) (h1 : x.synced ≤ x.bytes.length) (h3 : x.bytes.length ≤ 1073741824) (k1 : keep ≤ 9223372036854775807) (k2 : -9223372036854775808 ≤ keep) :
    Calls Try.prog 46 #[.pointer (some ⟨g, 0, none⟩), .int .i64 keep] w fun e w' => (∃ v, e = .returned v) ∧ ∃ a m c, w'.heap[g]? = some (.cells #[.slice a m c, .int .i64 ((x.crash keep).synced : Nat)] 70 (0, 0)) ∧ OwnB w' (.slice a m c) (x.crash keep).bytes ∧ m = (x.crash keep).bytes.length ∧ (∀ k, inRow (.slice a m c) k → inRow v k) ∧ Turns (fun j => j = g) w w' := by
  rcases id hown with ⟨hb, rfl⟩ | ⟨k, c, n, rfl, rfl, hc, hrow⟩
  · have hs : x.synced = 0 := by rw [hb] at h1; simpa using h1
    have hcr : x.crash keep = ⟨[], 0⟩ := by
      unfold Fil.crash
      have : crashN x keep = 0 := by
        have := crashN_le x keep h1
        rw [hb] at this
        simpa using this
      rw [this, hb]
      rfl
    rw [hs] at h
    refine (fcrash_nil g keep w h k1 k2).mono ?_
    rintro e w' ⟨he, h4, t⟩
    rw [hcr]
    exact ⟨he, none, 0, 0, h4, .inl ⟨rfl, rfl⟩, rfl, fun k hk => hk, t⟩
  · refine (fcrash_any g x.bytes.length c x.synced k keep w h h1 hc h3 k1 k2).mono ?_
    rintro e w' ⟨he, N, n1, n2, n3, t⟩
    have hN : crashN x keep = N := by
      unfold crashN
      have e1 := Int.emod_nonneg (max keep 0) (show (x.bytes.length : Int) - x.synced + 1 ≠ 0 by omega)
      omega
    have hkg : k ≠ g := fun e => by
      obtain ⟨cs, h5, _⟩ := hrow
      rw [e] at h5
      exact absurd (one_type h h5) (by decide)
    have hrow' : RowB w' k c x.bytes := by
      obtain ⟨cs, h5, h6, h7⟩ := hrow
      exact ⟨cs, t.heap h5 hkg, h6, h7⟩
    unfold Fil.crash
    rw [hN]
    refine ⟨he, _, N, c, n3, .inr ⟨k, c, N, rfl, by rw [List.length_take]; omega, by omega, hrow'.take N⟩, by rw [List.length_take]; omega, fun q hq => ?_, t⟩
    obtain ⟨_, _, e⟩ := hq
    cases e
    exact ⟨_, _, rfl⟩
end Go.Proofs.Ytefjljdgdoklmaa
