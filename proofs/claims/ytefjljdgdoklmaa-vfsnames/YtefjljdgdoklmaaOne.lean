/-
  A file system with one file: what each operation makes of it.
-/
import Derived.Test.YtefjljdgdoklmaaRd1
namespace Go.Proofs.Ytefjljdgdoklmaa
open Go.RowKit Go.Maps

/-- A directory with one name. -/
def one (name : ByteArray) (g : Nat) : DataW Unit := .map [(key name, .lit (.int .i64 (g : Nat)))]
theorem one_file (name : ByteArray) (g : Nat) : fileOf (one name g) name = some g := by
  have : (one name g).atKey (key name) .nil = .lit (.int .i64 (g : Nat)) := by
    simp [one, DataW.atKey, key, Lit.sameKey]
  unfold fileOf
  rw [this]
  simp
theorem none_file (name : ByteArray) : fileOf (.map []) name = none := by
  unfold fileOf
  simp [DataW.atKey]
theorem apply_first (name : ByteArray) (g : Nat) : applyD (.map []) ⟨⟨#[]⟩, name, some g⟩ = one name g := by
  simp [applyD, one, DataW.del, DataW.put, DataW.insert]

/-- A directory's block has just as many entries as it has names. -/
theorem Dir.tight {w : World} {b n : Nat} {D : DataW Unit} (h : Dir w b n D) : Dir w b (Maps.size D) D := by
  obtain ⟨es, clock, hb, F, _, rfl⟩ := h
  exact ⟨es, clock, hb, F, by simp [Maps.size, length_sorted], rfl⟩

/-- A file system whose directory has the one file g; the synced one is S behind the changes l. -/
structure One (B : Nat) (w : World) (f g : Nat) (name : ByteArray) (l : List Chg) (S : DataW Unit) (bytes : List (BitVec 8)) (s0 : Nat) (limit used lost ops : Int) : Prop where
  fB : B ≤ f
  gB : B ≤ g
  ex : ∃ (bn bs nn ns : Nat) (ch fv : Value), w.heap[f]? = some (.cells (fsCells limit (.map (some bn)) (.map (some bs)) ch used lost true ops (-1) (-1) 0) 57 (0, 0)) ∧ Dir w bn nn (one name g) ∧ Dir w bs ns S ∧ Chs w ch l ∧
    w.heap[g]? = some (.cells #[fv, .int .i64 (s0 : Nat)] 70 (0, 0)) ∧ OwnB w fv bytes ∧ bn ≠ bs ∧ B ≤ bn ∧ B ≤ bs ∧ (∀ k, inRow ch k → B ≤ k) ∧ (∀ k, inRow fv k → B ≤ k) ∧ nn ≤ 1000 ∧ ns ≤ 1000

set_option maxHeartbeats 1000000 in
theorem create_first (B f bn bs nn ns : Nat) (name : ByteArray) (limit ops : Int) (w : World) (h : w.heap[f]? = some (.cells (fsCells limit (.map (some bn)) (.map (some bs)) (.slice none 0 0) 0 0 true ops (-1) (-1) 0) 57 (0, 0))) (hd : Dir w bn nn (.map [])) (hs : Dir w bs ns (.map [])) (hne : bn ≠ bs) (h1 : B ≤ f) (h2 : B ≤ bn) (h3 : B ≤ bs) (hB : B ≤ w.heap.size) (hn : nn ≤ 900) (hn2 : ns ≤ 900) (ho : 0 ≤ ops ∧ ops ≤ 1000) (hgn : goodN name = true) (hnm : name.size ≤ maxLen) :
    Calls Try.prog 9 #[.pointer (some ⟨f, 0, none⟩), .string name] w fun e w' => e = .returned (.int .i64 0) ∧ ∃ g, One B w' f g name [⟨⟨#[]⟩, name, some g⟩] (.map []) [] 0 limit 0 0 (ops + 1) ∧ Below B w w' := by
  refine create_via _ name w _ fun w1 pf pn t1 x0 x1 hpf hpn => ?_
  rw [hgn]
  have hf1 := t1.heap h (fun x => x)
  have hd1 : Dir w1 bn nn (.map []) := hd.keep t1 (fun x => x)
  have hs1 : Dir w1 bs ns (.map []) := hs.keep t1 (fun x => x)
  refine operate_go f bn 37 _ (enters37 _) limit 0 0 ops (-1) (-1) 0 _ _ w1 hf1 (by omega) (by decide) (by decide) (by decide) (by decide) _ fun wc hT => ?_
  have u := Turns.of_tick hT
  have hfn : f ≠ bn := hd1.ne_cells hf1
  have hfs : f ≠ bs := hs1.ne_cells hf1
  have hfw := lt_of_heap h
  have hbw := hd.lt
  refine (create1_new f bn nn pf pn (.map []) [] name limit 0 0 (ops + 1) (tick (-1)) (tick (-1)) 0 true _ _ wc (u.cell x0 (by show ¬ pf = f; omega)) (u.cell x1 (by show ¬ pn = f; omega)) hT.1 (hd1.keep u hfn.symm) (.inl ⟨rfl, rfl⟩) (by unfold maxLen; omega) (by decide) hnm (none_file name)).mono ?_
  rintro e w2 ⟨rfl, ch', k1, k2, k3, k4, k5, k6⟩
  have hnr : ∀ k, inRow (.slice none 0 0) k → False := fun k hk => by obtain ⟨_, _, e⟩ := hk; cases e
  have hwc : w.heap.size ≤ wc.heap.size := Nat.le_trans t1.size u.size
  have hsw := hs.lt
  have tt : Turns (fun k => k < w.heap.size) w1 w2 := (u.mono fun k _ e => by omega).trans (k5.mono fun k _ e => by
    rcases e with e | e | e
    · omega
    · omega
    · exact (hnr k e).elim)
  refine ⟨0, rfl, 0, rfl, ⟨rfl, wc.heap.size, ⟨h1, Nat.le_trans hB hwc, bn, bs, nn + 1, ns, ch', _, k1, ?_, ?_, k4, k2, .inl ⟨rfl, rfl⟩, hne, h2, h3, ?_, ?_, by omega, by omega⟩, ?_⟩, tt⟩
  · rw [← apply_first]
    exact k3
  · refine (hs1.keep u hfs.symm).keep k5 fun e => ?_
    rcases e with e | e | e
    · exact hfs e.symm
    · exact hne e.symm
    · exact hnr _ e
  · intro k hk
    rcases k6 k hk with e | e
    · exact (hnr k e).elim
    · omega
  · intro k hk
    exact (hnr k hk).elim
  · have := t1.below hB (fun _ x => x.elim)
    refine (this.trans ((u.below (by have := t1.size; omega) (fun k e => by have e' : k = f := e; omega)))).trans (k5.below (Nat.le_trans hB hwc) (fun k e => ?_))
    rcases e with e | e | e
    · omega
    · omega
    · exact (hnr k e).elim
end Go.Proofs.Ytefjljdgdoklmaa
