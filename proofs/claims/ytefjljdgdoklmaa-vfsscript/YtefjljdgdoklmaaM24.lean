import Derived.Test.YtefjljdgdoklmaaM23
/-
  The document's Crash: files that are made anew.
-/
namespace Go.Proofs.Ytefjljdgdoklmaa
open Go.RowKit Go.Maps
set_option maxRecDepth 100000
set_option maxHeartbeats 1000000
section
variable {A : Nat → Prop} {w w' : World} {q : Nat} {r : RDisk} {bs : Nat} {ch : Value} {fv : Nat → Value}
/-- A new file, with its bytes in new memory. -/
theorem RRepAt.fresh2 (h : RRepAt A w q r bs ch fv) {A' : Nat → Prop} {g : Nat} {v : Value} {x : Fil} (hg : w.heap.size ≤ g) (t : Turns (fun _ => False) w w') (hc : w'.heap[g]? = some (.cells #[v, .int .i64 (x.synced : Nat)] 95 (0, 0))) (ho : OwnB w' v x.bytes) (hr : ∀ k, inRow v k → w.heap.size ≤ k)
    (hA : ∀ k, k < w.heap.size → A k → A' k) (hag : A' g) (har : ∀ k, inRow v k → A' k) : RRepAt A' w' q (r.setF g x) bs ch (fun k => if k = g then v else fv k) := by
  have h' := h.quiet t
  have hm := (h.mono hA).quiet t
  refine ⟨hm.cells, hm.synced, hm.chs, hm.af, hm.ay, hm.ac, ⟨fun p y hp => ?_, fun p p' y y' k hp hp' hne hk => ?_⟩, ?_⟩
  · by_cases e : p = g
    · subst e
      have hx : x = y := by simpa [RDisk.setF] using hp
      subst hx
      rw [if_pos rfl]
      exact ⟨hc, ho, hag, har⟩
    · rw [if_neg e]
      have hp' : r.files p = some y := by simpa [RDisk.setF, e] using hp
      exact hm.files.each p y hp'
  · by_cases e : p = g
    · rw [if_pos e] at hk
      have e' : ¬ p' = g := fun e2 => hne (e.trans e2.symm)
      rw [if_neg e']
      intro hk'
      have hp2 : r.files p' = some y' := by simpa [RDisk.setF, e'] using hp'
      have h1 := (h.row hp2 hk').2.2.2.2
      have h2 := hr k hk
      omega
    · rw [if_neg e] at hk
      have hp1 : r.files p = some y := by simpa [RDisk.setF, e] using hp
      by_cases e' : p' = g
      · rw [if_pos e']
        intro hk'
        have h1 := (h.row hp1 hk).2.2.2.2
        have h2 := hr k hk'
        omega
      · rw [if_neg e']
        exact h.files.apart p p' y y' k hp1 (by simpa [RDisk.setF, e'] using hp') hne hk
  · have hup : ∀ p, (∃ y, r.files p = some y) → ∃ y, (r.setF g x).files p = some y := fun p ⟨y, hy⟩ => by
      by_cases e : p = g
      · exact ⟨x, by simp [RDisk.setF, e]⟩
      · exact ⟨y, by simp [RDisk.setF, e, hy]⟩
    exact ⟨h.refs.fs, fun s p hs => hup p (h.refs.synced s p hs), fun c hc p hp => hup p (h.refs.changes c hc p hp)⟩
end
theorem fileOf_put (D : DataW Unit) (hD : IsMap D) (s t : ByteArray) (g : Nat) : fileOf (D.put (key t) (.lit (.int .i64 (g : Nat)))) s = if s = t then some g else fileOf D s := by
  by_cases e : s = t
  · rw [if_pos e, e]
    exact fileOf_lit _ _ _ (atKey_put_same hD (keyLit _) _ _)
  · rw [if_neg e]
    exact fileOf_congr (atKey_put_other (key_ne e) _ _)
/-- Files that were made anew: a name, its block, the file. -/
abbrev Anew := ByteArray × Nat × Fil
def newD (D : DataW Unit) (gs : List Anew) : DataW Unit := gs.foldl (fun E p => E.put (key p.1) (.lit (.int .i64 (p.2.1 : Nat)))) D
def newR (r : RDisk) (gs : List Anew) : RDisk := gs.foldl (fun r p => r.setF p.2.1 p.2.2) r
theorem newD_snoc (D : DataW Unit) (gs : List Anew) (p : Anew) : newD D (gs ++ [p]) = (newD D gs).put (key p.1) (.lit (.int .i64 (p.2.1 : Nat))) := by simp [newD]
theorem newR_snoc (r : RDisk) (gs : List Anew) (p : Anew) : newR r (gs ++ [p]) = (newR r gs).setF p.2.1 p.2.2 := by simp [newR]
theorem newD_map {D : DataW Unit} (hD : IsMap D) (gs : List Anew) : IsMap (newD D gs) := by
  induction gs generalizing D with
  | nil => exact hD
  | cons p r ih => exact ih (hD.put _ _)
theorem newD_other {D : DataW Unit} (hD : IsMap D) (gs : List Anew) (s : ByteArray) (hs : ∀ p ∈ gs, s ≠ p.1) : fileOf (newD D gs) s = fileOf D s := by
  induction gs generalizing D with
  | nil => rfl
  | cons p r ih =>
    show fileOf (newD (D.put (key p.1) _) r) s = _
    rw [ih (hD.put _ _) (fun q hq => hs q (by simp [hq])), fileOf_put D hD, if_neg (hs p (by simp))]
theorem newD_mem {D : DataW Unit} (hD : IsMap D) (gs : List Anew) (hnd : (gs.map (·.1)).Nodup) (p : Anew) (hp : p ∈ gs) : fileOf (newD D gs) p.1 = some p.2.1 := by
  induction gs generalizing D with
  | nil => cases hp
  | cons a r ih =>
    rw [List.map_cons, List.nodup_cons] at hnd
    rcases List.mem_cons.1 hp with rfl | hp
    · show fileOf (newD (D.put (key p.1) _) r) p.1 = _
      rw [newD_other (hD.put _ _) r p.1 (fun q hq e => hnd.1 (List.mem_map.2 ⟨q, hq, e.symm⟩)), fileOf_put D hD, if_pos rfl]
    · exact ih (hD.put _ _) hnd.2 hp
theorem newR_old (r : RDisk) (gs : List Anew) (g : Nat) (hg : ∀ p ∈ gs, g ≠ p.2.1) : (newR r gs).files g = r.files g := by
  induction gs generalizing r with
  | nil => rfl
  | cons p l ih =>
    show (newR (r.setF p.2.1 p.2.2) l).files g = _
    rw [ih _ (fun q hq => hg q (by simp [hq]))]
    simp [RDisk.setF, hg p (by simp)]
theorem newR_mem (r : RDisk) (gs : List Anew) (hnd : (gs.map (·.2.1)).Nodup) (p : Anew) (hp : p ∈ gs) : (newR r gs).files p.2.1 = some p.2.2 := by
  induction gs generalizing r with
  | nil => cases hp
  | cons a l ih =>
    rw [List.map_cons, List.nodup_cons] at hnd
    rcases List.mem_cons.1 hp with rfl | hp
    · show (newR (r.setF p.2.1 p.2.2) l).files p.2.1 = _
      rw [newR_old _ _ _ (fun q hq e => hnd.1 (List.mem_map.2 ⟨q, hq, e.symm⟩))]
      simp [RDisk.setF]
    · exact ih _ hnd.2 hp
theorem newR_rest (r : RDisk) (gs : List Anew) : (newR r gs).limit = r.limit ∧ (newR r gs).synced = r.synced ∧ (newR r gs).changes = r.changes ∧ (newR r gs).off = r.off ∧ (newR r gs).fuse = r.fuse ∧ (newR r gs).fault = r.fault ∧ (newR r gs).fail = r.fail ∧ (newR r gs).n = r.n := by
  induction gs generalizing r with
  | nil => exact ⟨rfl, rfl, rfl, rfl, rfl, rfl, rfl, rfl⟩
  | cons p l ih => exact ih (r.setF p.2.1 p.2.2)
theorem names_nodup {w : World} {b n : Nat} {D : DataW Unit} (h : Dir w b n D) : (namesOf D).Nodup := by
  obtain ⟨es, hD, hpw, _⟩ := World.ownsMap.entries h law9
  obtain ⟨es', hD', hko⟩ := World.ownsMap.keysOf h
  obtain rfl : es = es' := by rw [hD] at hD'; simpa using hD'
  subst hD
  have h1 : (strKeys (.map es : DataW Unit)).Nodup := by
    show (es.map fun p => strOf p.1).Nodup
    refine List.pairwise_map.2 (hpw.imp_of_mem fun {p q} hp' hq' hne e => hne ?_)
    obtain ⟨v1, hv1⟩ := hko p hp'
    obtain ⟨v2, hv2⟩ := hko q hq'
    obtain ⟨a, _, ha, _⟩ := Maps.keyOf_str Try.underlying9 hv1
    obtain ⟨c, _, hc, _⟩ := Maps.keyOf_str Try.underlying9 hv2
    rw [ha, hc] at e ⊢
    exact congrArg _ e
  have h2 : ((strKeys (.map es : DataW Unit)).mergeSort leB).Nodup := ((List.mergeSort_perm _ _).nodup_iff).2 h1
  unfold namesOf
  refine List.pairwise_map.2 (h2.imp fun hne e => hne ?_)
  have := congrArg (fun b : ByteArray => b.data.toList) e
  simpa [toBA] using this
theorem dir_look {A : Nat → Prop} {w : World} {q : Nat} {r : RDisk} {bs : Nat} {ch : Value} {fv : Nat → Value} (h : RRepAt A w q r bs ch fv) {K : Nat} {s : ByteArray} {g : Nat} (hs : fileOf (r.dir K) s = some g) : ∃ x, r.files g = some x := by
  rcases fileOf_foldR (r.changes.take K) h.synced.isMap hs with hs | ⟨c, h1, h2⟩
  · exact h.refs.synced s g hs
  · exact h.refs.changes c (List.mem_of_mem_take h1) g h2
theorem bytes_first {w : World} {a : Option Addr} {n c : Nat} {l : List (BitVec 8)} (h : Bytes w (.slice a n c) l) (m c' : Nat) (hm : m ≤ n) : Bytes w (.slice a m c') (l.take m) := by
  have hl := h.len
  obtain ⟨a', c'', e, hx⟩ := h
  cases e
  refine ⟨a, c', by rw [List.length_take, Nat.min_eq_left (by omega)], fun k hk => ?_⟩
  rw [List.length_take, Nat.min_eq_left (by omega)] at hk
  obtain ⟨b, off, e, hc⟩ := hx k (by omega)
  refine ⟨b, off, e, ?_⟩
  rw [hc]
  congr 2
  simp [List.getD, hk]
end Go.Proofs.Ytefjljdgdoklmaa
