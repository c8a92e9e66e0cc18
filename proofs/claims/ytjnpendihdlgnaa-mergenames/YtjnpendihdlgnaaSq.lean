/-
  What 'merged' hands back tells the entries of all rows, merged.
-/
import Derived.Test.YtjnpendihdlgnaaHo
namespace Go.Proofs.Ytjnpendihdlgnaa
open Go.RowKit Go.Shelf
set_option maxRecDepth 100000
set_option maxHeartbeats 4000000
attribute [local go_sem] Oper.semAt_some
/-- The types of a merge's own cells. -/
def TM : TypeId → Prop := fun t => t = 50 ∨ t = 84
def IsM (W : World) (k : Nat) : Prop := ∃ cs t fr, TM t ∧ W.heap[k]? = some (.cells cs t fr)
/-- What whoever ranges over a merge may turn. -/
def KpM (B : Nat) (W W' : World) : Prop := Turns (fun k => B ≤ k ∧ ¬ IsM W k) W W'
theorem KpM.trans {B : Nat} {X Y Z : World} (h : KpM B X Y) (k : KpM B Y Z) : KpM B X Z := by
  refine ⟨k.os.trans h.os, k.tape.trans h.tape, k.output.trans h.output, Nat.le_trans h.size k.size, fun i hi hn => ?_⟩
  have h1 := h.block i hi hn
  refine (k.block i (Nat.lt_of_lt_of_le hi h.size) fun x => hn ⟨x.1, fun y => x.2 ?_⟩).trans h1
  obtain ⟨cs, t, fr, ht, e⟩ := y
  exact ⟨cs, t, fr, ht, h1.trans e⟩
theorem KpM.put {B : Nat} (W : World) (l : Nat) (o o' : Obj) (hB : B ≤ l) (hl : W.heap[l]? = some o) (ho : o.isCells = false) : KpM B W (W.putObj l o') :=
  (turns_put o' hl).mono fun k _ e => by
    subst e
    exact ⟨hB, fun ⟨cs, t, fr, _, x⟩ => by rw [hl] at x; cases x; cases ho⟩
theorem KpM.of {B : Nat} {S : Nat → Prop} {W W' : World} (h : Turns S W W') (hS : ∀ k, k < W.heap.size → S k → B ≤ k ∧ ¬ IsM W k) : KpM B W W' := h.mono hS
theorem HB.kept {B : Nat} {w w' : World} {p o : Nat} {cs : Array Value} {v : Value} {L : List Hd} (h : HB (fun k => B ≤ k) w p o 50 cs v L) (k : KpM B w w') : HB (fun k => B ≤ k) w' p o 50 cs v L := by
  refine h.keep k (fun x => x.2 ⟨_, _, _, .inl rfl, h.blk⟩) (fun i hi x => x.2 ?_) (fun i x => x.1)
  obtain ⟨n', c', e⟩ := hi
  rcases h.row with ⟨e1, _⟩ | ⟨g, c, e1, ⟨_, cs, hr, _⟩, _⟩
  · rw [e1] at e; cases e
  · rw [e1] at e; cases e; exact ⟨cs, 84, _, .inr rfl, hr⟩
/-- What an iterator turns of its own. -/
theorem Moved.mine {B p : Nat} {S : Nat → Prop} {v v' : Value} {w w' : World} {o : Nat} {cs : Array Value} {L : List Hd} (h : Moved p v v' w w') (hB : HB S w p o 50 cs v L) (h1 : B ≤ p) (h2 : ∀ k, inRow v k → B ≤ k) : Turns (Mine TM B w) w w' := h.1.mono fun k _ hk => by
  rcases hk with e | hk
  · subst e; exact ⟨h1, _, _, _, .inl rfl, hB.blk⟩
  · refine ⟨h2 k hk, ?_⟩
    obtain ⟨n', c', e⟩ := hk
    rcases hB.row with ⟨e1, _⟩ | ⟨g, c, e1, ⟨_, cs, hr, _⟩, _⟩
    · rw [e1] at e; cases e
    · rw [e1] at e; cases e; exact ⟨cs, 84, _, .inr rfl, hr⟩
/-! There is always something merged -/
theorem least : ∀ (L : List Hd), L ≠ [] → ∃ h0, h0 ∈ L ∧ ∀ h, h ∈ L → ¬ ltH h h0
  | [], h => absurd rfl h
  | [x], _ => ⟨x, by simp, fun h hh => by rw [List.mem_singleton.1 hh]; exact ltH_irr x⟩
  | x :: y :: r, _ => by
    obtain ⟨h0, hm, hmin⟩ := least (y :: r) (by simp)
    by_cases hl : ltH x h0
    · refine ⟨x, by simp, fun h hh => ?_⟩
      rcases List.mem_cons.1 hh with rfl | hh
      · exact ltH_irr h
      · exact ltH_tr x h0 h (ltH_asym _ _ hl) (hmin h hh)
    · refine ⟨h0, List.mem_cons_of_mem _ hm, fun h hh => ?_⟩
      rcases List.mem_cons.1 hh with rfl | hh
      · exact hl
      · exact hmin h hh
theorem tot_filterMap : ∀ d : List Hd, (∀ h, h ∈ d → h.R ≠ []) → tot (d.filterMap adv) + d.length = tot d
  | [], _ => rfl
  | h :: d, hne => by
    have ih := tot_filterMap d fun x hx => hne x (List.mem_cons_of_mem _ hx)
    have h1 := tot_adv (h := h) (L := d.filterMap adv) (hne h (by simp))
    have e : (h :: d).filterMap adv = (adv h).toList ++ d.filterMap adv := by
      cases e : adv h with
      | none => rw [List.filterMap_cons_none e]; rfl
      | some x => rw [List.filterMap_cons_some e]; rfl
    rw [e]
    simp only [tot, List.map_cons, List.sum_cons, List.length_cons] at *
    omega
theorem tot_append (a b : List Hd) : tot (a ++ b) = tot a + tot b := by simp [tot]
theorem Mg.exist : ∀ (n : Nat) (L : List Hd), tot L ≤ n → Up L → (∀ h, h ∈ L → h.R ≠ []) → ∃ xs, Mg L xs
  | n, L, hn, hu, hne => by
    by_cases hL : L = []
    · subst hL; exact ⟨[], Mg.nil⟩
    obtain ⟨h0, h0m, hmin⟩ := least L hL
    obtain ⟨y, r0, hy⟩ : ∃ y r, h0.R = y :: r := by
      cases e : h0.R with
      | nil => exact absurd e (hne h0 h0m)
      | cons y r => exact ⟨y, r, rfl⟩
    have hp : L.Perm (L.filter (fun h => cmpE h.top y.e.en = 0) ++ L.filter (fun h => ! decide (cmpE h.top y.e.en = 0))) := (List.filter_append_perm _ L).symm
    have hw : Went y.e.en L ((L.filter (fun h => cmpE h.top y.e.en = 0)).filterMap adv ++ L.filter (fun h => ! decide (cmpE h.top y.e.en = 0))) := ⟨_, _, hp, .refl _, fun h hh => by simpa using (List.mem_filter.1 hh).2⟩
    have hmem : h0 ∈ L.filter (fun h => cmpE h.top y.e.en = 0) := by
      refine List.mem_filter.2 ⟨h0m, ?_⟩
      rw [top_cons hy]
      simpa using (cmpE_zero y.e.en y.e.en).2 ⟨rfl, rfl⟩
    have htd := tot_filterMap (L.filter (fun h => cmpE h.top y.e.en = 0)) fun h hh => hne h (List.mem_filter.1 hh).1
    have htp := tot_perm hp
    rw [tot_append] at htp
    have hlen : 0 < (L.filter (fun h => cmpE h.top y.e.en = 0)).length := List.length_pos_iff.2 (List.ne_nil_of_mem hmem)
    cases n with
    | zero => omega
    | succ n =>
      obtain ⟨xs, hx⟩ := Mg.exist n _ (by rw [tot_append]; omega) (hu.went hw) (fun h hh => by
        rcases List.mem_append.1 hh with hm | hm
        · obtain ⟨a, _, e⟩ := List.mem_filterMap.1 hm
          exact (adv_some e).choose_spec.2.2
        · exact hne h (List.mem_filter.1 hm).1)
      refine ⟨y :: xs, Mg.step hu h0m hy hmin hw (fun h hh => ?_) hx⟩
      rcases List.mem_append.1 hh with hm | hm
      · obtain ⟨a, ha, e⟩ := List.mem_filterMap.1 hm
        obtain ⟨z, _, _, hz⟩ := adv_some e
        cases e2 : h.R with
        | nil => exact absurd e2 hz
        | cons b t =>
          have := adv_above (hu a (List.mem_filter.1 ha).1) e (by simpa using (List.mem_filter.1 ha).2) b (by rw [e2]; simp)
          rw [top_cons e2]
          have := cmpE_swap y.e.en b.e.en
          omega
      · simpa using (List.mem_filter.1 hm).2
/-- The entries of all rows. -/
def allOf (rs : List Rw) : List Tow := rs.flatMap (·.R)
def Tow.agg (x : Tow) : Value := .agg #[.slice x.ka x.e.key.length x.kc, .int .u64 (x.e.seq : Nat), .int .i64 x.e.kind, .slice x.va x.e.val.length x.vc]
end Go.Proofs.Ytjnpendihdlgnaa
