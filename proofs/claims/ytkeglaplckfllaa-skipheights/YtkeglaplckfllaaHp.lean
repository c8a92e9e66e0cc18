/-
  Two tables in one memory, and a row of entries beside them.
-/
import Derived.Test.YtkeglaplckfllaaAl
import Derived.Test.YtkeglaplckfllaaEs
import Derived.Test.YtkeglaplckfllaaPi
import Derived.Test.YtkeglaplckfllaaLv
namespace Go.Proofs.Ytkeglaplckfllaa
open Go.RowKit
set_option maxRecDepth 100000
theorem cmpE_self (x : En) : cmpE x x = 0 := (cmpE_zero x x).2 ⟨rfl, rfl⟩
theorem cmpE_en {x y : En} (h : cmpE x y = 0) : x = y := by
  obtain ⟨h1, h2⟩ := (cmpE_zero x y).1 h
  exact Prod.ext h1 h2
theorem atT_none {ts : List Tow} (hs : ts.Pairwise (fun x y => cmpE x.e.en y.e.en < 0)) (q : En) : atT ts (place q ts) q = none ↔ ∀ x, x ∈ ts → cmpE x.e.en q ≠ 0 := by
  constructor
  · intro h x hx h0
    obtain ⟨k, hk, hkx⟩ := List.getElem_of_mem hx
    have hkx' : ts[k]? = some x := by rw [List.getElem?_eq_getElem hk, hkx]
    have h1 := place_iff q ts hs k x hkx'
    rw [h0] at h1
    have h2 : ¬ k < place q ts := fun h => absurd (h1.1 h) (by decide)
    rcases Nat.lt_or_ge (place q ts) k with h3 | h3
    · have hp : place q ts < ts.length := by omega
      have h4 := place_iff q ts hs _ _ (List.getElem?_eq_getElem hp)
      have h5 := List.pairwise_iff_getElem.1 hs _ _ hp hk h3
      rw [hkx, cmpE_en h0] at h5
      exact absurd (h4.2 h5) (by omega)
    · have hp : place q ts = k := by omega
      rw [atT, hp, hkx'] at h
      simp only [h0, if_pos] at h
      cases h
  · intro h
    unfold atT
    split
    · rename_i x hx
      rw [if_neg (h x (List.mem_of_getElem? hx))]
    · rfl
theorem sorted_eq : ∀ a b : List Ent, a.Pairwise (fun x y => cmpE x.en y.en < 0) → b.Pairwise (fun x y => cmpE x.en y.en < 0) → (∀ e, e ∈ a ↔ e ∈ b) → a = b
  | [], [], _, _, _ => rfl
  | [], y :: s, _, _, h => by have := (h y).2 (List.mem_cons_self ..); cases this
  | x :: r, [], _, _, h => by have := (h x).1 (List.mem_cons_self ..); cases this
  | x :: r, y :: s, ha, hb, h => by
    obtain ⟨a1, a2⟩ := List.pairwise_cons.1 ha
    obtain ⟨b1, b2⟩ := List.pairwise_cons.1 hb
    have hxy : x = y := by
      rcases List.mem_cons.1 ((h x).1 (List.mem_cons_self ..)) with e | e
      · exact e
      · rcases List.mem_cons.1 ((h y).2 (List.mem_cons_self ..)) with e' | e'
        · exact e'.symm
        · have h1 := b1 x e
          have h2 := a1 y e'
          rw [cmpE_swap] at h1
          omega
    subst hxy
    rw [sorted_eq r s a2 b2 fun e => ⟨fun he => ?_, fun he => ?_⟩]
    · rcases List.mem_cons.1 ((h e).1 (List.mem_cons_of_mem _ he)) with rfl | h1
      · have := a1 e he
        rw [cmpE_self] at this
        omega
      · exact h1
    · rcases List.mem_cons.1 ((h e).2 (List.mem_cons_of_mem _ he)) with rfl | h1
      · have := b1 e he
        rw [cmpE_self] at this
        omega
      · exact h1
/-- A table tells the entries of a row. -/
structure Tells (ts R : List Tow) : Prop where
  mem : ∀ e, e ∈ ts.map (·.e) ↔ e ∈ R.map (·.e)
  len : ts.length = R.length
  size : sizeT ts = weigh R + 32 * R.length
theorem Tells.nil : Tells [] [] := ⟨fun _ => Iff.rfl, rfl, rfl⟩
theorem Tells.ins1 {ts R : List Tow} (h : Tells ts R) (p : Nat) (hp : p ≤ ts.length) (x z : Tow) (hz : z.e = x.e) : Tells (ins ts p z) (R ++ [x]) := by
  refine ⟨fun e => ?_, ?_, ?_⟩
  · have := h.mem e
    simp only [List.mem_map, ins_mem, List.map_append, List.mem_append, List.map_cons, List.map_nil, List.mem_singleton] at this ⊢
    constructor
    · rintro ⟨a, rfl | ha, rfl⟩
      · exact .inr hz
      · exact .inl (this.1 ⟨a, ha, rfl⟩)
    · rintro (ha | rfl)
      · obtain ⟨a, h1, h2⟩ := this.2 ha
        exact ⟨a, .inr h1, h2⟩
      · exact ⟨z, .inl rfl, hz⟩
  · rw [ins_length hp, List.length_append, h.len]
    rfl
  · rw [sizeT_ins, weigh_snoc, List.length_append, h.size, hz]
    simp only [List.length_cons, List.length_nil]
    omega
theorem Tells.ins2 {ts R : List Tow} (h : Tells ts R) (p : Nat) (hp : p ≤ ts.length) (x z : Tow) (hz : z.e = x.e) : Tells (ins ts p z) (x :: R) := by
  refine ⟨fun e => ?_, ?_, ?_⟩
  · have := h.mem e
    simp only [List.mem_map, ins_mem, List.map_cons, List.mem_cons] at this ⊢
    constructor
    · rintro ⟨a, rfl | ha, rfl⟩
      · exact .inl hz
      · exact .inr (this.1 ⟨a, ha, rfl⟩)
    · rintro (rfl | ha)
      · exact ⟨z, .inl rfl, hz⟩
      · obtain ⟨a, h1, h2⟩ := this.2 ha
        exact ⟨a, .inr h1, h2⟩
  · rw [ins_length hp, List.length_cons, h.len]
  · rw [sizeT_ins, h.size, hz, List.length_cons, weigh]
    omega
theorem tells_same {ts us R : List Tow} (h1 : Tells ts R) (h2 : Tells us R) (s1 : ts.Pairwise (fun x y => cmpE x.e.en y.e.en < 0)) (s2 : us.Pairwise (fun x y => cmpE x.e.en y.e.en < 0)) : ts.map (·.e) = us.map (·.e) :=
  sorted_eq _ _ (List.pairwise_map.2 s1) (List.pairwise_map.2 s2) fun e => (h1.mem e).trans (h2.mem e).symm
/-- Two tables, and a row of entries, apart from each other. -/
structure Two (B : Nat) (w0 w : World) (s bs t bt : Nat) (ts us : List Tow) (v : Value) (R : List Tow) : Prop where
  ex : ∃ As At : Nat → Prop, Tab As w s bs ts ∧ Tab At w t bt us ∧ (∀ k, As k → (B ≤ k ∧ k < w.heap.size) ∧ ¬ At k ∧ ¬ inRow v k) ∧ ∀ k, At k → (B ≤ k ∧ k < w.heap.size) ∧ ¬ inRow v k
  row : ERow w B v R
  hB : B ≤ w.heap.size
  bel : Below B w0 w
section
variable {B : Nat} {w0 w w' : World} {s bs t bt : Nat} {ts us : List Tow} {v : Value} {R : List Tow}
theorem Two.quiet (h : Two B w0 w s bs t bt ts us v R) (tt : Turns (fun _ => False) w w') : Two B w0 w' s bs t bt ts us v R := by
  obtain ⟨⟨As, At, h1, h2, h3, h4⟩, hr, hB, hb⟩ := h
  have hs := tt.size
  exact ⟨⟨As, At, h1.quiet tt, h2.quiet tt, fun k hk => ⟨⟨(h3 k hk).1.1, by have := (h3 k hk).1.2; omega⟩, (h3 k hk).2⟩, fun k hk => ⟨⟨(h4 k hk).1.1, by have := (h4 k hk).1.2; omega⟩, (h4 k hk).2⟩⟩, hr.keep tt (fun _ _ x => x), Nat.le_trans hB hs, hb.trans (tt.below hB fun _ x => x.elim)⟩
theorem Two.sorted1 (h : Two B w0 w s bs t bt ts us v R) : ts.Pairwise (fun x y => cmpE x.e.en y.e.en < 0) := by
  obtain ⟨⟨As, At, h1, _⟩, _⟩ := h
  exact h1.sorted
theorem Two.sorted2 (h : Two B w0 w s bs t bt ts us v R) : us.Pairwise (fun x y => cmpE x.e.en y.e.en < 0) := by
  obtain ⟨⟨As, At, _, h1, _⟩, _⟩ := h
  exact h1.sorted
variable {ka va : Option Addr} {kc vc : Nat} {e : Ent}
theorem Two.ins1_ok (h : Two B w0 w s bs t bt ts us v R) (hk : Bytes w (.slice ka e.key.length kc) e.key) (hv : Bytes w (.slice va e.val.length vc) e.val) (hs : e.seq < 18446744073709551616) (hm : Smol [(e.kind, e.key, e.val)]) (hn : ts.length ≤ 100000) (hz : sizeT ts ≤ 900000) (hc : chk e.seq [(e.kind, e.key, e.val)] = 0) (hat : atT ts (place (e.key, e.seq) ts) (e.key, e.seq) = none) (H : Nat) (hh1 : 1 ≤ H) (hh2 : H ≤ 12) :
    Calls Try.prog 8 #[.pointer (some ⟨s, 0, none⟩), .agg #[.slice ka e.key.length kc, .int .u64 (e.seq : Nat), .int .i64 e.kind, .slice va e.val.length vc], .int .i64 (H : Nat)] w fun o w' => o = .returned (.int .i64 0) ∧ ∃ x : Tow, x.e = e ∧ Two B w0 w' s bs t bt (ins ts (place (e.key, e.seq) ts) x) us v R := by
  obtain ⟨⟨As, At, h1, h2, h3, h4⟩, hr, hB, hb⟩ := h
  refine (insert_new As s bs ts w ka va e.key.length kc e.val.length vc e.seq e.kind e.key e.val h1 hk hv hs hm hn hz hc H hh1 hh2 hat).mono ?_
  rintro o w' ⟨rfl, x, hx, _, hT, tt⟩
  have hsz := tt.size
  refine ⟨rfl, x, hx, ⟨fun k => As k ∨ (w.heap.size ≤ k ∧ k < w'.heap.size), At, hT.mono fun k hk hg => hg.elim .inl fun hg => .inr ⟨hg, hk⟩, h2.keep tt fun k _ ha hs' => (h3 k hs').2.1 ha, fun k hk => ?_, fun k hk => ⟨⟨(h4 k hk).1.1, by have := (h4 k hk).1.2; omega⟩, (h4 k hk).2⟩⟩, hr.keep tt fun k hk hs' => (h3 k hs').2.2 hk, Nat.le_trans hB hsz, hb.trans (tt.below hB fun k hk => (h3 k hk).1.1)⟩
  rcases hk with hk | hk
  · exact ⟨⟨(h3 k hk).1.1, by have := (h3 k hk).1.2; omega⟩, (h3 k hk).2⟩
  · exact ⟨⟨by omega, hk.2⟩, fun ha => by have := (h4 k ha).1.2; omega, fun hr' => by have := (hr.row hr').2; omega⟩
theorem Two.ins1_no (h : Two B w0 w s bs t bt ts us v R) (hk : Bytes w (.slice ka e.key.length kc) e.key) (hv : Bytes w (.slice va e.val.length vc) e.val) (hs : e.seq < 18446744073709551616) (hm : Smol [(e.kind, e.key, e.val)]) (hn : ts.length ≤ 100000) (hz : sizeT ts ≤ 900000) (hno : ¬ (chk e.seq [(e.kind, e.key, e.val)] = 0 ∧ atT ts (place (e.key, e.seq) ts) (e.key, e.seq) = none)) (H : Nat) (hh1 : 1 ≤ H) (hh2 : H ≤ 12) :
    ∃ c : Int, c ≠ 0 ∧ Calls Try.prog 8 #[.pointer (some ⟨s, 0, none⟩), .agg #[.slice ka e.key.length kc, .int .u64 (e.seq : Nat), .int .i64 e.kind, .slice va e.val.length vc], .int .i64 (H : Nat)] w fun o w' => o = .returned (.int .i64 c) ∧ Two B w0 w' s bs t bt ts us v R := by
  have hq := fun {w'} => h.quiet (w' := w')
  obtain ⟨⟨As, At, h1, h2, h3, h4⟩, hr, hB, hb⟩ := h
  by_cases hc : chk e.seq [(e.kind, e.key, e.val)] = 0
  · cases hat : atT ts (place (e.key, e.seq) ts) (e.key, e.seq) with
    | none => exact absurd ⟨hc, hat⟩ hno
    | some x =>
      refine ⟨5, by decide, (insert_there As s bs ts w ka va e.key.length kc e.val.length vc e.seq e.kind H e.key e.val h1 hk hv hs hm hn hz hc (by omega) x hat).mono ?_⟩
      rintro o w' ⟨rfl, b⟩
      exact ⟨rfl, hq (Turns.of_below b _)⟩
  · refine ⟨_, hc, (insert_wrong As s bs ts w ka va e.key.length kc e.val.length vc e.seq e.kind H e.key e.val h1 hk hv hs hm hn hz hc).mono ?_⟩
    rintro o w' ⟨rfl, b⟩
    exact ⟨rfl, hq (Turns.of_below b _)⟩
theorem Two.ins2_ok (h : Two B w0 w s bs t bt ts us v R) (hk : Bytes w (.slice ka e.key.length kc) e.key) (hv : Bytes w (.slice va e.val.length vc) e.val) (hs : e.seq < 18446744073709551616) (hm : Smol [(e.kind, e.key, e.val)]) (hn : us.length ≤ 100000) (hz : sizeT us ≤ 900000) (hc : chk e.seq [(e.kind, e.key, e.val)] = 0) (hat : atT us (place (e.key, e.seq) us) (e.key, e.seq) = none) (H : Nat) (hh1 : 1 ≤ H) (hh2 : H ≤ 12) :
    Calls Try.prog 8 #[.pointer (some ⟨t, 0, none⟩), .agg #[.slice ka e.key.length kc, .int .u64 (e.seq : Nat), .int .i64 e.kind, .slice va e.val.length vc], .int .i64 (H : Nat)] w fun o w' => o = .returned (.int .i64 0) ∧ ∃ x : Tow, x.e = e ∧ Two B w0 w' s bs t bt ts (ins us (place (e.key, e.seq) us) x) v R := by
  obtain ⟨⟨As, At, h1, h2, h3, h4⟩, hr, hB, hb⟩ := h
  refine (insert_new At t bt us w ka va e.key.length kc e.val.length vc e.seq e.kind e.key e.val h2 hk hv hs hm hn hz hc H hh1 hh2 hat).mono ?_
  rintro o w' ⟨rfl, x, hx, _, hT, tt⟩
  have hsz := tt.size
  refine ⟨rfl, x, hx, ⟨As, fun k => At k ∨ (w.heap.size ≤ k ∧ k < w'.heap.size), h1.keep tt fun k _ ha hs' => (h3 k ha).2.1 hs', hT.mono fun k hk hg => hg.elim .inl fun hg => .inr ⟨hg, hk⟩, fun k hk => ⟨⟨(h3 k hk).1.1, by have := (h3 k hk).1.2; omega⟩, ?_, (h3 k hk).2.2⟩, fun k hk => ?_⟩, hr.keep tt fun k hk hs' => (h4 k hs').2 hk, Nat.le_trans hB hsz, hb.trans (tt.below hB fun k hk => (h4 k hk).1.1)⟩
  · rintro (ha | ha)
    · exact (h3 k hk).2.1 ha
    · have := (h3 k hk).1.2; omega
  · rcases hk with hk | hk
    · exact ⟨⟨(h4 k hk).1.1, by have := (h4 k hk).1.2; omega⟩, (h4 k hk).2⟩
    · exact ⟨⟨by omega, hk.2⟩, fun hr' => by have := (hr.row hr').2; omega⟩
/-- The row grows. -/
theorem Two.app (h : Two B w0 w s bs t bt ts us v R) {g' n' c' : Nat} {x : Tow} (hrow : ERow w' B (.slice (some ⟨g', 0, none⟩) n' c') (R ++ [x])) (tt : Turns (inRow v) w w') (hin : inRow v g' ∨ g' = w.heap.size) : Two B w0 w' s bs t bt ts us (.slice (some ⟨g', 0, none⟩) n' c') (R ++ [x]) := by
  obtain ⟨⟨As, At, h1, h2, h3, h4⟩, hr, hB, hb⟩ := h
  have hsz := tt.size
  have hne : ∀ k, (k < w.heap.size ∧ ¬ inRow v k) → ¬ inRow (.slice (some ⟨g', 0, none⟩) n' c') k := fun k hk ⟨m, d, e⟩ => by
    have e2 : g' = k := by cases e; rfl
    rcases hin with h | h
    · exact hk.2 (e2 ▸ h)
    · omega
  exact ⟨⟨As, At, h1.keep tt fun k _ ha hs' => (h3 k ha).2.2 hs', h2.keep tt fun k _ ha hs' => (h4 k ha).2 hs', fun k hk => ⟨⟨(h3 k hk).1.1, by have := (h3 k hk).1.2; omega⟩, (h3 k hk).2.1, hne k ⟨(h3 k hk).1.2, (h3 k hk).2.2⟩⟩, fun k hk => ⟨⟨(h4 k hk).1.1, by have := (h4 k hk).1.2; omega⟩, hne k ⟨(h4 k hk).1.2, (h4 k hk).2⟩⟩⟩, hrow, Nat.le_trans hB hsz, hb.trans (tt.below hB fun k hk => (hr.row hk).1)⟩
end
end Go.Proofs.Ytkeglaplckfllaa
