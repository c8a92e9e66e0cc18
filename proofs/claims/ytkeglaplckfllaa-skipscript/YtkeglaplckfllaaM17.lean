import Derived.Test.YtkeglaplckfllaaM12
import Derived.Test.YtkeglaplckfllaaM16
import Derived.Test.YtkeglaplckfllaaM11
/-
  Two tables in one memory, and a row of entries beside them.
-/
namespace Go.Proofs.Ytkeglaplckfllaa
open Go.RowKit
set_option maxRecDepth 100000
theorem cmpE_self (x : En) : cmpE x x = 0 := (cmpE_zero x x).2 ⟨rfl, rfl⟩
theorem cmpE_en {x y : En} (h : cmpE x y = 0) : x = y := by
  obtain ⟨h1, h2⟩ := (cmpE_zero x y).1 h
  exact Prod.ext h1 h2
theorem atT_none {ts : List Tow} (hs : ts.Pairwise (fun x y => cmpE x.e.en y.e.en < 0)) (q : En) : atT ts (place q ts) q = none ↔ ∀ x, x ∈ ts → cmpE x.e.en q ≠ 0 := by
  constructor
  · intro h x hx h0
    obtain ⟨k, hk, hkx⟩ := List.getElem_of_mem hx
    have hkx' : ts[k]? = some x := by rw [List.getElem?_eq_getElem hk, hkx]
    have h1 := place_iff q ts hs k x hkx'
    rw [h0] at h1
    have h2 : ¬ k < place q ts := fun h => absurd (h1.1 h) (by decide)
    rcases Nat.lt_or_ge (place q ts) k with h3 | h3
    · have hp : place q ts < ts.length := by omega
      have h4 := place_iff q ts hs _ _ (List.getElem?_eq_getElem hp)
      have h5 := List.pairwise_iff_getElem.1 hs _ _ hp hk h3
      rw [hkx, cmpE_en h0] at h5
      exact absurd (h4.2 h5) (by omega)
    · have hp : place q ts = k := by omega
      rw [atT, hp, hkx'] at h
      simp only [h0, if_pos] at h
      cases h
  · intro h
    unfold atT
    split
    · rename_i x hx
      rw [if_neg (h x (List.mem_of_getElem? hx))]
    · rfl
theorem sorted_eq : ∀ a b : List Ent, a.Pairwise (fun x y => cmpE x.en y.en < 0) → b.Pairwise (fun x y => cmpE x.en y.en < 0) → (∀ e, e ∈ a ↔ e ∈ b) → a = b
  | [], [], _, _, _ => rfl
  | [], y :: s, _, _, h => by have := (h y).2 (List.mem_cons_self ..); cases this
  | x :: r, [], _, _, h => by have := (h x).1 (List.mem_cons_self ..); cases this
  | x :: r, y :: s, ha, hb, h => by
    obtain ⟨a1, a2⟩ := List.pairwise_cons.1 ha
    obtain ⟨b1, b2⟩ := List.pairwise_cons.1 hb
    have hxy : x = y := by
      rcases List.mem_cons.1 ((h x).1 (List.mem_cons_self ..)) with e | e
      · exact e
      · rcases List.mem_cons.1 ((h y).2 (List.mem_cons_self ..)) with e' | e'
        · exact e'.symm
        · have h1 := b1 x e
          have h2 := a1 y e'
          rw [cmpE_swap] at h1
          omega
    subst hxy
    rw [sorted_eq r s a2 b2 fun e => ⟨fun he => ?_, fun he => ?_⟩]
    · rcases List.mem_cons.1 ((h e).1 (List.mem_cons_of_mem _ he)) with rfl | h1
      · have := a1 e he
        rw [cmpE_self] at this
        omega
      · exact h1
    · rcases List.mem_cons.1 ((h e).2 (List.mem_cons_of_mem _ he)) with rfl | h1
      · have := b1 e he
        rw [cmpE_self] at this
        omega
      · exact h1
/-- A table tells the entries of a row. -/
structure Tells (ts R : List Tow) : Prop where
  mem : ∀ e, e ∈ ts.map (·.e) ↔ e ∈ R.map (·.e)
  len : ts.length = R.length
  size : sizeT ts = weigh R + 32 * R.length
theorem Tells.nil : Tells [] [] := ⟨fun _ => Iff.rfl, rfl, rfl⟩
theorem Tells.ins1 {ts R : List Tow} (h : Tells ts R) (p : Nat) (hp : p ≤ ts.length) (x z : Tow) (hz : z.e = x.e) : Tells (ins ts p z) (R ++ [x]) := by
  refine ⟨fun e => ?_, ?_, ?_⟩
  · have := h.mem e
    simp only [List.mem_map, ins_mem, List.map_append, List.mem_append, List.map_cons, List.map_nil, List.mem_singleton] at this ⊢
    constructor
    · rintro ⟨a, rfl | ha, rfl⟩
      · exact .inr hz
      · exact .inl (this.1 ⟨a, ha, rfl⟩)
    · rintro (ha | rfl)
      · obtain ⟨a, h1, h2⟩ := this.2 ha
        exact ⟨a, .inr h1, h2⟩
      · exact ⟨z, .inl rfl, hz⟩
  · rw [ins_length hp, List.length_append, h.len]
    rfl
  · rw [sizeT_ins, weigh_snoc, List.length_append, h.size, hz]
    simp only [List.length_cons, List.length_nil]
    omega
theorem Tells.ins2 {ts R : List Tow} (h : Tells ts R) (p : Nat) (hp : p ≤ ts.length) (x z : Tow) (hz : z.e = x.e) : Tells (ins ts p z) (x :: R) := by
  refine ⟨fun e => ?_, ?_, ?_⟩
  · have := h.mem e
    simp only [List.mem_map, ins_mem, List.map_cons, List.mem_cons] at this ⊢
    constructor
    · rintro ⟨a, rfl | ha, rfl⟩
      · exact .inl hz
      · exact .inr (this.1 ⟨a, ha, rfl⟩)
    · rintro (rfl | ha)
      · exact ⟨z, .inl rfl, hz⟩
      · obtain ⟨a, h1, h2⟩ := this.2 ha
        exact ⟨a, .inr h1, h2⟩
  · rw [ins_length hp, List.length_cons, h.len]
  · rw [sizeT_ins, h.size, hz, List.length_cons, weigh]
    omega
theorem tells_same {ts us R : List Tow} (h1 : Tells ts R) (h2 : Tells us R) (s1 : ts.Pairwise (fun x y => cmpE x.e.en y.e.en < 0)) (s2 : us.Pairwise (fun x y => cmpE x.e.en y.e.en < 0)) : ts.map (·.e) = us.map (·.e) :=
  sorted_eq _ _ (List.pairwise_map.2 s1) (List.pairwise_map.2 s2) fun e => (h1.mem e).trans (h2.mem e).symm
/-- Two tables, and a row of entries, apart from each other. -/
structure Two (B : Nat) (w0 w : World) (s bs t bt : Nat) (ts us : List Tow) (v : Value) (R : List Tow) : Prop where
  ex : ∃ As At : Nat → Prop, Tab As w s bs ts ∧ Tab At w t bt us ∧ (∀ k, As k → (B ≤ k ∧ k < w.heap.size) ∧ ¬ At k ∧ ¬ inRow v k) ∧ ∀ k, At k → (B ≤ k ∧ k < w.heap.size) ∧ ¬ inRow v k
  row : ERow w B v R
  hB : B ≤ w.heap.size
  bel : Below B w0 w
section
variable {B : Nat} {w0 w w' : World} {s bs t bt : Nat} {ts us : List Tow} {v : Value} {R : List Tow}
theorem Two.quiet (h : Two B w0 w s bs t bt ts us v R) (tt : Turns (fun _ => False) w w') : Two B w0 w' s bs t bt ts us v R := by
  obtain ⟨⟨As, At, h1, h2, h3, h4⟩, hr, hB, hb⟩ := h
  have hs := tt.size
  exact ⟨⟨As, At, h1.quiet tt, h2.quiet tt, fun k hk => ⟨⟨(h3 k hk).1.1, by have := (h3 k hk).1.2; omega⟩, (h3 k hk).2⟩, fun k hk => ⟨⟨(h4 k hk).1.1, by have := (h4 k hk).1.2; omega⟩, (h4 k hk).2⟩⟩, hr.keep tt (fun _ _ x => x), Nat.le_trans hB hs, hb.trans (tt.below hB fun _ x => x.elim)⟩
theorem Two.sorted1 (h : Two B w0 w s bs t bt ts us v R) : ts.Pairwise (fun x y => cmpE x.e.en y.e.en < 0) := by
  obtain ⟨⟨As, At, h1, _⟩, _⟩ := h
  exact h1.sorted
theorem Two.sorted2 (h : Two B w0 w s bs t bt ts us v R) : us.Pairwise (fun x y => cmpE x.e.en y.e.en < 0) := by
  obtain ⟨⟨As, At, _, h1, _⟩, _⟩ := h
  exact h1.sorted
variable {ka va : Option Addr} {kc vc : Nat} {e : Ent}
theorem Two.ins1_ok (h : Two B w0 w s bs t bt ts us v R) (hk : Bytes w (.slice ka e.key.length kc) e.key) (hv : Bytes w (.slice va e.val.length vc) e.val) (hs : e.seq < 18446744073709551616) (hm : Smol [(e.kind, e.key, e.val)]) (hn : ts.length ≤ 100000) (hz : sizeT ts ≤ 900000) (hc : chk e.seq [(e.kind, e.key, e.val)] = 0) (hat : atT ts (place (e.key, e.seq) ts) (e.key, e.seq) = none) (H : Nat) (hh1 : 1 ≤ H) (hh2 : H ≤ 12) :
    Calls Try.prog 8 #[.pointer (some ⟨s, 0, none⟩), .agg #[.slice ka e.key.length kc, .int .u64 (e.seq : Nat), .int .i64 e.kind, .slice va e.val.length vc], .int .i64 (H : Nat)] w fun o w' => o = .returned (.int .i64 0) ∧ ∃ x : Tow, x.e = e ∧ Two B w0 w' s bs t bt (ins ts (place (e.key, e.seq) ts) x) us v R := by
  obtain ⟨⟨As, At, h1, h2, h3, h4⟩, hr, hB, hb⟩ := h
  refine (insert_new As s bs ts w ka va e.key.length kc e.val.length vc e.seq e.kind e.key e.val h1 hk hv hs hm hn hz hc H hh1 hh2 hat).mono ?_
  rintro o w' ⟨rfl, x, hx, _, hT, tt⟩
  have hsz := tt.size
  refine ⟨rfl, x, hx, ⟨fun k => As k ∨ (w.heap.size ≤ k ∧ k < w'.heap.size), At, hT.mono fun k hk hg => hg.elim .inl fun hg => .inr ⟨hg, hk⟩, h2.keep tt fun k _ ha hs' => (h3 k hs').2.1 ha, fun k hk => ?_, fun k hk => ⟨⟨(h4 k hk).1.1, by have := (h4 k hk).1.2; omega⟩, (h4 k hk).2⟩⟩, hr.keep tt fun k hk hs' => (h3 k hs').2.2 hk, Nat.le_trans hB hsz, hb.trans (tt.below hB fun k hk => (h3 k hk).1.1)⟩
  rcases hk with hk | hk
  · exact ⟨⟨(h3 k hk).1.1, by have := (h3 k hk).1.2; omega⟩, (h3 k hk).2⟩
  · exact ⟨⟨by omega, hk.2⟩, fun ha => by have := (h4 k ha).1.2; omega, fun hr' => by have := (hr.row hr').2; omega⟩
theorem Two.ins1_no (h : Two B w0 w s bs t bt ts us v R) (hk : Bytes w (.slice ka e.key.length kc) e.key) (hv : Bytes w (.slice va e.val.length vc) e.val) (hs : e.seq < 18446744073709551616) (hm : Smol [(e.kind, e.key, e.val)]) (hn : ts.length ≤ 100000) (hz : sizeT ts ≤ 900000) (hno : ¬ (chk e.seq [(e.kind, e.key, e.val)] = 0 ∧ atT ts (place (e.key, e.seq) ts) (e.key, e.seq) = none)) (H : Nat) (hh1 : 1 ≤ H) (hh2 : H ≤ 12) :
    ∃ c : Int, c ≠ 0 ∧ Calls Try.prog 8 #[.pointer (some ⟨s, 0, none⟩), .agg #[.slice ka e.key.length kc, .int .u64 (e.seq : Nat), .int .i64 e.kind, .slice va e.val.length vc], .int .i64 (H : Nat)] w fun o w' => o = .returned (.int .i64 c) ∧ Two B w0 w' s bs t bt ts us v R := by
  have hq := fun {w'} => h.quiet (w' := w')
  obtain ⟨⟨As, At, h1, h2, h3, h4⟩, hr, hB, hb⟩ := h
  by_cases hc : chk e.seq [(e.kind, e.key, e.val)] = 0
  · cases hat : atT ts (place (e.key, e.seq) ts) (e.key, e.seq) with
    | none => exact absurd ⟨hc, hat⟩ hno
    | some x =>
      refine ⟨5, by decide, (insert_there As s bs ts w ka va e.key.length kc e.val.length vc e.seq e.kind H e.key e.val h1 hk hv hs hm hn hz hc (by omega) x hat).mono ?_⟩
      rintro o w' ⟨rfl, b⟩
      exact ⟨rfl, hq (Turns.of_below b _)⟩
  · refine ⟨_, hc, (insert_wrong As s bs ts w ka va e.key.length kc e.val.length vc e.seq e.kind H e.key e.val h1 hk hv hs hm hn hz hc).mono ?_⟩
    rintro o w' ⟨rfl, b⟩
    exact ⟨rfl, hq (Turns.of_below b _)⟩
theorem Two.ins2_ok (h : Two B w0 w s bs t bt ts us v R) (hk : Bytes w (.slice ka e.key.length kc) e.key) (hv : Bytes w (.slice va e.val.length vc) e.val) (hs : e.seq < 18446744073709551616) (hm : Smol [(e.kind, e.key, e.val)]) (hn : us.length ≤ 100000) (hz : sizeT us ≤ 900000) (hc : chk e.seq [(e.kind, e.key, e.val)] = 0) (hat : atT us (place (e.key, e.seq) us) (e.key, e.seq) = none) (H : Nat) (hh1 : 1 ≤ H) (hh2 : H ≤ 12) :
    Calls Try.prog 8 #[.pointer (some ⟨t, 0, none⟩), .agg #[.slice ka e.key.length kc, .int .u64 (e.seq : Nat), .int .i64 e.kind, .slice va e.val.length vc], .int .i64 (H : Nat)] w fun o w' => o = .returned (.int .i64 0) ∧ ∃ x : Tow, x.e = e ∧ Two B w0 w' s bs t bt ts (ins us (place (e.key, e.seq) us) x) v R := by
  obtain ⟨⟨As, At, h1, h2, h3, h4⟩, hr, hB, hb⟩ := h
  refine (insert_new At t bt us w ka va e.key.length kc e.val.length vc e.seq e.kind e.key e.val h2 hk hv hs hm hn hz hc H hh1 hh2 hat).mono ?_
  rintro o w' ⟨rfl, x, hx, _, hT, tt⟩
  have hsz := tt.size
  refine ⟨rfl, x, hx, ⟨As, fun k => At k ∨ (w.heap.size ≤ k ∧ k < w'.heap.size), h1.keep tt fun k _ ha hs' => (h3 k ha).2.1 hs', hT.mono fun k hk hg => hg.elim .inl fun hg => .inr ⟨hg, hk⟩, fun k hk => ⟨⟨(h3 k hk).1.1, by have := (h3 k hk).1.2; omega⟩, ?_, (h3 k hk).2.2⟩, fun k hk => ?_⟩, hr.keep tt fun k hk hs' => (h4 k hs').2 hk, Nat.le_trans hB hsz, hb.trans (tt.below hB fun k hk => (h4 k hk).1.1)⟩
  · rintro (ha | ha)
    · exact (h3 k hk).2.1 ha
    · have := (h3 k hk).1.2; omega
  · rcases hk with hk | hk
    · exact ⟨⟨(h4 k hk).1.1, by have := (h4 k hk).1.2; omega⟩, (h4 k hk).2⟩
    · exact ⟨⟨by omega, hk.2⟩, fun hr' => by have := (hr.row hr').2; omega⟩
/-- The row grows. -/
theorem Two.app (h : Two B w0 w s bs t bt ts us v R) {g' n' c' : Nat} {x : Tow} (hrow : ERow w' B (.slice (some ⟨g', 0, none⟩) n' c') (R ++ [x])) (tt : Turns (inRow v) w w') (hin : inRow v g' ∨ g' = w.heap.size) : Two B w0 w' s bs t bt ts us (.slice (some ⟨g', 0, none⟩) n' c') (R ++ [x]) := by
  obtain ⟨⟨As, At, h1, h2, h3, h4⟩, hr, hB, hb⟩ := h
  have hsz := tt.size
  have hne : ∀ k, (k < w.heap.size ∧ ¬ inRow v k) → ¬ inRow (.slice (some ⟨g', 0, none⟩) n' c') k := fun k hk ⟨m, d, e⟩ => by
    have e2 : g' = k := by cases e; rfl
    rcases hin with h | h
    · exact hk.2 (e2 ▸ h)
    · omega
  exact ⟨⟨As, At, h1.keep tt fun k _ ha hs' => (h3 k ha).2.2 hs', h2.keep tt fun k _ ha hs' => (h4 k ha).2 hs', fun k hk => ⟨⟨(h3 k hk).1.1, by have := (h3 k hk).1.2; omega⟩, (h3 k hk).2.1, hne k ⟨(h3 k hk).1.2, (h3 k hk).2.2⟩⟩, fun k hk => ⟨⟨(h4 k hk).1.1, by have := (h4 k hk).1.2; omega⟩, hne k ⟨(h4 k hk).1.2, (h4 k hk).2⟩⟩⟩, hrow, Nat.le_trans hB hsz, hb.trans (tt.below hB fun k hk => (hr.row hk).1)⟩
end
end Go.Proofs.Ytkeglaplckfllaa

/-
  What a table tells does not hang on heights: the parts of the law.
-/
namespace Go.Proofs.Ytkeglaplckfllaa
open Go.RowKit
set_option maxRecDepth 100000
set_option maxHeartbeats 8000000
structure Took (l : List Tow) (k : Nat) (ts R : List Tow) : Prop where
  tells : Tells ts R
  len : R.length ≤ k
  wt : weigh R ≤ weigh (l.take k)
  mem : ∀ x, x ∈ R → x ∈ l ∧ chk x.e.seq [(x.e.kind, x.e.key, x.e.val)] = 0
  apart : R.Pairwise (fun x y => cmpE x.e.en y.e.en ≠ 0)
theorem weigh_take (l : List Tow) (k : Nat) : weigh (l.take k) ≤ weigh l := by
  induction l generalizing k with
  | nil => simp
  | cons x r ih =>
    cases k with
    | zero => simp [weigh]
    | succ k => have := ih k; simp only [List.take_succ_cons, weigh]; omega
theorem weigh_take_succ (l : List Tow) (k : Nat) : weigh (l.take k) ≤ weigh (l.take (k + 1)) := by
  have := weigh_take (l.take (k + 1)) k
  rwa [List.take_take, Nat.min_eq_left (by omega)] at this
theorem Took.bounds {l : List Tow} {k : Nat} {ts R : List Tow} (h : Took l k ts R) (hk : k ≤ 120) (hw : weigh l ≤ 20000) : ts.length ≤ 120 ∧ sizeT ts ≤ 900000 := by
  have h1 := h.tells.len
  have h2 := h.tells.size
  have h3 := h.len
  have h4 := h.wt
  have h5 := weigh_take l k
  omega
theorem smol_of {l : List Tow} {x : Tow} (hx : x ∈ l) (hw : weigh l ≤ 20000) : Smol [(x.e.kind, x.e.key, x.e.val)] := by
  have := weigh_mem hx
  refine ⟨by simp, ?_⟩
  simp [tot]
  omega
theorem Took.skip {l : List Tow} {k : Nat} {ts R : List Tow} (h : Took l k ts R) : Took l (k + 1) ts R := ⟨h.tells, Nat.le_succ_of_le h.len, Nat.le_trans h.wt (weigh_take_succ l k), h.mem, h.apart⟩
theorem Took.add {l : List Tow} {k : Nat} {ts R : List Tow} (h : Took l k ts R) {x z : Tow} (hk : l.take (k + 1) = l.take k ++ [x]) (hm : x ∈ l) (hz : z.e = x.e) (hc : chk x.e.seq [(x.e.kind, x.e.key, x.e.val)] = 0) (hs : ts.Pairwise (fun x y => cmpE x.e.en y.e.en < 0)) (hat : atT ts (place (x.e.key, x.e.seq) ts) (x.e.key, x.e.seq) = none) : Took l (k + 1) (ins ts (place (x.e.key, x.e.seq) ts) z) (R ++ [x]) := by
  refine ⟨h.tells.ins1 _ (place_le _ _) x z hz, ?_, ?_, fun y hy => ?_, ?_⟩
  · have := h.len
    rw [List.length_append]
    simp only [List.length_cons, List.length_nil]
    omega
  · have := h.wt
    rw [hk, weigh_snoc, weigh_snoc]
    omega
  · rcases List.mem_append.1 hy with hy | hy
    · exact h.mem y hy
    · obtain rfl := List.mem_singleton.1 hy
      exact ⟨hm, hc⟩
  · refine List.pairwise_append.2 ⟨h.apart, List.pairwise_singleton _ _, fun a ha y hy => ?_⟩
    obtain rfl := List.mem_singleton.1 hy
    have h1 : a.e ∈ ts.map (·.e) := (h.tells.mem a.e).2 (List.mem_map.2 ⟨a, ha, rfl⟩)
    obtain ⟨a', h2, h3⟩ := List.mem_map.1 h1
    have := (atT_none hs _).1 hat a' h2
    rw [h3] at this
    exact this
theorem Ents.bytes {w : World} {a : Option Addr} {l : List Tow} (h : Ents w a l) {x : Tow} (hx : x ∈ l) : Bytes w x.kv x.e.key ∧ Bytes w x.vv x.e.val := by
  obtain ⟨k, hk, hkx⟩ := List.getElem_of_mem hx
  exact (h k x (by rw [List.getElem?_eq_getElem hk, hkx])).2
theorem ERow.at_ {w : World} {B : Nat} {v : Value} {R : List Tow} (h : ERow w B v R) {i : Nat} {x : Tow} (hx : R[i]? = some x) : ∃ g c, v = .slice (some ⟨g, 0, none⟩) R.length c ∧ w.cell? ⟨g, i * 4, none⟩ = some x.kv ∧ w.cell? ⟨g, i * 4 + 1, none⟩ = some (.int .u64 (x.e.seq : Nat)) ∧ w.cell? ⟨g, i * 4 + 2, none⟩ = some (.int .i64 x.e.kind) ∧ w.cell? ⟨g, i * 4 + 3, none⟩ = some x.vv := by
  rcases h with ⟨rfl, _⟩ | ⟨g, c, n, rfl, rfl, _, _, cs, h1, h2, h3⟩
  · simp at hx
  · obtain ⟨e0, e1, e2, e3⟩ := entCells_at R i x hx
    have hi := (List.getElem?_eq_some_iff.1 hx).1
    have hl := entCells_length R
    have hcell := fun j => cell_of_row w g j _ 29 _ h1
    exact ⟨g, c, rfl, by rw [hcell, h3 _ (by omega), e0], by rw [hcell, h3 _ (by omega), e1], by rw [hcell, h3 _ (by omega), e2], by rw [hcell, h3 _ (by omega), e3]⟩
theorem weigh_drop (l : List Tow) (k : Nat) : weigh (l.drop k) ≤ weigh l := by
  induction l generalizing k with
  | nil => simp
  | cons x r ih =>
    cases k with
    | zero => exact Nat.le_refl _
    | succ k => have := ih k; simp only [List.drop_succ_cons, weigh]; omega
theorem back_at {ts us R : List Tow} {l : List Tow} {k i : Nat} {x : Tow} (h : Took l k ts R) (hu : Tells us (R.drop (i + 1))) (hs : us.Pairwise (fun x y => cmpE x.e.en y.e.en < 0)) (hi : R.drop i = x :: R.drop (i + 1)) : atT us (place (x.e.key, x.e.seq) us) (x.e.key, x.e.seq) = none := by
  refine (atT_none hs _).2 fun y hy h0 => ?_
  have h1 : (R.drop i).Pairwise (fun x y => cmpE x.e.en y.e.en ≠ 0) := h.apart.sublist (List.drop_sublist i R)
  rw [hi] at h1
  obtain ⟨y', h2, h3⟩ := List.mem_map.1 ((hu.mem y.e).1 (List.mem_map.2 ⟨y, hy, rfl⟩))
  have h4 := (List.pairwise_cons.1 h1).1 y' h2
  rw [h3] at h4
  rw [cmpE_swap] at h0
  exact h4 (by show cmpE (x.e.key, x.e.seq) y.e.en = 0; omega)
theorem back_bounds {us R : List Tow} {l : List Tow} {k j : Nat} {ts : List Tow} (h : Took l k ts R) (hk : k ≤ 120) (hw : weigh l ≤ 20000) (hu : Tells us (R.drop j)) : us.length ≤ 120 ∧ sizeT us ≤ 900000 := by
  have h1 := hu.len
  have h2 := hu.size
  have h3 := h.len
  have h4 := h.wt
  have h5 := weigh_take l k
  have h6 := weigh_drop R j
  rw [List.length_drop] at h1 h2
  omega
theorem ERow.ents {w : World} {B : Nat} {v : Value} {R : List Tow} (h : ERow w B v R) (hs : Shown w B R) : ∃ a c, v = .slice a R.length c ∧ Ents w a R := by
  obtain ⟨a, c, rfl⟩ := h.len
  refine ⟨a, c, rfl, fun k x hx => ⟨?_, (hs x (List.mem_of_getElem? hx)).1, (hs x (List.mem_of_getElem? hx)).2.1⟩⟩
  obtain ⟨g, c', e, q0, q1, q2, q3⟩ := h.at_ hx
  obtain rfl : a = some ⟨g, 0, none⟩ := by cases e; rfl
  refine ⟨g, 0, rfl, fun j u hu => ?_⟩
  rw [Nat.zero_add]
  match j, hu with
  | 0, hu => cases hu; exact q0
  | 1, hu => cases hu; exact q1
  | 2, hu => cases hu; exact q2
  | 3, hu => cases hu; exact q3
section
variable {B : Nat} {w0 w : World} {s bs t bt : Nat} {ts us : List Tow} {v : Value} {R : List Tow}
theorem Two.all1 (h : Two B w0 w s bs t bt ts us v R) (hk : ∀ x, x ∈ ts → x.e.key ≠ []) (hn : ts.length ≤ 100000) (hs : sizeT ts ≤ 900000) (N : Nat) (hN : N = ts.length) :
    Calls Try.prog 11 #[.pointer (some ⟨s, 0, none⟩)] w fun e w' => ∃ a c R1, e = .returned (.slice a N c) ∧ N = R1.length ∧ Ents w' a R1 ∧ R1.map (·.e) = ts.map (·.e) ∧ Turns (fun _ => False) w w' := by
  obtain ⟨⟨As, At, h1, _⟩, _⟩ := h
  refine (all_any As s bs ts w h1 hk hn hs).mono ?_
  rintro e w' ⟨v1, R1, rfl, g1, g2, g3, b⟩
  obtain ⟨a, c, rfl, g4⟩ := g1.ents g2
  have hl : N = R1.length := by
    have := congrArg List.length g3
    simp only [List.length_map] at this
    omega
  exact ⟨a, c, R1, by rw [hl], hl, g4, g3, Turns.of_below b _⟩
theorem Two.all2 (h : Two B w0 w s bs t bt ts us v R) (hk : ∀ x, x ∈ us → x.e.key ≠ []) (hn : us.length ≤ 100000) (hs : sizeT us ≤ 900000) (N : Nat) (hN : N = us.length) :
    Calls Try.prog 11 #[.pointer (some ⟨t, 0, none⟩)] w fun e w' => ∃ a c R1, e = .returned (.slice a N c) ∧ N = R1.length ∧ Ents w' a R1 ∧ R1.map (·.e) = us.map (·.e) ∧ Turns (fun _ => False) w w' := by
  obtain ⟨⟨As, At, _, h1, _⟩, _⟩ := h
  refine (all_any At t bt us w h1 hk hn hs).mono ?_
  rintro e w' ⟨v1, R1, rfl, g1, g2, g3, b⟩
  obtain ⟨a, c, rfl, g4⟩ := g1.ents g2
  have hl : N = R1.length := by
    have := congrArg List.length g3
    simp only [List.length_map] at this
    omega
  exact ⟨a, c, R1, by rw [hl], hl, g4, g3, Turns.of_below b _⟩
theorem Two.size1 (h : Two B w0 w s bs t bt ts us v R) : Calls Try.prog 22 #[.pointer (some ⟨s, 0, none⟩)] w fun e w' => e = .returned (.int .i64 (sizeT ts : Nat)) ∧ w' = w := by
  obtain ⟨⟨As, At, h1, _⟩, _⟩ := h
  exact sizeT_any As s bs ts w h1
theorem Two.size2 (h : Two B w0 w s bs t bt ts us v R) : Calls Try.prog 22 #[.pointer (some ⟨t, 0, none⟩)] w fun e w' => e = .returned (.int .i64 (sizeT us : Nat)) ∧ w' = w := by
  obtain ⟨⟨As, At, _, h1, _⟩, _⟩ := h
  exact sizeT_any At t bt us w h1
end
theorem place_self {us : List Tow} (hs : us.Pairwise (fun x y => cmpE x.e.en y.e.en < 0)) {k : Nat} {y : Tow} (hy : us[k]? = some y) : place (y.e.key, y.e.seq) us = k := by
  have h1 := place_iff (y.e.key, y.e.seq) us hs k y hy
  have h0 : cmpE y.e.en (y.e.key, y.e.seq) = 0 := cmpE_self _
  rw [h0] at h1
  have h2 : ¬ k < place (y.e.key, y.e.seq) us := fun h => absurd (h1.1 h) (by decide)
  obtain ⟨hk, hky⟩ := List.getElem?_eq_some_iff.1 hy
  rcases Nat.lt_or_ge (place (y.e.key, y.e.seq) us) k with h3 | h3
  · have hp : place (y.e.key, y.e.seq) us < us.length := by omega
    have h4 := place_iff (y.e.key, y.e.seq) us hs _ _ (List.getElem?_eq_getElem hp)
    have h5 := List.pairwise_iff_getElem.1 hs _ _ hp hk h3
    rw [hky] at h5
    exact absurd (h4.2 h5) (by omega)
  · omega
section
variable {B : Nat} {w0 w : World} {s bs t bt : Nat} {ts us : List Tow} {v : Value} {R : List Tow} {ka : Option Addr} {kc : Nat} {e : Ent}
theorem Two.get2 (h : Two B w0 w s bs t bt ts us v R) {i : Nat} (hy : (us.map (·.e))[i]? = some e) (hk : Bytes w (.slice ka e.key.length kc) e.key) (hn : us.length ≤ 1000000) (hs : sizeT us ≤ 1000000) :
    Calls Try.prog 18 #[.pointer (some ⟨t, 0, none⟩), .slice ka e.key.length kc, .int .u64 (e.seq : Nat)] w fun o w' => ∃ ka' kc' va' vc', o = .returned (.tuple #[.agg #[.slice ka' e.key.length kc', .int .u64 (e.seq : Nat), .int .i64 e.kind, .slice va' e.val.length vc'], .int .i64 0]) ∧ Bytes w' (.slice ka' e.key.length kc') e.key ∧ Bytes w' (.slice va' e.val.length vc') e.val ∧ Turns (fun _ => False) w w' := by
  obtain ⟨⟨As, At, _, h1, _⟩, _⟩ := h
  rw [List.getElem?_map, Option.map_eq_some_iff] at hy
  obtain ⟨y, hy, rfl⟩ := hy
  refine (get_hit At t bt us w ka y.e.key.length kc y.e.seq y.e.key h1 hk hn hs y (by rw [place_self h1.sorted hy]; exact hy) rfl).mono ?_
  rintro o w' ⟨ka', kc', va', vc', rfl, g1, g2, b⟩
  exact ⟨ka', kc', va', vc', rfl, g1, g2, Turns.of_below b _⟩
theorem Two.steps1 (h : Two B w0 w s bs t bt ts us v R) (hk : Bytes w (.slice ka e.key.length kc) e.key) (hn : ts.length ≤ 1000000) :
    ∃ st : Nat, st ≤ ts.length + 12 ∧ Calls Try.prog 26 #[.pointer (some ⟨s, 0, none⟩), .slice ka e.key.length kc, .int .u64 (e.seq : Nat)] w fun o w' => o = .returned (.int .i64 (st : Nat)) ∧ Turns (fun _ => False) w w' := by
  obtain ⟨⟨As, At, h1, _⟩, _⟩ := h
  refine ⟨walk 12 (seg ts (place (e.key, e.seq) ts) 0), ?_, (steps_any As s bs ts w ka e.key.length kc e.seq e.key h1 hk hn).mono ?_⟩
  · have h2 := walk_le 12 (seg ts (place (e.key, e.seq) ts) 0)
    have h3 : (seg ts (place (e.key, e.seq) ts) 0).length ≤ ts.length := by
      unfold seg
      rw [List.length_map, List.length_drop, List.length_take]
      omega
    omega
  · rintro o w' ⟨rfl, b⟩
    exact ⟨rfl, Turns.of_below b _⟩
end
theorem before_any' (a a' : Option Addr) (n n' c c' : Nat) (x y : List (BitVec 8)) (w : World) (h : Bytes w (.slice a n c) x) (h' : Bytes w (.slice a' n' c') y) (hb : cmpB x y < 0) :
    Calls Try.prog 33 #[.slice a n c, .slice a' n' c'] w fun e w' => e = .returned (.bool true) ∧ w' = w :=
  (beforeK_any a a' n n' c c' x y w h h').mono fun e w' ⟨h1, h2⟩ => ⟨by rw [h1, decide_eq_true hb], h2⟩
theorem before_no (a a' : Option Addr) (n n' c c' : Nat) (x y : List (BitVec 8)) (w : World) (h : Bytes w (.slice a n c) x) (h' : Bytes w (.slice a' n' c') y) (hb : ¬ cmpB x y < 0) :
    Calls Try.prog 33 #[.slice a n c, .slice a' n' c'] w fun e w' => e = .returned (.bool false) ∧ w' = w :=
  (beforeK_any a a' n n' c c' x y w h h').mono fun e w' ⟨h1, h2⟩ => ⟨by rw [h1, decide_eq_false hb], h2⟩
theorem bytes_yes (a a' : Option Addr) (n n' c c' : Nat) (x y : List (BitVec 8)) (w : World) (h : Bytes w (.slice a n c) x) (h' : Bytes w (.slice a' n' c') y) (hn : n ≤ 1000000000) (hb : x = y) :
    Calls Try.prog 34 #[.slice a n c, .slice a' n' c'] w fun e w' => e = .returned (.bool true) ∧ ∃ m, w' = w.drewN m :=
  (bytes_any a a' n n' c c' x y w h h' hn).mono fun e w' ⟨h1, h2⟩ => ⟨by rw [h1, decide_eq_true hb], h2⟩
theorem chk_key {s : Nat} {k : Int} {key val : List (BitVec 8)} (h : chk s [(k, key, val)] = 0) : key ≠ [] := by
  have h1 := ((chk_fine h).2.2.2 _ (List.mem_cons_self ..)).1
  rintro rfl
  revert h1
  unfold fineW
  simp
theorem two_start {w w2 w3 w4 : World} (b2 : Below w.heap.size w w2) (h3 : Tab (fun k => w2.heap.size ≤ k) w3 (w2.heap.size + 1) w2.heap.size []) (b3 : Below w2.heap.size w2 w3) (h4 : Tab (fun k => w3.heap.size ≤ k) w4 (w3.heap.size + 1) w3.heap.size []) (b4 : Below w3.heap.size w3 w4) :
    Two w.heap.size w w4 (w2.heap.size + 1) w2.heap.size (w3.heap.size + 1) w3.heap.size [] [] (.slice none 0 0) [] := by
  have s2 := b2.size
  have s3 := b3.size
  have s4 := b4.size
  refine ⟨⟨fun k => w2.heap.size ≤ k ∧ k < w3.heap.size, fun k => w3.heap.size ≤ k ∧ k < w4.heap.size, (h3.mono fun k hk ha => ⟨ha, hk⟩).quiet (Turns.of_below b4 _), h4.mono fun k hk ha => ⟨ha, hk⟩, fun k hk => ⟨⟨by omega, by omega⟩, fun h => by omega, fun ⟨m, d, e⟩ => by cases e⟩, fun k hk => ⟨⟨by omega, hk.2⟩, fun ⟨m, d, e⟩ => by cases e⟩⟩, .inl ⟨rfl, rfl⟩, by omega, (b2.trans (b3.mono s2)).trans (b4.mono (by omega))⟩
end Go.Proofs.Ytkeglaplckfllaa

/-
  The document's New, Get.
-/
namespace Go.Proofs.Ytkeglaplckfllaa
open Go.RowKit
set_option maxRecDepth 100000
set_option maxHeartbeats 4000000
theorem RT.ents {w : World} {r : Nat} {l : List Tow} (h : RT w r l) : ∃ La, Ents w La l := by
  obtain ⟨La, _, _, _, _, h2, _⟩ := h
  exact ⟨La, h2⟩
theorem rnew_any (w : World) : Calls Try.prog 15 #[] w fun e w' => e = .returned (.pointer (some ⟨w.heap.size, 0, none⟩)) ∧ RT w' w.heap.size [] ∧ Below w.heap.size w w' ∧ w.heap.size < w'.heap.size := by
  go_enter Try.func15, Try.ntmps15
  go_wp2_with fail
  go_ret
  exact ⟨rfl, ⟨none, none, 0, 0, heap_alloc_new w _, fun k x hx => by simp at hx, fun k x hx => by simp at hx⟩, (Below.refl _ _).alloc (Nat.le_refl _) _, by simp⟩
/-- The one of that key, if it stands there. -/
def hitK (l : List Tow) (i : Nat) (key : List (BitVec 8)) : Option Tow := match l[i]? with
  | some y => if y.e.key = key then some y else none
  | none => none
def getE (o : Option Tow) : Int := if o.isSome then 0 else 6
theorem rget_any (r : Nat) (l : List Tow) (w : World) (h : RT w r l) (ka : Option Addr) (kn kc s : Nat) (key : List (BitVec 8)) (hk : Bytes w (.slice ka kn kc) key) (hkn : kn ≤ 1000000) (hkb : ∀ y, y ∈ l → y.e.key.length ≤ 1000000) (hl : l.length ≤ 100000) :
    Calls Try.prog 19 #[.pointer (some ⟨r, 0, none⟩), .slice ka kn kc, .int .u64 (s : Nat)] w fun e w' => e = .returned (.tuple #[.agg (((hitK l (place (key, s) l) key).map (·.ent)).getD #[.slice none 0 0, .int .u64 0, .int .i64 0, .slice none 0 0]), .int .i64 (getE (hitK l (place (key, s) l) key))]) ∧ Below w.heap.size w w' := by
  have T0 := hide ((Turns.refl (fun _ => False) w).alloc (.cells #[.slice none 0 0, .int .u64 0, .int .i64 0, .slice none 0 0] 29))
  have HR := hide (heap_alloc_new w (.cells #[.slice none 0 0, .int .u64 0, .int .i64 0, .slice none 0 0] 29))
  have HT := hide (h.quiet T0.out)
  have HK := hide (hk.quiet T0.out)
  have H1 := hide (rseek_any r l _ HT.out ka kn kc s key HK.out hkn hkb hl)
  have HKB := hide hkb
  clear h hk hkb
  generalize place (key, s) l = i at *
  go_enter Try.func19, Try.ntmps19
  go_upto_region 1 with (fail)
  generalize w.alloc (.cells #[.slice none 0 0, .int .u64 0, .int .i64 0, .slice none 0 0] 29) = w0 at *
  generalize hg0 : w.heap.size = g at *
  have HG := hide hg0
  clear hg0
  go_upto_region 1 with (fail)
  cases hx : l[i]? with
  | none =>
    have HX := hide (show hitK l i key = none by unfold hitK; rw [hx])
    rw [hx] at H1
    clear hx
    go_upto_region 2 with (go_at_call 20; refine H1.out.mono ?_; rintro e w1 ⟨rfl, b1⟩)
    have t1 := Turns.of_below b1 (fun _ => False)
    have HR1 := hide (t1.heap HR.out (fun x => x))
    have T1 := hide (T0.out.trans t1)
    clear b1 t1 H1 T0 HR
    have ta : Turns (fun _ => False) w1 (w1.alloc (.cells #[.slice none 0 0, .int .u64 0, .int .i64 0, .slice none 0 0] 29)) := (Turns.refl _ _).alloc _
    have HR2 := hide (ta.heap HR1.out (fun x => x))
    have T2 := hide (T1.out.trans ta)
    clear ta HR1 T1
    generalize w1.alloc (.cells #[.slice none 0 0, .int .u64 0, .int .i64 0, .slice none 0 0] 29) = w2 at *
    have f0 := frozen_of_row w2 g 0 _ 29 HR2.out
    have q0 := cell_of_row w2 g 0 _ 29 (0, 0) HR2.out
    have f1 := frozen_of_row w2 g 1 _ 29 HR2.out
    have q1 := cell_of_row w2 g 1 _ 29 (0, 0) HR2.out
    have f2 := frozen_of_row w2 g 2 _ 29 HR2.out
    have q2 := cell_of_row w2 g 2 _ 29 (0, 0) HR2.out
    have f3 := frozen_of_row w2 g 3 _ 29 HR2.out
    have q3 := cell_of_row w2 g 3 _ 29 (0, 0) HR2.out
    go_wp2_with fail
    have k3 := (((((Tick.refl HR2.out).set 0 (.slice none 0 0)).set 1 (.int .u64 0)).set 2 (.int .i64 0)).set 3 (.slice none 0 0))
    refine bodyPost_ret (v := .tuple #[.agg #[.slice none 0 0, .int .u64 0, .int .i64 0, .slice none 0 0], .int .i64 6]) ?_ rfl ?_
    · exact results_cell_tmp Try.results19 _ _ _ _ _ _ _ _ rfl rfl k3.1 Try.underlying29 rfl info29
    · refine ⟨by rw [HX.out]; rfl, ?_⟩
      exact (T2.out.andThen (Turns.of_tick k3) (fun k hk e => by have := HG.out; omega)).below (by have := HG.out; omega) (fun _ x => x.elim)
  | some y =>
    have HY := hide (fun u (t : Turns (fun _ => False) w0 u) => (Ents.bytes (HT.out.quiet t).ents.choose_spec (List.mem_of_getElem? hx)).1)
    have hyk := HKB.out y (List.mem_of_getElem? hx)
    have HXF := hide (fun hq : y.e.key = key => show hitK l i key = some y by unfold hitK; rw [hx]; simp [hq])
    have HXN := hide (fun hq : ¬ y.e.key = key => show hitK l i key = none by unfold hitK; rw [hx]; simp [hq])
    rw [hx] at H1
    obtain ⟨yb, ya, yc, yva, yvc, ye, yh⟩ := y
    change Hid (Calls Try.prog 20 _ _ fun e w' => e = .returned (.tuple #[.agg #[.slice ya ye.key.length yc, .int .u64 (ye.seq : Nat), .int .i64 ye.kind, .slice yva ye.val.length yvc], .bool true]) ∧ _) at H1
    clear hx
    go_upto_region 2 with (go_at_call 20; refine H1.out.mono ?_; rintro e w1 ⟨rfl, b1⟩)
    have t1 := Turns.of_below b1 (fun _ => False)
    have ta : Turns (fun _ => False) w0 (w1.alloc (.cells #[.slice ya ye.key.length yc, .int .u64 (ye.seq : Nat), .int .i64 ye.kind, .slice yva ye.val.length yvc] 29)) := t1.alloc _
    have HR2 := hide (ta.heap HR.out (fun x => x))
    have HE2 := hide (heap_alloc_new w1 (.cells #[.slice ya ye.key.length yc, .int .u64 (ye.seq : Nat), .int .i64 ye.kind, .slice yva ye.val.length yvc] 29))
    have T2 := hide (T0.out.trans ta)
    have HQ := hide (sameKey_any ya ka ye.key.length kn yc kc ye.key key _ (HY.out _ ta) (HK.out.quiet ta) (Nat.le_trans (show ye.key.length ≤ 1000000 from hyk) (by decide)) (by omega))
    have hgne : w1.heap.size ≠ g := by have := t1.size; have := lt_of_heap HR.out; omega
    clear b1 t1 H1 T0 HR ta HY
    generalize w1.alloc (.cells #[.slice ya ye.key.length yc, .int .u64 (ye.seq : Nat), .int .i64 ye.kind, .slice yva ye.val.length yvc] 29) = w2 at *
    generalize w1.heap.size = g8 at *
    have e0 := cell_of_row w2 g8 0 _ 29 (0, 0) HE2.out
    by_cases hq : ye.key = key
    · have HX := hide (HXF.out hq)
      rw [decide_eq_true hq] at HQ
      clear hq HXF HXN
      go_upto_region 4 with (go_at_call 47; refine HQ.out.mono ?_; rintro e w3 ⟨rfl, m, hw3⟩; have HW3 := hide hw3; clear hw3)
      have td : Turns (fun _ => False) w2 w3 := by rw [HW3.out]; exact (Turns.refl _ _).drewN m
      have HR2 := hide (td.heap HR2.out (fun x => x))
      have HE3 := hide (td.heap HE2.out (fun x => x))
      have T2 := hide (T2.out.trans td)
      clear td HW3 HE2 e0 HQ
      have e0 := cell_of_row w3 g8 0 _ 29 (0, 0) HE3.out
      have e1 := cell_of_row w3 g8 1 _ 29 (0, 0) HE3.out
      have e2 := cell_of_row w3 g8 2 _ 29 (0, 0) HE3.out
      have e3 := cell_of_row w3 g8 3 _ 29 (0, 0) HE3.out
      have f0 := frozen_of_row w3 g 0 _ 29 HR2.out
      have q0 := cell_of_row w3 g 0 _ 29 (0, 0) HR2.out
      have f1 := frozen_of_row w3 g 1 _ 29 HR2.out
      have q1 := cell_of_row w3 g 1 _ 29 (0, 0) HR2.out
      have f2 := frozen_of_row w3 g 2 _ 29 HR2.out
      have q2 := cell_of_row w3 g 2 _ 29 (0, 0) HR2.out
      have f3 := frozen_of_row w3 g 3 _ 29 HR2.out
      have q3 := cell_of_row w3 g 3 _ 29 (0, 0) HR2.out
      go_wp2_with fail
      have k3 := (((((Tick.refl HR2.out).set 0 (.slice ya ye.key.length yc)).set 1 (.int .u64 (ye.seq : Nat))).set 2 (.int .i64 ye.kind)).set 3 (.slice yva ye.val.length yvc))
      refine bodyPost_ret (v := .tuple #[.agg #[.slice ya ye.key.length yc, .int .u64 (ye.seq : Nat), .int .i64 ye.kind, .slice yva ye.val.length yvc], .int .i64 0]) ?_ rfl ?_
      · exact results_cell_tmp Try.results19 _ _ _ _ _ _ _ _ rfl rfl k3.1 Try.underlying29 rfl info29
      · refine ⟨by rw [HX.out]; rfl, ?_⟩
        exact (T2.out.andThen (Turns.of_tick k3) (fun k hk e => by have := HG.out; omega)).below (by have := HG.out; omega) (fun _ x => x.elim)
    · have HX := hide (HXN.out hq)
      rw [decide_eq_false hq] at HQ
      clear hq HXF HXN
      go_upto_region 3 with (go_at_call 47; refine HQ.out.mono ?_; rintro e w3 ⟨rfl, m, hw3⟩; have HW3 := hide hw3; clear hw3)
      have td : Turns (fun _ => False) w2 w3 := by rw [HW3.out]; exact (Turns.refl _ _).drewN m
      have HR2 := hide (td.heap HR2.out (fun x => x))
      have T2 := hide (T2.out.trans td)
      clear td HW3 HE2 e0 HQ
      have f0 := frozen_of_row w3 g 0 _ 29 HR2.out
      have q0 := cell_of_row w3 g 0 _ 29 (0, 0) HR2.out
      have f1 := frozen_of_row w3 g 1 _ 29 HR2.out
      have q1 := cell_of_row w3 g 1 _ 29 (0, 0) HR2.out
      have f2 := frozen_of_row w3 g 2 _ 29 HR2.out
      have q2 := cell_of_row w3 g 2 _ 29 (0, 0) HR2.out
      have f3 := frozen_of_row w3 g 3 _ 29 HR2.out
      have q3 := cell_of_row w3 g 3 _ 29 (0, 0) HR2.out
      go_wp2_with fail
      have k3 := (((((Tick.refl HR2.out).set 0 (.slice none 0 0)).set 1 (.int .u64 0)).set 2 (.int .i64 0)).set 3 (.slice none 0 0))
      refine bodyPost_ret (v := .tuple #[.agg #[.slice none 0 0, .int .u64 0, .int .i64 0, .slice none 0 0], .int .i64 6]) ?_ rfl ?_
      · exact results_cell_tmp Try.results19 _ _ _ _ _ _ _ _ rfl rfl k3.1 Try.underlying29 rfl info29
      · refine ⟨by rw [HX.out]; rfl, ?_⟩
        exact (T2.out.andThen (Turns.of_tick k3) (fun k hk e => by have := HG.out; omega)).below (by have := HG.out; omega) (fun _ x => x.elim)
end Go.Proofs.Ytkeglaplckfllaa

/-
  The document's SizeOf.
-/
namespace Go.Proofs.Ytkeglaplckfllaa
open Go.RowKit
set_option maxRecDepth 100000
set_option maxHeartbeats 4000000
theorem sizeT_append (l m : List Tow) : sizeT (l ++ m) = sizeT l + sizeT m := by simp [sizeT]
theorem sizeT_snoc (l : List Tow) (x : Tow) : sizeT (l ++ [x]) = sizeT l + (x.e.key.length + x.e.val.length + 32) := by simp [sizeT]
theorem sizeT_take (l : List Tow) (k : Nat) : sizeT (l.take k) ≤ sizeT l := by
  have := sizeT_append (l.take k) (l.drop k)
  rw [List.take_append_drop] at this
  omega
theorem rsizeOf_any (a : Option Addr) (n c : Nat) (l : List Tow) (w : World) (h : Ents w a l) (hn : n = l.length) (hmx : n ≤ 100000) (hz : sizeT l ≤ 1000000) :
    Calls Try.prog 23 #[.slice a n c] w fun e w' => e = .returned (.int .i64 (sizeT l : Nat)) ∧ Turns (fun _ => False) w w' := by
  have HL := hide hn
  have HA := hide h
  have hW : ∀ k, sizeT (l.take k) ≤ 1000000 := fun k => Nat.le_trans (sizeT_take l k) hz
  have HW := hide hW
  clear hn h hz hW
  go_enter Try.func23, Try.ntmps23
  go_wp2_with fail
  go_loopw [3, 4] (fun sv iv wr => ∃ k : Nat, sv = .int .i64 (sizeT (l.take k) : Nat) ∧ iv = .int .i64 (k : Nat) ∧ k ≤ n ∧ Turns (fun _ => False) w wr) (fun _ iv _ => n - (intOf iv).toNat)
  case atStart => exact ⟨0, rfl, rfl, by omega, Turns.refl _ _⟩
  case round =>
    obtain ⟨k, rfl, rfl, hk, ht⟩ := hrel
    have TT := hide ht
    by_cases hk2 : k < n
    · have i1 : (k : Int) < n := by omega
      have i0 : (0 : Int) ≤ (k : Int) := by omega
      have HKN := hide hk2
      have hkl : k < l.length := by have := HL.out; omega
      obtain ⟨⟨b, off, rfl, hc⟩, _⟩ := (HA.out.quiet ht) k l[k] (List.getElem?_eq_getElem hkl)
      have hw1 := HW.out k
      have hw2 := HW.out (k + 1)
      have HTK := hide (List.take_succ_eq_append_getElem hkl)
      have hws : sizeT (l.take (k + 1)) = sizeT (l.take k) + (l[k].e.key.length + l[k].e.val.length + 32) := by rw [HTK.out, sizeT_snoc]
      rw [hws] at hw2
      have HWS := hide hws
      generalize l[k] = x at *
      obtain ⟨_, ka, kc, va, vc, e, _⟩ := x
      have c0 : wr.cell? ⟨b, off + k * 4, none⟩ = some (.slice ka e.key.length kc) := hc 0 _ rfl
      have c3 : wr.cell? ⟨b, off + k * 4 + 3, none⟩ = some (.slice va e.val.length vc) := hc 3 _ rfl
      clear hc ht hws
      simp only at hw2
      generalize sizeT (l.take k) = W0 at *
      go_wp2_with fail
      go_quiet (fail)
      go_wp2
      go_roundw
      case rel =>
        refine ⟨k + 1, ?_, by go_num, by have := HKN.out; omega, ?_⟩
        · rw [HWS.out]
          go_num
        · first
            | exact TT.out.drew
            | exact TT.out.drewN _
      case measure => simp [intOf]; have := HKN.out; omega
    · have i1 : ¬ (k : Int) < n := by omega
      have hkn : k = n := by omega
      have HK := hide hkn
      clear hk hk2 hkn ht
      go_wp2_with fail
      go_ret
      refine ⟨?_, TT.out⟩
      rw [HK.out, HL.out, List.take_length]
      rfl
end Go.Proofs.Ytkeglaplckfllaa

/-
  The document's Steps.
-/
namespace Go.Proofs.Ytkeglaplckfllaa
open Go.RowKit
set_option maxRecDepth 100000
set_option maxHeartbeats 4000000
theorem walk_none {l : List Tow} {n p L : Nat} (h : ∀ j x, p ≤ j → j < n → l[j]? = some x → ¬ L < x.h) : walk (L + 1) (seg l n p) = 1 + walk L (seg l n p) := by
  show (pass L (seg l n p)).2 + 1 + walk L ((seg l n p).drop (pass L (seg l n p)).1) = _
  rw [seg_none h]
  simp
theorem walk_found {l : List Tow} {n p L j : Nat} {x : Tow} (hp : p ≤ j) (hj : j < n) (hx : l[j]? = some x) (hl : L < x.h) (h : ∀ i y, p ≤ i → i < j → l[i]? = some y → ¬ L < y.h) : walk (L + 1) (seg l n p) = 1 + walk (L + 1) (seg l n (j + 1)) := by
  show (pass L (seg l n p)).2 + 1 + walk L ((seg l n p).drop (pass L (seg l n p)).1) = 1 + ((pass L (seg l n (j + 1))).2 + 1 + walk L ((seg l n (j + 1)).drop (pass L (seg l n (j + 1))).1))
  rw [seg_found hp hj hx hl h, seg_drop, seg_drop]
  rw [show p + (j - p + 1 + (pass L (seg l n (j + 1))).1) = j + 1 + (pass L (seg l n (j + 1))).1 by omega]
  omega
theorem rsteps_any (r : Nat) (l : List Tow) (w : World) (h : RT w r l) (ka : Option Addr) (kn kc s : Nat) (key : List (BitVec 8)) (hk : Bytes w (.slice ka kn kc) key) (hkn : kn ≤ 1000000) (hkb : ∀ y, y ∈ l → y.e.key.length ≤ 1000000) (hl : l.length ≤ 100000) (hh : ∀ y, y ∈ l → y.h ≤ 1000) :
    Calls Try.prog 27 #[.pointer (some ⟨r, 0, none⟩), .slice ka kn kc, .int .u64 (s : Nat)] w fun e w' => e = .returned (.int .i64 (walk 12 (seg l (place (key, s) l) 0) : Nat)) ∧ Below w.heap.size w w' := by
  have H1 := hide (rplace_any r l w h ka kn kc s key hk hkn hkb hl)
  have HT := hide h
  have HHH := hide hh
  have hpl := place_le (key, s) l
  have hwl : ∀ L, walk L (seg l (place (key, s) l) 0) ≤ l.length + L := fun L => by
    have h2 := walk_le L (seg l (place (key, s) l) 0)
    have h3 : (seg l (place (key, s) l) 0).length ≤ l.length := by
      unfold seg
      rw [List.length_map, List.length_drop, List.length_take]
      omega
    omega
  have htot := hwl 12
  clear h hk hkb hh hwl
  generalize place (key, s) l = n at *
  obtain ⟨T, hT⟩ : ∃ T, walk 12 (seg l n 0) = T := ⟨_, rfl⟩
  have HTT := hide hT
  rw [hT] at htot ⊢
  clear hT
  go_enter Try.func27, Try.ntmps27
  go_wp2_with fail
  refine H1.out.mono ?_
  rintro e w1 ⟨rfl, b1⟩
  have B1 := hide b1
  have HT := hide (HT.out.quiet (Turns.of_below b1 (fun _ => False)))
  clear b1 H1
  obtain ⟨La, Ha, Lc, Hc, hb, _, hH⟩ := HT.out
  have HH := hide hH
  have r1 : w1.cell? ⟨r, 1, none⟩ = some (.slice Ha l.length Hc) := cell_of_row w1 r 1 _ 49 (0, 0) hb
  clear hb hH
  go_wp2_with fail
  go_loopw [8, 9, 10] (fun sv av lv wr => ∃ st p L : Nat, sv = .int .i64 (st : Nat) ∧ av = .int .i64 ((p : Int) - 1) ∧ lv = .int .i64 (L : Nat) ∧ L ≤ 12 ∧ p ≤ n ∧ st + walk L (seg l n p) = T ∧ wr = w1) (fun _ _ lv _ => (intOf lv).toNat)
  case atStart => exact ⟨0, 0, 12, rfl, rfl, rfl, Nat.le_refl _, Nat.zero_le _, by rw [HTT.out]; omega, rfl⟩
  case round =>
    obtain ⟨st, p, L, rfl, rfl, rfl, hL, hp, hinv, hwr⟩ := hrel
    subst hwr
    have HINV := hide hinv
    have hst : st ≤ 200000 := by omega
    clear hinv
    rcases L with _ | L
    · have HV := hide (show st = T from by have := HINV.out; simpa [walk] using this)
      go_wp2_with fail
      go_ret
      exact ⟨by rw [← HV.out]; rfl, B1.out⟩
    · have i1 : (1 : Int) ≤ ((L + 1 : Nat) : Int) := by omega
      go_wp2_with fail
      go_loopw [8, 9] (fun sv av wr' => ∃ st p : Nat, sv = .int .i64 (st : Nat) ∧ av = .int .i64 ((p : Int) - 1) ∧ p ≤ n ∧ st + walk (L + 1) (seg l n p) = T ∧ wr' = wr) (fun _ av _ => n - (intOf av + 1).toNat)
      case atStart => exact ⟨st, p, rfl, rfl, hp, HINV.out, rfl⟩
      case round =>
        obtain ⟨st, p, rfl, rfl, hp, hinv, hwr⟩ := hrel
        subst hwr
        have HINV := hide hinv
        have hst : st ≤ 200000 := by omega
        clear hinv
        have e1 : (p : Int) - 1 + 1 = (p : Int) := by omega
        go_wp2_with fail
        go_loopw [11] (fun nv wq => ∃ j : Nat, nv = .int .i64 (j : Nat) ∧ p ≤ j ∧ j ≤ n ∧ (∀ i y, p ≤ i → i < j → l[i]? = some y → ¬ L < y.h) ∧ wq = wr) (fun nv _ => n - (intOf nv).toNat)
        case atStart => exact ⟨p, rfl, Nat.le_refl _, hp, fun i y h1 h2 => by omega, rfl⟩
        case round =>
          obtain ⟨j, rfl, hj1, hj2, hlow, hwr⟩ := hrel
          subst hwr
          have HLOW := hide hlow
          clear hlow
          by_cases hjn : j < n
          · have j1 : (j : Int) < (n : Int) := by omega
            have j0 : (0 : Int) ≤ (j : Int) := by omega
            have j2 : (j : Int) < (l.length : Nat) := by omega
            obtain ⟨y, hy⟩ : ∃ y, l[j]? = some y := ⟨_, List.getElem?_eq_getElem (by omega)⟩
            obtain ⟨b, off, rfl, hc⟩ := HH.out j y hy
            have HY := hide hy
            have hyh := HHH.out y (List.mem_of_getElem? hy)
            clear hy
            by_cases hlv : L < y.h
            · have HF := hide (walk_found hj1 hjn HY.out hlv HLOW.out)
              have j3 : ¬ (y.h : Int) < ((L + 1 : Nat) : Int) := by omega
              have j4 : ¬ (n : Int) ≤ (j : Int) := by omega
              go_wp2_with fail
              go_roundw
              case rel => exact ⟨st + 1, j + 1, by go_num, by go_num, by omega, by have := HINV.out; have := HF.out; omega, trivial⟩
              case measure => simp [intOf]; omega
            · have j3 : (y.h : Int) < ((L + 1 : Nat) : Int) := by omega
              have HL2 := hide (show ∀ i z, p ≤ i → i < j + 1 → l[i]? = some z → ¬ L < z.h from fun i z h1 h2 h3 => by
                by_cases hij : i < j
                · exact HLOW.out i z h1 hij h3
                · obtain rfl : i = j := by omega
                  rw [HY.out] at h3
                  cases h3
                  exact hlv)
              go_wp2_with fail
              go_roundw
              case rel => exact ⟨j + 1, by go_num, by omega, by omega, HL2.out, trivial⟩
              case measure => simp [intOf]; omega
          · have j1 : ¬ (j : Int) < (n : Int) := by omega
            have j4 : (n : Int) ≤ (j : Int) := by omega
            have HF := hide (walk_none (l := l) (n := n) (p := p) (L := L) (fun i x h1 h2 h3 => HLOW.out i x h1 (by omega) h3))
            go_wp2_with fail
            go_roundw
            case rel => exact ⟨st + 1, p, L, by go_num, rfl, by go_num, by omega, by omega, by have := HINV.out; have := HF.out; omega, trivial⟩
            case measure => simp [intOf]
end Go.Proofs.Ytkeglaplckfllaa

/-
  The document's From.
-/
namespace Go.Proofs.Ytkeglaplckfllaa
open Go.RowKit
set_option maxRecDepth 100000
set_option maxHeartbeats 4000000
/-- Not below a key. -/
def notB (key : List (BitVec 8)) (y : Tow) : Bool := !decide (cmpB y.e.key key < 0)
theorem take_filter (key : List (BitVec 8)) (l : List Tow) (k n : Nat) (h : ((l.take k).filter (notB key)).length = n) : (l.filter (notB key)).take n = (l.take k).filter (notB key) := by
  have : l.filter (notB key) = (l.take k).filter (notB key) ++ (l.drop k).filter (notB key) := by rw [← List.filter_append, List.take_append_drop]
  rw [this, ← h, List.take_left']
  rfl
theorem rfrom_any (r : Nat) (l : List Tow) (w : World) (h : RT w r l) (ka : Option Addr) (kn kc : Nat) (key : List (BitVec 8)) (N : Int) (hk : Bytes w (.slice ka kn kc) key) (hkn : kn ≤ 1000000) (hkb : ∀ y, y ∈ l → y.e.key.length ≤ 1000000) (hl : l.length ≤ 100000) :
    Calls Try.prog 30 #[.pointer (some ⟨r, 0, none⟩), .slice ka kn kc, .int .i64 N] w fun e w' => ∃ v, e = .returned v ∧ ERow w' w.heap.size v ((l.filter (notB key)).take N.toNat) ∧ Below w.heap.size w w' := by
  have HT := hide h
  have HK := hide hk
  have HKB := hide hkb
  clear h hk hkb
  go_enter Try.func30, Try.ntmps30
  go_wp2_with fail
  go_loopw [7, 8] (fun ov iv wr => ∃ k : Nat, iv = .int .i64 (k : Nat) ∧ k ≤ l.length ∧ ((l.take k).filter (notB key)).length ≤ N.toNat ∧ ERow wr w.heap.size ov ((l.take k).filter (notB key)) ∧ Below w.heap.size w wr) (fun _ iv _ => l.length - (intOf iv).toNat)
  case atStart => exact ⟨0, rfl, Nat.zero_le _, Nat.zero_le _, .inl ⟨rfl, rfl⟩, Below.refl _ _⟩
  case round =>
    obtain ⟨k, rfl, hkl, hcap, hrow, hbw⟩ := hrel
    obtain ⟨oa, oc, rfl⟩ := hrow.len
    have hRl : ((l.take k).filter (notB key)).length ≤ 100000 := Nat.le_trans (List.length_filter_le _ _) (by rw [List.length_take]; omega)
    have HROW := hide hrow
    have BW := hide hbw
    have hsz := hbw.size
    have tt := Turns.of_below hbw (fun _ => False)
    obtain ⟨La, Ha, Lc, Hc, hb, hE, _⟩ := HT.out.quiet tt
    have r0 : wr.cell? ⟨r, 0, none⟩ = some (.slice La l.length Lc) := cell_of_row wr r 0 _ 49 (0, 0) hb
    have HKW := hide (HK.out.quiet tt)
    have HE := hide hE
    have HBX := hide hb
    have HTF := hide (take_filter key l k)
    clear hrow hbw hb hE tt
    obtain ⟨R, hR⟩ : ∃ R, (l.take k).filter (notB key) = R := ⟨_, rfl⟩
    have HR := hide hR
    rw [hR] at HROW hRl hcap HTF ⊢
    clear hR
    by_cases h1 : k < l.length
    · have i1 : (k : Int) < (l.length : Nat) := by omega
      have i0 : (0 : Int) ≤ (k : Int) := by omega
      by_cases h2 : (R.length : Int) < N
      · obtain ⟨y, hy⟩ : ∃ y, l[k]? = some y := ⟨_, List.getElem?_eq_getElem h1⟩
        have HTK : Hid ((l.take (k + 1)).filter (notB key) = R ++ [y].filter (notB key)) := hide (by
          rw [List.take_add_one, hy, List.filter_append, HR.out]
          rfl)
        obtain ⟨⟨b, off, rfl, hc⟩, k1, k2⟩ := HE.out k y hy
        have hyk := HKB.out y (List.mem_of_getElem? hy)
        have HQ := hide (rBefore_any y.ka ka y.e.key.length kn y.kc kc y.e.key key wr k1 HKW.out (Nat.le_trans hyk (by decide)) (by omega))
        obtain ⟨yb, ya, yc, yva, yvc, ye, yh⟩ := y
        have c0 : wr.cell? ⟨b, off + k * 4, none⟩ = some (.slice ya ye.key.length yc) := hc 0 _ rfl
        change Hid (Calls Try.prog 49 #[.slice ya ye.key.length yc, _] _ _) at HQ
        have HCC := hide hc
        clear hc k1 k2 hy
        by_cases hbf : cmpB ye.key key < 0
        · have hnb : notB key ⟨yb, ya, yc, yva, yvc, ye, yh⟩ = false := by simp [notB, hbf]
          have HTK2 := hide (show (l.take (k + 1)).filter (notB key) = R by rw [HTK.out]; simp [hnb])
          rw [show decide (cmpB (Tow.e ⟨yb, ya, yc, yva, yvc, ye, yh⟩).key key < 0) = true from decide_eq_true hbf] at HQ
          clear hnb HTK hbf
          go_wp2_with (go_at_call 49; refine HQ.out.mono ?_; rintro e w2 ⟨rfl, m, hw2⟩; have HW2 := hide hw2; clear hw2)
          have td : Turns (fun _ => False) wr w2 := by rw [HW2.out]; exact (Turns.refl _ _).drewN m
          have HROW2 := hide (HROW.out.keep td (fun _ _ x => x))
          have BZ := hide (BW.out.trans (td.below hsz (fun _ x => x.elim)))
          clear td HW2
          go_roundw
          case rel => exact ⟨k + 1, by go_num, by omega, by rw [HTK2.out]; exact hcap, by rw [HTK2.out]; exact HROW2.out, BZ.out⟩
          case measure => simp [intOf]; omega
        · have hnb : notB key ⟨yb, ya, yc, yva, yvc, ye, yh⟩ = true := by simp [notB, hbf]
          have HTK2 := hide (show (l.take (k + 1)).filter (notB key) = R ++ [⟨yb, ya, yc, yva, yvc, ye, yh⟩] by rw [HTK.out]; simp [hnb])
          rw [show decide (cmpB (Tow.e ⟨yb, ya, yc, yva, yvc, ye, yh⟩).key key < 0) = false from decide_eq_false hbf] at HQ
          clear hnb HTK hbf
          go_upto_region 6 with (go_at_call 49; refine HQ.out.mono ?_; rintro e w2 ⟨rfl, m, hw2⟩; have HW2 := hide hw2; clear hw2)
          have td : Turns (fun _ => False) wr w2 := by rw [HW2.out]; exact (Turns.refl _ _).drewN m
          have d0 : w2.cell? ⟨b, off + k * 4, none⟩ = some (.slice ya ye.key.length yc) := td.cell (HCC.out 0 _ rfl) (fun x => x)
          have d1 : w2.cell? ⟨b, off + k * 4 + 1, none⟩ = some (.int .u64 (ye.seq : Nat)) := td.cell (HCC.out 1 _ rfl) (fun x => x)
          have d2 : w2.cell? ⟨b, off + k * 4 + 2, none⟩ = some (.int .i64 ye.kind) := td.cell (HCC.out 2 _ rfl) (fun x => x)
          have d3 : w2.cell? ⟨b, off + k * 4 + 3, none⟩ = some (.slice yva ye.val.length yvc) := td.cell (HCC.out 3 _ rfl) (fun x => x)
          have r0 : w2.cell? ⟨r, 0, none⟩ = some (.slice (some ⟨b, off, none⟩) l.length Lc) := td.cell r0 (fun x => x)
          have ta : Turns (fun _ => False) wr (w2.alloc (.cells #[.slice ya ye.key.length yc, .int .u64 (ye.seq : Nat), .int .i64 ye.kind, .slice yva ye.val.length yvc] 29)) := td.alloc _
          obtain ⟨g', n', c', w8, hr8, hrow8, t8, b8, hin8⟩ := append_ent _ w.heap.size (.slice oa R.length oc) R (HROW.out.keep ta (fun _ _ x => x)) (by have := ta.size; omega) (by omega) ⟨yb, ya, yc, yva, yvc, ye, yh⟩ w2.heap.size 1 (heap_alloc_new w2 _)
          have BZ := hide ((BW.out.trans (ta.below hsz (fun _ x => x.elim))).trans b8)
          have HROW8 := hide hrow8
          have hq := hr8 33
          clear td HW2 c0 HCC ta hr8 hrow8 t8 b8 hin8
          go_wp2_with (at_builtin; refine wpList_append_run rfl _ _ 33 rfl _ _ rfl rfl _ _ hq ?_)
          go_roundw
          case rel => exact ⟨k + 1, by go_num, by omega, by rw [HTK2.out, List.length_append]; simp only [List.length_cons, List.length_nil]; omega, by rw [HTK2.out]; exact HROW8.out, BZ.out⟩
          case measure => simp [intOf]; omega
      · have i2 : ¬ (R.length : Int) < N := h2
        have HV := hide (HTF.out N.toNat (by omega))
        go_wp2_with fail
        go_ret
        exact ⟨_, rfl, by rw [HV.out]; exact HROW.out, BW.out⟩
    · have i1 : ¬ (k : Int) < (l.length : Nat) := by omega
      have HV : Hid ((l.filter (notB key)).take N.toNat = R) := hide (by
        rw [← HR.out, List.take_of_length_le (i := k) (by omega)]
        refine List.take_of_length_le ?_
        have := HR.out
        rw [List.take_of_length_le (by omega)] at this
        rw [this]
        exact hcap)
      go_wp2_with fail
      go_ret
      exact ⟨_, rfl, by rw [HV.out]; exact HROW.out, BW.out⟩
end Go.Proofs.Ytkeglaplckfllaa

/-
  A box that the answer is put into.
-/
namespace Go.Proofs.Ytkeglaplckfllaa
open Go.RowKit
set_option maxRecDepth 100000
/-- The box as it is made. -/
def zbox : Obj := .cells #[.slice none 0 0, .int .u64 0, .int .i64 0, .slice none 0 0] 29
theorem Bytes.over {w : World} {g : Nat} {cs : Array Value} {v : Value} {bs : List (BitVec 8)} (h : Bytes w v bs) (hg : w.heap[g]? = some (.cells #[.slice none 0 0, .int .u64 0, .int .i64 0, .slice none 0 0] 29 (0, 0))) : Bytes (w.setRow g cs) v bs := by
  obtain ⟨a, c, rfl, hc⟩ := h
  refine ⟨a, c, rfl, fun k hk => ?_⟩
  obtain ⟨b, off, rfl, hcell⟩ := hc k hk
  refine ⟨b, off, rfl, ?_⟩
  by_cases hb : b = g
  · subst hb
    rw [cell_of_row w b (off + k) _ 29 (0, 0) hg] at hcell
    generalize off + k = j at hcell
    rcases j with _ | _ | _ | _ | j <;> simp at hcell
  · rw [cell_setRow_other w g cs ⟨b, off + k, none⟩ hb]
    exact hcell
theorem Turns.over {w u : World} {g : Nat} {cs : Array Value} (t : Turns (fun _ => False) w u) (hg : w.heap.size ≤ g) : Turns (fun _ => False) w (u.setRow g cs) :=
  ⟨t.os, t.tape, t.output, by have := t.size; simpa using this, fun k hk hn => (setRow_other u g k cs (by omega)).trans (t.block k hk hn)⟩
theorem wrap12 (n : Nat) (h : n ≤ 120) : IntKind.i64.wrap ((n : Int) + 12) = (n : Int) + 12 := by
  simp [IntKind.wrap, IntKind.bits, IntKind.signed]
  omega
end Go.Proofs.Ytkeglaplckfllaa
