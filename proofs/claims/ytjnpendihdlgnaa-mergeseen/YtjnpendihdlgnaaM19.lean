import Derived.Test.YtjnpendihdlgnaaM18
import Derived.Test.YtjnpendihdlgnaaM15
/-
  Entries dealt out into rows, as plain mathematics.
-/
namespace Go.Proofs.Ytjnpendihdlgnaa
open Go.RowKit
set_option maxRecDepth 100000
theorem putL_nil (x : Tow) : putL x [] = [x] := rfl
theorem putL_cons (x y : Tow) (r : List Tow) : putL x (y :: r) = if cmpE y.e.en x.e.en < 0 then y :: putL x r else x :: y :: r := by
  unfold putL
  rw [show pIdx x.e.en (y :: r) = if cmpE y.e.en x.e.en < 0 then pIdx x.e.en r + 1 else 0 from rfl]
  split <;> simp
theorem putL_rise {x : Tow} : ∀ {r : List Tow}, r.Pairwise ltT → (∀ y, y ∈ r → cmpE y.e.en x.e.en ≠ 0) → (putL x r).Pairwise ltT
  | [], _, _ => by rw [putL_nil]; exact List.pairwise_singleton _ _
  | y :: r, hr, hne => by
    obtain ⟨h1, h2⟩ := List.pairwise_cons.1 hr
    rw [putL_cons]
    split
    · next hlt =>
      refine List.pairwise_cons.2 ⟨fun z hz => ?_, putL_rise h2 fun z hz => hne z (List.mem_cons_of_mem _ hz)⟩
      rcases mem_putL.1 hz with rfl | hz
      · exact hlt
      · exact h1 z hz
    · next hlt =>
      have hxy : ltT x y := by
        have := hne y (by simp)
        have := cmpE_swap y.e.en x.e.en
        unfold ltT
        omega
      refine List.pairwise_cons.2 ⟨fun z hz => ?_, hr⟩
      rcases List.mem_cons.1 hz with rfl | hz
      · exact hxy
      · have := h1 z hz
        unfold ltT at hxy this ⊢
        exact cmpE_lt_le hxy (by omega)
theorem putL_ne {x : Tow} : ∀ {r : List Tow}, (putL x r).Pairwise ltT → ∀ y, y ∈ r → cmpE y.e.en x.e.en ≠ 0
  | [], _, y, hy => by cases hy
  | z :: r, hp, y, hy => by
    rw [putL_cons] at hp
    split at hp
    · next hlt =>
      obtain ⟨_, h2⟩ := List.pairwise_cons.1 hp
      rcases List.mem_cons.1 hy with rfl | hy
      · omega
      · exact putL_ne h2 y hy
    · obtain ⟨h1, _⟩ := List.pairwise_cons.1 hp
      have := h1 y hy
      have := cmpE_swap y.e.en x.e.en
      unfold ltT at *
      omega
/-- Entries in order, dealt out into rows, none twice. -/
structure Dealt (Q : List Tow) (rows : List (List Tow)) : Prop where
  rise : Q.Pairwise ltT
  each : ∀ r, r ∈ rows → r.Pairwise ltT
  sub : ∀ r, r ∈ rows → ∀ x, x ∈ r → x ∈ Q
  all : ∀ x, x ∈ Q → ∃ r, r ∈ rows ∧ x ∈ r
  apart : ∀ (i j : Nat) (r r' : List Tow), rows[i]? = some r → rows[j]? = some r' → i ≠ j → ∀ x, x ∈ r → x ∉ r'
theorem Dealt.put {Q : List Tow} {rows : List (List Tow)} (h : Dealt Q rows) {x : Tow} (hx : (putL x Q).Pairwise ltT) {k : Nat} {r : List Tow} (hk : rows[k]? = some r) : Dealt (putL x Q) (rows.set k (putL x r)) := by
  have hkl := (List.getElem?_eq_some_iff.1 hk).1
  have hr := List.mem_of_getElem? hk
  have hnew : x ∉ Q := fun hm => by
    have := putL_ne hx x hm
    exact this ((cmpE_zero x.e.en x.e.en).2 ⟨rfl, rfl⟩)
  have get : ∀ (i : Nat) (s : List Tow), (rows.set k (putL x r))[i]? = some s → (i = k ∧ s = putL x r) ∨ (i ≠ k ∧ rows[i]? = some s) := fun i s hs => by
    by_cases e : i = k
    · subst e
      rw [List.getElem?_set_self hkl] at hs
      exact .inl ⟨rfl, (Option.some.inj hs).symm⟩
    · rw [List.getElem?_set_ne (Ne.symm e)] at hs
      exact .inr ⟨e, hs⟩
  refine ⟨hx, fun s hs => ?_, fun s hs y hy => ?_, fun y hy => ?_, fun i j s s' hi hj hij y hy hy' => ?_⟩
  · rcases List.mem_or_eq_of_mem_set hs with hs | rfl
    · exact h.each s hs
    · exact putL_rise (h.each r hr) fun y hy => putL_ne hx y (h.sub r hr y hy)
  · rcases List.mem_or_eq_of_mem_set hs with hs | rfl
    · exact mem_putL.2 (.inr (h.sub s hs y hy))
    · rcases mem_putL.1 hy with rfl | hy
      · exact mem_putL.2 (.inl rfl)
      · exact mem_putL.2 (.inr (h.sub r hr y hy))
  · rcases mem_putL.1 hy with rfl | hy
    · exact ⟨putL y r, List.mem_of_getElem? (List.getElem?_set_self hkl), mem_putL.2 (.inl rfl)⟩
    · obtain ⟨s, hs, hys⟩ := h.all y hy
      obtain ⟨i, hi⟩ := List.getElem?_of_mem hs
      by_cases e : i = k
      · subst e
        rw [hk] at hi
        cases hi
        exact ⟨putL x r, List.mem_of_getElem? (List.getElem?_set_self hkl), mem_putL.2 (.inr hys)⟩
      · exact ⟨s, List.mem_of_getElem? (i := i) (by rw [List.getElem?_set_ne (Ne.symm e)]; exact hi), hys⟩
  · rcases get i s hi with ⟨e1, rfl⟩ | ⟨e1, hi2⟩
    · rcases get j s' hj with ⟨e2, _⟩ | ⟨e2, hj2⟩
      · omega
      · rcases mem_putL.1 hy with rfl | hy
        · exact hnew (h.sub s' (List.mem_of_getElem? hj2) y hy')
        · exact h.apart k j r s' hk hj2 (by omega) y hy hy'
    · rcases get j s' hj with ⟨e2, rfl⟩ | ⟨e2, hj2⟩
      · rcases mem_putL.1 hy' with rfl | hy'
        · exact hnew (h.sub s (List.mem_of_getElem? hi2) y hy)
        · exact h.apart i k s r hi2 hk (by omega) y hy hy'
      · exact h.apart i j s s' hi2 hj2 hij y hy hy'
theorem Dealt.nil (n : Nat) : Dealt [] (List.replicate n []) := by
  have none : ∀ r, r ∈ List.replicate n ([] : List Tow) → r = [] := fun r hr => (List.mem_replicate.1 hr).2
  refine ⟨List.Pairwise.nil, fun r hr => ?_, fun r hr x hx => ?_, fun x hx => (by cases hx), fun i j r r' hi _ _ x hx => ?_⟩
  · rw [none r hr]; exact List.Pairwise.nil
  · rw [none r hr] at hx; cases hx
  · rw [none r (List.mem_of_getElem? hi)] at hx; cases hx
/-- What is dealt out is merged again. -/
theorem Dealt.merged {Q : List Tow} {rows : List (List Tow)} (h : Dealt Q rows) : MgE (rows.map fun r => r.map (·.e)) (Q.map (·.e)) := by
  refine ⟨rise_map h.rise, fun x hx => ?_, fun i r hi y hy => ?_⟩
  · obtain ⟨t, ht, rfl⟩ := List.mem_map.1 hx
    obtain ⟨r, hr, htr⟩ := h.all t ht
    obtain ⟨i, hi⟩ := List.getElem?_of_mem hr
    refine ⟨i, r.map (·.e), by simp [hi], List.mem_map.2 ⟨t, htr, rfl⟩, fun j r' hj hr' y hy e => ?_⟩
    simp only [List.getElem?_map] at hr'
    obtain ⟨s, hs, rfl⟩ := Option.map_eq_some_iff.1 hr'
    obtain ⟨u, hu, rfl⟩ := List.mem_map.1 hy
    have hE : u = t := by
      have hmu := h.sub s (List.mem_of_getElem? hs) u hu
      obtain ⟨p, hp⟩ := List.getElem?_of_mem hmu
      obtain ⟨q, hq⟩ := List.getElem?_of_mem ht
      obtain ⟨p1, p2⟩ := List.getElem?_eq_some_iff.1 hp
      obtain ⟨q1, q2⟩ := List.getElem?_eq_some_iff.1 hq
      have hpw := List.pairwise_iff_getElem.1 h.rise
      rcases Nat.lt_trichotomy p q with c | c | c
      · have := hpw p q p1 q1 c
        unfold ltT at this
        rw [p2, q2] at this
        omega
      · subst c
        rw [← p2, ← q2]
      · have := hpw q p q1 p1 c
        unfold ltT at this
        rw [p2, q2] at this
        have := cmpE_swap u.e.en t.e.en
        omega
    subst hE
    exact h.apart j i s r hs hi (by omega) u hu htr
  · simp only [List.getElem?_map] at hi
    obtain ⟨s, hs, rfl⟩ := Option.map_eq_some_iff.1 hi
    obtain ⟨u, hu, rfl⟩ := List.mem_map.1 hy
    exact ⟨u.e, List.mem_map.2 ⟨u, h.sub s (List.mem_of_getElem? hs) u hu, rfl⟩, (cmpE_zero _ _).2 ⟨rfl, rfl⟩⟩
end Go.Proofs.Ytjnpendihdlgnaa

/-
  Rows dealt out, merged in two parts, and the parts merged.
-/
namespace Go.Proofs.Ytjnpendihdlgnaa
open Go.RowKit
set_option maxRecDepth 100000
theorem MgE.from {L : List (List Tow)} {A : List Ent} (h : MgE (L.map fun r => r.map (·.e)) A) {x : Ent} (hx : x ∈ A) : ∃ (i : Nat) (r : List Tow) (u : Tow), L[i]? = some r ∧ u ∈ r ∧ u.e = x := by
  obtain ⟨i, r, h1, h2, _⟩ := h.of x hx
  simp only [List.getElem?_map] at h1
  obtain ⟨s, hs, rfl⟩ := Option.map_eq_some_iff.1 h1
  obtain ⟨u, hu, rfl⟩ := List.mem_map.1 h2
  exact ⟨i, s, u, hs, hu, rfl⟩
/-- An entry of a part's row is in what the part comes to. -/
theorem Dealt.part {Q : List Tow} {L : List (List Tow)} {A : List Ent} (hrise : Q.Pairwise ltT) (hsub : ∀ r, r ∈ L → ∀ x, x ∈ r → x ∈ Q) (hA : MgE (L.map fun r => r.map (·.e)) A) {i : Nat} {r : List Tow} (hi : L[i]? = some r) {t : Tow} (ht : t ∈ r) : t.e ∈ A := by
  obtain ⟨x, hx, e⟩ := hA.all i (r.map (·.e)) (by simp [hi]) t.e (List.mem_map.2 ⟨t, ht, rfl⟩)
  obtain ⟨j, s, u, hj, hu, rfl⟩ := hA.from hx
  rw [← same_of_rise hrise (hsub s (List.mem_of_getElem? hj) u hu) (hsub r (List.mem_of_getElem? hi) t ht) e]
  exact hx
theorem Dealt.two {Q : List Tow} {L1 L2 : List (List Tow)} (h : Dealt Q (L1 ++ L2)) {A B : List Ent} (hA : MgE (L1.map fun r => r.map (·.e)) A) (hB : MgE (L2.map fun r => r.map (·.e)) B) : MgE [A, B] (Q.map (·.e)) := by
  have sub1 : ∀ r, r ∈ L1 → ∀ x, x ∈ r → x ∈ Q := fun r hr => h.sub r (List.mem_append_left _ hr)
  have sub2 : ∀ r, r ∈ L2 → ∀ x, x ∈ r → x ∈ Q := fun r hr => h.sub r (List.mem_append_right _ hr)
  refine ⟨rise_map h.rise, fun x hx => ?_, fun i r hi y hy => ?_⟩
  · obtain ⟨t, ht, rfl⟩ := List.mem_map.1 hx
    obtain ⟨r, hr, htr⟩ := h.all t ht
    rcases List.mem_append.1 hr with hr | hr
    · obtain ⟨i, hi⟩ := List.getElem?_of_mem hr
      exact ⟨0, A, rfl, Dealt.part h.rise sub1 hA hi htr, fun j r' hj => by omega⟩
    · obtain ⟨i, hi⟩ := List.getElem?_of_mem hr
      refine ⟨1, B, rfl, Dealt.part h.rise sub2 hB hi htr, fun j r' hj hr' y hy e => ?_⟩
      obtain rfl : j = 0 := by omega
      obtain rfl : A = r' := by simpa using hr'
      obtain ⟨k, s, u, hk, hu, rfl⟩ := hA.from hy
      have hut := same_of_rise h.rise (sub1 s (List.mem_of_getElem? hk) u hu) ht e
      subst hut
      have hkl := (List.getElem?_eq_some_iff.1 hk).1
      exact h.apart k (L1.length + i) s r (by rw [List.getElem?_append_left hkl]; exact hk) (by rw [List.getElem?_append_right (by omega), Nat.add_sub_cancel_left]; exact hi) (by omega) u hu htr
  · have key : ∀ {L : List (List Tow)} {A : List Ent}, (∀ r, r ∈ L → ∀ x, x ∈ r → x ∈ Q) → MgE (L.map fun r => r.map (·.e)) A → y ∈ A → ∃ x, x ∈ Q.map (·.e) ∧ cmpE x.en y.en = 0 := fun {L A} hs hA hy => by
      obtain ⟨k, s, u, hk, hu, rfl⟩ := hA.from hy
      exact ⟨u.e, List.mem_map.2 ⟨u, hs s (List.mem_of_getElem? hk) u hu, rfl⟩, (cmpE_zero _ _).2 ⟨rfl, rfl⟩⟩
    match i, hi with
    | 0, hi => obtain rfl : A = r := by simpa using hi
               exact key sub1 hA hy
    | 1, hi => obtain rfl : B = r := by simpa using hi
               exact key sub2 hB hy
end Go.Proofs.Ytjnpendihdlgnaa

/-
  MergeSeen: the rows while entries are dealt out, in memory.
-/
namespace Go.Proofs.Ytjnpendihdlgnaa
open Go.RowKit Go.Shelf
set_option maxRecDepth 100000
/-- All so far (av), and the four rows behind gp: each row in a block of its own. -/
structure Dm (w wr : World) (l : List Tow) (gp : Nat) (av : Value) (Q : List Tow) (rows : List (List Tow)) : Prop where
  all : ERow wr w.heap.size av Q
  blk : ∃ cs : Array Value, wr.heap[gp]? = some (.cells cs 27 (0, 0)) ∧ cs.size = 4 ∧ ∀ (k : Nat) (r : List Tow), rows[k]? = some r → ∃ v, cs[k]? = some v ∧ ERow wr w.heap.size v r ∧ ¬ inRow v gp
  notAll : ¬ inRow av gp
  four : rows.length = 4
  dealt : Dealt Q rows
  sub : ∀ x, x ∈ Q → x ∈ l
  up : w.heap.size ≤ gp
  turn : Below w.heap.size w wr
theorem Dm.quiet {w wr w' : World} {l : List Tow} {gp : Nat} {av : Value} {Q : List Tow} {rows : List (List Tow)} (h : Dm w wr l gp av Q rows) (b : Below wr.heap.size wr w') : Dm w w' l gp av Q rows := by
  have t := Turns.of_below b (fun _ => False)
  obtain ⟨cs, h1, h2, h3⟩ := h.blk
  refine ⟨h.all.keep t (fun _ _ x => x), ⟨cs, t.heap h1 (fun x => x), h2, fun k r hr => ?_⟩, h.notAll, h.four, h.dealt, h.sub, h.up, then_below h.turn b (Nat.le_refl _)⟩
  obtain ⟨v, h4, h5, h6⟩ := h3 k r hr
  exact ⟨v, h4, h5.keep t (fun _ _ x => x), h6⟩
theorem row_of_put {w' : World} {B : Nat} {x : Tow} {R : List Tow} {g c : Nat} (hB : B ≤ g) (hc : R.length + 1 ≤ c) (h : RowC w' g 25 (c * 4) (entCells (putL x R))) : ERow w' B (.slice (some ⟨g, 0, none⟩) (R.length + 1) c) (putL x R) :=
  .inr ⟨g, c, R.length + 1, rfl, (putL_length x R).symm, hc, hB, h⟩
/-- One entry more: in all (a fresh row), and in the row k (a fresh one, laid into the cell k). -/
theorem Dm.put {w wr w1 w2 : World} {l : List Tow} {gp : Nat} {av : Value} {Q : List Tow} {rows : List (List Tow)} (h : Dm w wr l gp av Q rows) {x : Tow} (hx : x ∈ l) (ho : inOrd (ents (putL x Q)) = true) {k : Nat} {r : List Tow} (hk : rows[k]? = some r)
    {g1 c1 g2 c2 : Nat} (b1 : Below wr.heap.size wr w1) (hg1 : wr.heap.size ≤ g1) (hc1 : Q.length + 1 ≤ c1) (hr1 : RowC w1 g1 25 (c1 * 4) (entCells (putL x Q))) (b2 : Below w1.heap.size w1 w2) (hg2 : w1.heap.size ≤ g2) (hc2 : r.length + 1 ≤ c2) (hr2 : RowC w2 g2 25 (c2 * 4) (entCells (putL x r))) :
    Dm w (w2.setCell ⟨gp, k, none⟩ (.slice (some ⟨g2, 0, none⟩) (r.length + 1) c2)) l gp (.slice (some ⟨g1, 0, none⟩) (Q.length + 1) c1) (putL x Q) (rows.set k (putL x r)) := by
  have hs := h.turn.size
  have hs1 := b1.size
  have hs2 := b2.size
  have h2 := (h.quiet b1).quiet b2
  obtain ⟨cs, k1, k2, k3⟩ := h2.blk
  obtain ⟨cs0, k0, _⟩ := h.blk
  have hgw := lt_of_heap k0
  have tk := (Tick.refl k1).set k (.slice (some ⟨g2, 0, none⟩) (r.length + 1) c2)
  have tt := Turns.of_tick tk
  have hkl := (List.getElem?_eq_some_iff.1 hk).1
  have hne1 : g1 ≠ gp := by omega
  have hne2 : g2 ≠ gp := by omega
  have t2 := Turns.of_below b2 (fun _ => False)
  refine ⟨((row_of_put (by omega) hc1 hr1).keep t2 (fun _ _ x => x)).keep tt (fun q ⟨_, _, e⟩ e2 => by cases e; exact hne1 e2), ⟨_, tk.1, by simpa using k2, fun j s hj => ?_⟩, fun ⟨_, _, e⟩ => (by cases e; exact hne1 rfl), by rw [List.length_set]; exact h.four, h.dealt.put (pairwise_of_ord ho) hk, fun y hy => ?_, h.up, ?_⟩
  · by_cases e : j = k
    · subst e
      rw [List.getElem?_set_self hkl] at hj
      cases hj
      exact ⟨_, Array.getElem?_setIfInBounds_self_of_lt (by rw [k2]; have := h.four; omega), (row_of_put (by omega) hc2 hr2).keep tt (fun q ⟨_, _, e⟩ e2 => by cases e; exact hne2 e2), fun ⟨_, _, e⟩ => (by cases e; exact hne2 rfl)⟩
    · rw [List.getElem?_set_ne (Ne.symm e)] at hj
      obtain ⟨v, q1, q2, q3⟩ := k3 j s hj
      exact ⟨v, by rw [Array.getElem?_setIfInBounds_ne (Ne.symm e)]; exact q1, q2.keep tt (fun q hq e2 => q3 (e2 ▸ hq)), q3⟩
  · rcases mem_putL.1 hy with rfl | hy
    · exact hx
    · exact h.sub y hy
  · exact ((Turns.of_below h2.turn (fun k => w.heap.size ≤ k)).trans (tt.mono fun q _ e => by have := h.up; omega)).below (Nat.le_refl _) (fun k hk => hk)
end Go.Proofs.Ytjnpendihdlgnaa

/-
  MergeSeen: four rows made, and an entry put into a row of one's own.
-/
namespace Go.Proofs.Ytjnpendihdlgnaa
open Go.RowKit Go.Shelf
set_option maxRecDepth 100000
theorem make4 (w : World) : (Instr.makeSlice 28 (.int .i64 4) (.int .i64 4)).run Try.prog w = .ok (.slice (some ⟨w.heap.size, 0, none⟩) 4 4) (w.alloc (.cells #[.slice none 0 0, .slice none 0 0, .slice none 0 0, .slice none 0 0] 27)) := by
  have h := run_makeSlice w 28 27 Try.t27 _ Try.underlying28 t27_info t27_zero .i64 .i64 4 4 (by omega) (by omega) (by rw [t27_size]; omega) (by rw [t27_bytes]; omega) (by omega)
  have e : madeCells (Value.slice none 0 0).cells (Int.toNat 4 * Try.t27.size) = #[.slice none 0 0, .slice none 0 0, .slice none 0 0, .slice none 0 0] := by kernel_rfl
  rw [e] at h
  exact h
theorem Dm.start (w : World) (l : List Tow) : Dm w (w.alloc (.cells #[.slice none 0 0, .slice none 0 0, .slice none 0 0, .slice none 0 0] 27)) l w.heap.size (.slice none 0 0) [] [[], [], [], []] := by
  refine ⟨.inl ⟨rfl, rfl⟩, ⟨_, heap_alloc_new w _, rfl, fun k r hr => ?_⟩, fun ⟨_, _, e⟩ => (by cases e), rfl, Dealt.nil 4, fun x hx => (by cases hx), Nat.le_refl _, ((Turns.refl (fun _ => False) w).alloc _).below (Nat.le_refl _) (fun _ x => x.elim)⟩
  have hk := (List.getElem?_eq_some_iff.1 hr).1
  simp only [List.length_cons, List.length_nil] at hk
  have hk4 : k = 0 ∨ k = 1 ∨ k = 2 ∨ k = 3 := by omega
  have none : ¬ inRow (.slice none 0 0) w.heap.size := fun ⟨_, _, e⟩ => by cases e
  rcases hk4 with rfl | rfl | rfl | rfl <;> (cases hr; exact ⟨_, rfl, .inl ⟨rfl, rfl⟩, none⟩)
theorem rputE_any (v : Value) (R : List Tow) (x : Tow) (B : Nat) (w : World) (h : ERow w B v R) (hs : ∀ y, y ∈ R → Bytes w y.kv y.e.key ∧ Bytes w y.vv y.e.val) (hmx : R.length ≤ 1000) (hk : Bytes w x.kv x.e.key) (hkx : x.e.key.length ≤ 1000000) (hkb : ∀ y, y ∈ R → y.e.key.length ≤ 1000000) : Calls Try.prog 27 #[v, .agg x.ent] w (PutOk w x R) := by
  obtain ⟨a, c, e, hen, hc, _⟩ := ents_row h hs
  have HE := e
  have hz : (a = none ∧ c = 0) ∨ ∃ b off, a = some ⟨b, off, none⟩ ∧ b < w.heap.size := by
    rcases h with ⟨rfl, e2⟩ | ⟨g, c', n', e2, _, _, _, cs, h5, _⟩
    · rw [e2] at e; injection e with e3 e4 e5; exact .inl ⟨e3.symm, e5.symm⟩
    · rw [e2] at e; injection e with e3 e4 e5; exact .inr ⟨g, 0, e3.symm, lt_of_heap h5⟩
  rw [HE]
  exact rput_any a R.length c R x w hen rfl hc hz hmx hk hkx hkb
end Go.Proofs.Ytjnpendihdlgnaa

/-
  Both sides, as the laws call them.
-/
namespace Go.Proofs.Ytjnpendihdlgnaa
open Go.RowKit
set_option maxRecDepth 100000
set_option maxHeartbeats 4000000
theorem few_rows {w : World} {a : Option Addr} {rs : List Rw} (h : RowsOf w a rs) (hf : Few rs) : RowsIn w a rs := fun k x hx => by
  obtain ⟨h1, h2⟩ := h k x hx
  have := (hf.each x (List.mem_of_getElem? hx)).1
  exact ⟨h1, ⟨h2.ents, h2.cap, by omega⟩⟩
theorem entR_mem {ps rs : List Rw} (he : entR ps = entR rs) {x : Rw} (hx : x ∈ ps) : ∃ y, y ∈ rs ∧ x.R.map (·.e) = y.R.map (·.e) := by
  have h1 : x.R.map (·.e) ∈ entR rs := by rw [← he]; exact List.mem_map.2 ⟨x, hx, rfl⟩
  obtain ⟨y, hy, e⟩ := List.mem_map.1 h1
  exact ⟨y, hy, e.symm⟩
theorem good_own {w : World} {B : Nat} {v : Value} {ps rs : List Rw} (ho : Owned w B v ps) (he : entR ps = entR rs) (hf : Few rs) : Good ps := by
  have hl : ps.length = rs.length := by have := congrArg List.length he; simpa [entR] using this
  refine ⟨by have := hf.rows; omega, by rw [entR_sum, he, ← entR_sum]; have := hf.all; omega, fun x hx => ?_, fun x hx => (ho x hx).2.2.1⟩
  obtain ⟨r, hr, hxr⟩ := List.mem_flatMap.1 hx
  obtain ⟨y, hy, e⟩ := entR_mem he hr
  have hm : x.e ∈ y.R.map (·.e) := by rw [← e]; exact List.mem_map.2 ⟨x, hxr, rfl⟩
  obtain ⟨z, hz, e2⟩ := List.mem_map.1 hm
  have := (hf.each y hy).2 z hz
  rw [← e2]
  omega
theorem small_own {w : World} {B : Nat} {v : Value} {ps rs : List Rw} (he : entR ps = entR rs) (hf : Few rs) (_ : Owned w B v ps) : ∀ x, x ∈ ps → x.R.length ≤ 1000000 := fun x hx => by
  obtain ⟨y, hy, e⟩ := entR_mem he hx
  have h1 := congrArg List.length e
  rw [List.length_map, List.length_map] at h1
  have := (hf.each y hy).1
  omega
/-- Rows of one's own, with the entries of others. -/
structure Copy (w : World) (v : Value) (ps rs : List Rw) : Prop where
  ex : ∃ a c, v = .slice a ps.length c ∧ RowsIn w a ps
  good : Good ps
  ent : entR ps = entR rs
theorem Copy.quiet {w w' : World} {v : Value} {ps rs : List Rw} (h : Copy w v ps rs) (t : Turns (fun _ => False) w w') : Copy w' v ps rs := by
  obtain ⟨a, c, e, hr⟩ := h.ex
  exact ⟨⟨a, c, e, hr.quiet t⟩, h.good, h.ent⟩
theorem copy_any (a : Option Addr) (n c : Nat) (rs : List Rw) (w : World) (h : RowsIn w a rs) (hn : n = rs.length) (hf : Few rs) :
    Calls Try.prog 14 #[.slice a n c] w fun e w' => ∃ a' n' c' ps, e = .returned (.slice a' n' c') ∧ Copy w' (.slice a' n' c') ps rs ∧ Below w.heap.size w w' := by
  refine (ownRows_any a n c rs w (fun k x hx => ⟨(h k x hx).1, (h k x hx).2.ents⟩) hn hf).mono ?_
  rintro e w' ⟨v, ps, rfl, h1, h2, h3, h4⟩
  obtain ⟨a', c', rfl, hr⟩ := Owned.rows h1 h2 (small_own h3 hf h2)
  exact ⟨a', _, c', ps, rfl, ⟨⟨a', c', rfl, hr⟩, good_own h2 h3 hf, h3⟩, h4⟩
/-- A result: entries that lie there. -/
def Got2 (w : World) (v : Value) (R : List Tow) : Prop := ∃ a c, v = .slice a R.length c ∧ Ents w a R
theorem Got2.quiet {w w' : World} {v : Value} {R : List Tow} (h : Got2 w v R) (t : Turns (fun _ => False) w w') : Got2 w' v R := by
  obtain ⟨a, c, e, h⟩ := h
  exact ⟨a, c, e, h.quiet t⟩
theorem ord_both {ps rs : List Rw} (he : entR ps = entR rs) : eachOrd ps = eachOrd rs := by rw [eachOrd_entR, eachOrd_entR, he]
theorem allC_any (a : Option Addr) (n c : Nat) (ps rs : List Rw) (w : World) (h : Copy w (.slice a n c) ps rs) :
    Calls Try.prog 10 #[.slice a n c] w fun e w' => ∃ a' n' c' R, e = .returned (.tuple #[.slice a' n' c', .int .i64 (ordE (eachOrd rs))]) ∧ Got2 w' (.slice a' n' c') R ∧ AllOk ps R ∧ Below w.heap.size w w' := by
  obtain ⟨a2, c2, e2, hr⟩ := h.ex
  cases e2
  refine (all_any a _ c ps w hr rfl h.good.fine).mono ?_
  rintro e w' ⟨v, R, rfl, hE, hS, hb, hA⟩
  obtain ⟨a', c', rfl, hen, _⟩ := ents_of hE hS
  exact ⟨a', _, c', R, by rw [ord_both h.ent], ⟨a', c', rfl, hen⟩, hA, hb⟩
theorem seenC_any (a : Option Addr) (n c : Nat) (ps rs : List Rw) (seq : Nat) (w : World) (h : Copy w (.slice a n c) ps rs) :
    Calls Try.prog 9 #[.slice a n c, .int .u64 (seq : Nat)] w fun e w' => ∃ a' n' c' R, e = .returned (.tuple #[.slice a' n' c', .int .i64 (ordE (eachOrd rs))]) ∧ Got2 w' (.slice a' n' c') R ∧ BetweenOk ps [] [] seq 9223372036854775807 R ∧ Below w.heap.size w w' := by
  obtain ⟨a2, c2, e2, hr⟩ := h.ex
  cases e2
  refine (seen9_any a _ c ps seq w hr rfl h.good).mono ?_
  rintro e w' ⟨v, R, rfl, hE, hS, hb, hA⟩
  obtain ⟨a', c', rfl, hen, _⟩ := ents_of hE hS
  exact ⟨a', _, c', R, by rw [ord_both h.ent], ⟨a', c', rfl, hen⟩, hA, hb⟩
theorem betC_any (a : Option Addr) (n c : Nat) (ps rs : List Rw) (fa ta : Option Addr) (fn fc tn tc : Nat) (fk tk : Ky) (seq : Nat) (m : Int) (w : World) (h : Copy w (.slice a n c) ps rs) (hf : Bytes w (.slice fa fn fc) fk) (ht : Bytes w (.slice ta tn tc) tk) :
    Calls Try.prog 17 #[.slice a n c, .slice fa fn fc, .slice ta tn tc, .int .u64 (seq : Nat), .int .i64 m] w fun e w' => ∃ a' n' c' R, e = .returned (.tuple #[.slice a' n' c', .int .i64 (ordE (eachOrd rs))]) ∧ Got2 w' (.slice a' n' c') R ∧ BetweenOk ps fk tk seq m R ∧ Below w.heap.size w w' := by
  obtain ⟨a2, c2, e2, hr⟩ := h.ex
  cases e2
  refine (between17_any a _ c ps fa ta fn fc tn tc fk tk seq m w hr rfl h.good hf ht).mono ?_
  rintro e w' ⟨v, R, rfl, hE, hS, hb, hA⟩
  obtain ⟨a', c', rfl, hen, _⟩ := ents_of hE hS
  exact ⟨a', _, c', R, by rw [ord_both h.ent], ⟨a', c', rfl, hen⟩, hA, hb⟩
/-- What the document's functions answer lies in the rows' memory. -/
def InRs (rs : List Rw) (R : List Tow) : Prop := ∀ x, x ∈ R → x ∈ allOf rs
theorem got_of {w : World} {a : Option Addr} {B : Nat} {rs : List Rw} {v : Value} {R : List Tow} (hr : RowsIn w a rs) (hE : ERow w B v R) (hi : InRs rs R) : ∃ a' c', v = .slice a' R.length c' ∧ Got2 w v R := by
  obtain ⟨a', c', e, hen, _⟩ := ents_row hE fun x hx => all_bytes hr (hi x hx)
  exact ⟨a', c', e, a', c', e, hen⟩
theorem rall_in {rs : List Rw} {R : List Tow} (h : RAllOk rs R) : InRs rs R := fun x hx => by
  rcases h with ⟨_, hm, _⟩ | ⟨_, rfl⟩
  · exact mg_from hm hx
  · cases hx
theorem rbet_in {rs : List Rw} {fk tk : Ky} {seq : Nat} {m : Int} {R : List Tow} (h : RBetOk rs fk tk seq m R) : InRs rs R := fun x hx => by
  rcases h with ⟨_, xs, hm, _, hi, _⟩ | ⟨_, rfl⟩
  · exact mg_from hm (hi x hx)
  · cases hx
theorem allR_any (a : Option Addr) (n c : Nat) (rs : List Rw) (w : World) (h : RowsIn w a rs) (hn : n = rs.length) (hf : Few rs) :
    Calls Try.prog 15 #[.slice a n c] w fun e w' => ∃ a' n' c' R, e = .returned (.tuple #[.slice a' n' c', .int .i64 (ordE (eachOrd rs))]) ∧ Got2 w' (.slice a' n' c') R ∧ RAllOk rs R ∧ Below w.heap.size w w' := by
  refine (refAll_any a n c rs w h hn hf).mono ?_
  rintro e w' ⟨v, R, rfl, hE, hb, hA⟩
  obtain ⟨a', c', rfl, hg⟩ := got_of (h.quiet (Turns.of_below hb _)) hE (rall_in hA)
  exact ⟨a', _, c', R, rfl, hg, hA, hb⟩
theorem seenR_any (a : Option Addr) (n c : Nat) (rs : List Rw) (seq : Nat) (w : World) (h : RowsIn w a rs) (hn : n = rs.length) (hf : Few rs) :
    Calls Try.prog 16 #[.slice a n c, .int .u64 (seq : Nat)] w fun e w' => ∃ a' n' c' R, e = .returned (.tuple #[.slice a' n' c', .int .i64 (ordE (eachOrd rs))]) ∧ Got2 w' (.slice a' n' c') R ∧ RBetOk rs [] [] seq 4611686018427387904 R ∧ Below w.heap.size w w' := by
  refine (rSeen_any a n c rs seq w h hn hf).mono ?_
  rintro e w' ⟨v, R, rfl, hE, hb, hA⟩
  obtain ⟨a', c', rfl, hg⟩ := got_of (h.quiet (Turns.of_below hb _)) hE (rbet_in hA)
  exact ⟨a', _, c', R, rfl, hg, hA, hb⟩
theorem betR_any (a : Option Addr) (n c : Nat) (rs : List Rw) (fa ta : Option Addr) (fn fc tn tc : Nat) (fk tk : Ky) (seq : Nat) (m : Int) (w : World) (h : RowsIn w a rs) (hn : n = rs.length) (hf : Few rs) (hfk : Bytes w (.slice fa fn fc) fk) (htk : Bytes w (.slice ta tn tc) tk) (hfn : fn ≤ 15000) (htn : tn ≤ 15000) :
    Calls Try.prog 18 #[.slice a n c, .slice fa fn fc, .slice ta tn tc, .int .u64 (seq : Nat), .int .i64 m] w fun e w' => ∃ a' n' c' R, e = .returned (.tuple #[.slice a' n' c', .int .i64 (ordE (eachOrd rs))]) ∧ Got2 w' (.slice a' n' c') R ∧ RBetOk rs fk tk seq m R ∧ Below w.heap.size w w' := by
  refine (rBetween_any a n c rs fa ta fn fc tn tc fk tk seq m w h hn hf hfk htk hfn htn).mono ?_
  rintro e w' ⟨v, R, rfl, hE, hb, hA⟩
  obtain ⟨a', c', rfl, hg⟩ := got_of (h.quiet (Turns.of_below hb _)) hE (rbet_in hA)
  exact ⟨a', _, c', R, rfl, hg, hA, hb⟩
/-- The same entries are found the same. -/
theorem sameC_any (a a' : Option Addr) (n n' c c' : Nat) (R R' : List Tow) (rs : List Rw) (w : World) (h : Got2 w (.slice a n c) R) (h' : Got2 w (.slice a' n' c') R') (he : ents R = ents R') (hi : InRs rs R') (hf : Few rs) (hl : R'.length ≤ 150) :
    Calls Try.prog 19 #[.slice a n c, .slice a' n' c'] w fun e w' => e = .returned (.bool true) ∧ Below w.heap.size w w' := by
  obtain ⟨_, _, e1, g1⟩ := h
  obtain ⟨_, _, e2, g2⟩ := h'
  cases e1
  cases e2
  have hll : R.length = R'.length := by have := congrArg List.length he; simpa [ents] using this
  refine (entriesEq_any a a' _ _ c c' R R' w g1 g2 rfl rfl (by omega) (fun x hx => ?_)).mono ?_
  · have hm : x.e ∈ ents R' := by rw [← he]; exact List.mem_map.2 ⟨x, hx, rfl⟩
    obtain ⟨z, hz, e⟩ := List.mem_map.1 hm
    obtain ⟨r, hr, hzr⟩ := List.mem_flatMap.1 (hi z hz)
    have := (hf.each r hr).2 z hzr
    rw [← e]
    omega
  · rintro e w' ⟨⟨d, rfl, hd⟩, hb⟩
    rw [hd.2 he]
    exact ⟨rfl, hb⟩
theorem rall_len {rs : List Rw} {R : List Tow} (h : RAllOk rs R) (hf : Few rs) : R.length ≤ 150 := by
  rcases h with ⟨_, _, hl⟩ | ⟨_, rfl⟩
  · have := hf.all; omega
  · simp
theorem rbet_len {rs : List Rw} {fk tk : Ky} {seq : Nat} {m : Int} {R : List Tow} (h : RBetOk rs fk tk seq m R) : R.length ≤ 150 := by
  rcases h with ⟨_, xs, _, hl, _, he⟩ | ⟨_, rfl⟩
  · have h1 := congrArg List.length he
    have h2 := List.length_filter_le (pick18 seq (xs.map (·.e)) fk tk) (xs.map (·.e))
    rw [List.length_map, List.length_take] at h1
    rw [List.length_map] at h2
    omega
  · simp
end Go.Proofs.Ytjnpendihdlgnaa

/-
  MergeCalls: the whole of the law.
-/
namespace Go.Proofs.Ytjnpendihdlgnaa
open Go.RowKit
set_option maxRecDepth 100000
set_option maxHeartbeats 8000000
/-- All that is carried along while the law calls. -/
structure Carry (w : World) (a : Option Addr) (rs : List Rw) (fa ta : Option Addr) (fn fc tn tc : Nat) (fk tk : Ky) : Prop where
  rows : RowsIn w a rs
  fb : Bytes w (.slice fa fn fc) fk
  tb : Bytes w (.slice ta tn tc) tk
theorem Carry.quiet {w w' : World} {a : Option Addr} {rs : List Rw} {fa ta : Option Addr} {fn fc tn tc : Nat} {fk tk : Ky} (h : Carry w a rs fa ta fn fc tn tc fk tk) (t : Turns (fun _ => False) w w') : Carry w' a rs fa ta fn fc tn tc fk tk := ⟨h.rows.quiet t, h.fb.quiet t, h.tb.quiet t⟩
theorem neq29 (q : Int) (w : World) : (binOp .neq 29 (.int .i64 q) (.int .i64 q)).run Try.prog w = .ok (.bool false) w := by
  have : (binOp .neq 29 (.int .i64 q) (.int .i64 q)).run Try.prog w = .ok (.bool (!(q == q))) w := by kernel_rfl
  rw [this]
  simp
theorem calls_any (a : Option Addr) (n c : Nat) (rs : List Rw) (fa ta : Option Addr) (fn fc tn tc : Nat) (fk tk : Ky) (seq : Nat) (N : Int) (w : World) (h : RowsOf w a rs) (hn : n = rs.length) (hmx : n ≤ reachBytes) (hf : Bytes w (.slice fa fn fc) fk) (ht : Bytes w (.slice ta tn tc) tk) (hfn : fn ≤ reachBytes) (htn : tn ≤ reachBytes) :
    Calls Try.prog 4 #[.slice a n c, .slice fa fn fc, .slice ta tn tc, .int .u64 (seq : Nat), .int .i64 N] w fun e w' => e = .returned (.bool true) ∧ Below w.heap.size w w' := by
  have H0 := hide h
  have HN := hide hn
  have HMX := hide hmx
  have HFB := hide hf
  have HTB := hide ht
  unfold reachBytes at hfn htn
  have hfi : (fn : Int) ≤ 140737488355328 := by omega
  have hti : (tn : Int) ≤ 140737488355328 := by omega
  clear h hn hmx hf ht
  go_enter Try.func4, Try.ntmps4
  go_wp2_with fail
  refine (lives_any w).mono ?_
  rintro e w1 ⟨rfl, b1⟩
  have T1 := hide (Turns.of_below b1 (fun _ => False))
  have SM := hide (small_any a n c rs w1 (fun k x hx => ⟨by obtain ⟨b, off, e, hc⟩ := (H0.out k x hx).1; exact ⟨b, off, e, T1.out.cell hc (fun x => x)⟩, ⟨(H0.out k x hx).2.ents.quiet T1.out, (H0.out k x hx).2.cap, (H0.out k x hx).2.reach, (H0.out k x hx).2.fit, (H0.out k x hx).2.nil⟩⟩) HN.out HMX.out)
  clear b1
  go_wp2_with fail
  refine SM.out.mono ?_
  rintro e w2 ⟨⟨d, rfl, hd⟩, t2⟩
  have T2 := hide (T1.out.trans t2)
  clear t2 SM T1
  cases d with
  | false =>
    clear hd
    go_wp2_with fail
    go_ret
    exact ⟨rfl, T2.out.below (Nat.le_refl _) (fun _ x => x.elim)⟩
  | true =>
    by_cases hbig : (15000 : Int) < (fn : Int) + (tn : Int)
    · clear hd
      go_wp2_with fail
      go_ret
      exact ⟨rfl, T2.out.below (Nat.le_refl _) (fun _ x => x.elim)⟩
    · have FEW := hide (show Few rs from ⟨(hd rfl).1, (hd rfl).2.1, (hd rfl).2.2⟩)
      have CA := hide (show Carry w2 a rs fa ta fn fc tn tc fk tk from (⟨few_rows H0.out FEW.out, HFB.out, HTB.out⟩ : Carry w a rs fa ta fn fc tn tc fk tk).quiet T2.out)
      have hf2 : fn ≤ 15000 := by omega
      have ht2 : tn ≤ 15000 := by omega
      have hni : (n : Int) ≤ 20 := by have := FEW.out.rows; have := HN.out; omega
      have QN := hide neq29
      clear hd hfn htn hfi hti
      generalize hoq : ordE (eachOrd rs) = oq at *
      have HOQ := hide hoq
      clear hoq
      go_wp2_with fail
      refine (copy_any a n c rs w2 CA.out.rows HN.out FEW.out).mono ?_
      rintro e w3 ⟨a3, n3, c3, p3, rfl, hc3, b3⟩
      have t3 := Turns.of_below b3 (fun _ => False)
      have CA3 := hide (CA.out.quiet t3)
      have CO3 := hide hc3
      have T3 := hide (T2.out.trans t3)
      clear b3 t3 hc3 CA T2
      go_wp2_with fail
      refine (allC_any a3 n3 c3 p3 rs w3 CO3.out).mono ?_
      rintro e w4 ⟨a4, n4, c4, R4, rfl, hg4, ho4, b4⟩
      rw [HOQ.out]
      have t4 := Turns.of_below b4 (fun _ => False)
      have CA4 := hide (CA3.out.quiet t4)
      have G4 := hide hg4
      have O4 := hide ho4
      have T4 := hide (T3.out.trans t4)
      clear b4 t4 hg4 ho4 T3
      go_wp2_with fail
      refine (allR_any a n c rs w4 CA4.out.rows HN.out FEW.out).mono ?_
      rintro e w5 ⟨a5, n5, c5, R5, rfl, hg5, ho5, b5⟩
      rw [HOQ.out]
      have t5 := Turns.of_below b5 (fun _ => False)
      have CA5 := hide (CA4.out.quiet t5)
      have G4b := hide (G4.out.quiet t5)
      have G5 := hide hg5
      obtain ⟨p3a, p3c, p3e, p3r⟩ := CO3.out.ex
      have E5 := hide (all_both p3r CA4.out.rows CO3.out.ent O4.out ho5)
      have I5 := hide (rall_in ho5)
      have L5 := hide (rall_len ho5 FEW.out)
      have T5 := hide (T4.out.trans t5)
      clear b5 t5 hg5 ho5 T4 G4 O4 CO3 p3r p3e CA4 CA3
      go_wp2_with fail
      refine (copy_any a n c rs w5 CA5.out.rows HN.out FEW.out).mono ?_
      rintro e w6 ⟨a6, n6, c6, p6, rfl, hc6, b6⟩
      have t6 := Turns.of_below b6 (fun _ => False)
      have CA6 := hide (CA5.out.quiet t6)
      have CO6 := hide hc6
      have G4c := hide (G4b.out.quiet t6)
      have G5c := hide (G5.out.quiet t6)
      have T6 := hide (T5.out.trans t6)
      clear b6 t6 hc6 CA5 T5 G4b G5
      go_wp2_with fail
      refine (seenC_any a6 n6 c6 p6 rs seq w6 CO6.out).mono ?_
      rintro e w7 ⟨a7, n7, c7, R7, rfl, hg7, ho7, b7⟩
      rw [HOQ.out]
      have t7 := Turns.of_below b7 (fun _ => False)
      have CA7 := hide (CA6.out.quiet t7)
      have G4d := hide (G4c.out.quiet t7)
      have G5d := hide (G5c.out.quiet t7)
      have G7 := hide hg7
      have O7 := hide ho7
      have T7 := hide (T6.out.trans t7)
      clear b7 t7 hg7 ho7 T6 G4c G5c
      go_wp2_with fail
      refine (seenR_any a n c rs seq w7 CA7.out.rows HN.out FEW.out).mono ?_
      rintro e w8 ⟨a8, n8, c8, R8, rfl, hg8, ho8, b8⟩
      rw [HOQ.out]
      have t8 := Turns.of_below b8 (fun _ => False)
      have CA8 := hide (CA7.out.quiet t8)
      have G4e := hide (G4d.out.quiet t8)
      have G5e := hide (G5d.out.quiet t8)
      have G7e := hide (G7.out.quiet t8)
      have G8 := hide hg8
      obtain ⟨p6a, p6c, p6e, p6r⟩ := CO6.out.ex
      have E8 := hide (between_both p6r CA7.out.rows CO6.out.ent O7.out ho8 (.inr ⟨by omega, by omega⟩))
      have I8 := hide (rbet_in ho8)
      have L8 := hide (rbet_len ho8)
      have T8 := hide (T7.out.trans t8)
      clear b8 t8 hg8 ho8 T7 G4d G5d G7 O7 CO6 p6r p6e CA7 CA6
      go_wp2_with fail
      refine (copy_any a n c rs w8 CA8.out.rows HN.out FEW.out).mono ?_
      rintro e w9 ⟨a9, n9, c9, p9, rfl, hc9, b9⟩
      have t9 := Turns.of_below b9 (fun _ => False)
      have CA9 := hide (CA8.out.quiet t9)
      have CO9 := hide hc9
      have G4f := hide (G4e.out.quiet t9)
      have G5f := hide (G5e.out.quiet t9)
      have G7f := hide (G7e.out.quiet t9)
      have G8f := hide (G8.out.quiet t9)
      have T9 := hide (T8.out.trans t9)
      clear b9 t9 hc9 CA8 T8 G4e G5e G7e G8
      go_wp2_with fail
      refine (betC_any a9 n9 c9 p9 rs fa ta fn fc tn tc fk tk seq N w9 CO9.out CA9.out.fb CA9.out.tb).mono ?_
      rintro e wa ⟨aa, na, ca, Ra, rfl, hga, hoa, ba⟩
      rw [HOQ.out]
      have ta' := Turns.of_below ba (fun _ => False)
      have CAa := hide (CA9.out.quiet ta')
      have G4g := hide (G4f.out.quiet ta')
      have G5g := hide (G5f.out.quiet ta')
      have G7g := hide (G7f.out.quiet ta')
      have G8g := hide (G8f.out.quiet ta')
      have Ga := hide hga
      have Oa := hide hoa
      have Ta := hide (T9.out.trans ta')
      clear ba ta' hga hoa T9 G4f G5f G7f G8f
      go_wp2_with fail
      refine (betR_any a n c rs fa ta fn fc tn tc fk tk seq N wa CAa.out.rows HN.out FEW.out CAa.out.fb CAa.out.tb hf2 ht2).mono ?_
      rintro e wb ⟨ab, nb, cb, Rb, rfl, hgb, hob, bb⟩
      rw [HOQ.out]
      have tb' := Turns.of_below bb (fun _ => False)
      have CAb := hide (CAa.out.quiet tb')
      have G4h := hide (G4g.out.quiet tb')
      have G5h := hide (G5g.out.quiet tb')
      have G7h := hide (G7g.out.quiet tb')
      have G8h := hide (G8g.out.quiet tb')
      have Gah := hide (Ga.out.quiet tb')
      have Gb := hide hgb
      obtain ⟨p9a, p9c, p9e, p9r⟩ := CO9.out.ex
      have Eb := hide (between_both p9r CAa.out.rows CO9.out.ent Oa.out hob (.inl rfl))
      have Ib := hide (rbet_in hob)
      have Lb := hide (rbet_len hob)
      have Tb := hide (Ta.out.trans tb')
      clear bb tb' hgb hob Ta G4g G5g G7g G8g Ga Oa CO9 p9r p9e CAa CA9
      have qn := QN.out oq
      go_wp2_with fail
      refine (sameC_any a4 a5 n4 n5 c4 c5 R4 R5 rs wb G4h.out G5h.out E5.out I5.out FEW.out L5.out).mono ?_
      rintro e wc ⟨rfl, bc⟩
      have tc' := Turns.of_below bc (fun _ => False)
      have CAc := hide (CAb.out.quiet tc')
      have G7i := hide (G7h.out.quiet tc')
      have G8i := hide (G8h.out.quiet tc')
      have Gai := hide (Gah.out.quiet tc')
      have Gbi := hide (Gb.out.quiet tc')
      have Tc := hide (Tb.out.trans tc')
      clear bc tc' CAb Tb G4h G5h G7h G8h Gah Gb E5 I5 L5
      go_wp2_with fail
      refine (sameC_any a7 a8 n7 n8 c7 c8 R7 R8 rs wc G7i.out G8i.out E8.out I8.out FEW.out L8.out).mono ?_
      rintro e wd ⟨rfl, bd⟩
      have td' := Turns.of_below bd (fun _ => False)
      have CAd := hide (CAc.out.quiet td')
      have Gaj := hide (Gai.out.quiet td')
      have Gbj := hide (Gbi.out.quiet td')
      have Td := hide (Tc.out.trans td')
      clear bd td' CAc Tc G7i G8i Gai Gbi E8 I8 L8
      go_wp2_with fail
      refine (sameC_any aa ab na nb ca cb Ra Rb rs wd Gaj.out Gbj.out Eb.out Ib.out FEW.out Lb.out).mono ?_
      rintro e we ⟨rfl, be⟩
      have te' := Turns.of_below be (fun _ => False)
      have CAe := hide (CAd.out.quiet te')
      have Te := hide (Td.out.trans te')
      clear be te' CAd Td Gaj Gbj Eb Ib Lb
      go_wp2_with fail
      go_loopw [23] (fun v wr => ∃ i : Nat, v = .int .i64 (i : Nat) ∧ i ≤ n ∧ Turns (fun _ => False) we wr) (fun v _ => n - (intOf v).toNat)
      case atStart => exact ⟨0, rfl, Nat.zero_le _, Turns.refl _ _⟩
      case round =>
        obtain ⟨i, rfl, hi, htr⟩ := hrel
        have TR := hide htr
        clear htr
        by_cases hin : i < n
        · obtain ⟨x, hx⟩ : ∃ x, rs[i]? = some x := ⟨_, List.getElem?_eq_getElem (by have := HN.out; omega)⟩
          obtain ⟨⟨b, off, rfl, hc⟩, hok⟩ := (CAe.out.rows.quiet TR.out) i x hx
          have i1 : (i : Int) < n := by omega
          have i0 : (0 : Int) ≤ i := by omega
          have hfe := FEW.out.each x (List.mem_of_getElem? hx)
          have CK := hide (fun (u : World) (t : Turns (fun _ => False) wr u) => check_any x.a x.R.length x.c x.R u (hok.ents.quiet t) rfl (by omega))
          have RK := hide (fun (u : World) (t : Turns (fun _ => False) wr u) => rCheck_any x.a x.R.length x.c x.R u (hok.ents.quiet t) rfl (by omega) (fun y hy => by have := hfe.2 y hy; omega))
          have SK := hide (fun (u : World) (t : Turns (fun _ => False) wr u) => show u.cell? ⟨b, off + i, none⟩ = some (.slice x.a x.R.length x.c) from t.cell hc (fun x => x))
          clear hc hok hfe hx
          obtain ⟨xa, xc, xR⟩ := x
          simp only at *
          generalize ordE (inOrd (ents xR)) = q at *
          have qq := QN.out q
          generalize xR.length = xl at *
          go_upto_region 16 with (fail)
          have tV : Turns (fun _ => False) wr wr.drew := (Turns.refl _ _).drew
          refine wp_region_held_drew (S := fun u => u.cell? ⟨b, off + i, none⟩ = some (.slice xa xl xc)) (by kernel_rfl) (SK.out _ tV) (fun _ => ?_)
          change wpAnyH _ _ _ _ _ 11 (Array.replicate 11 false) _ _
          refine wpAnyH_take (i := 0) (oi := { dst := some 117, op := Op.move (Operand.tmp 0), type := 28, pos := "law.go:78", after := #[], guard := none }) (v := .slice (some ⟨b, off, none⟩) n c) rfl (by kernel_rfl) (by kernel_rfl) (by kernel_rfl) (fun _ _ _ h => h) (Or.inl ⟨by rfl, ?_⟩) (SK.out _ tV) ?_
          · rintro w d0
            go_simp
          simp only [Act.put, List.setIfInBounds_toArray, List.set_cons_zero, List.set_cons_succ]
          refine wpAnyH_take (i := 1) (oi := { dst := some 118, op := Op.move (Operand.tmp 23), type := 3, pos := "law.go:78", after := #[], guard := none }) (v := .int .i64 (i : Nat)) rfl (by kernel_rfl) (by kernel_rfl) (by kernel_rfl) (fun _ _ _ h => h) (Or.inl ⟨by rfl, ?_⟩) (SK.out _ tV) ?_
          · rintro w d0
            go_simp
          simp only [Act.put, List.setIfInBounds_toArray, List.set_cons_zero, List.set_cons_succ]
          refine wpAnyH_take (i := 2) (oi := { dst := some 119, op := Op.indexAddr 28 (Operand.tmp 117) (Operand.tmp 118), type := 0, pos := "law.go:78", after := #[{ on := 0, ground := Ground.data }, { on := 1, ground := Ground.data }], guard := none }) (v := .pointer (some ⟨b, off + i, none⟩)) rfl (by kernel_rfl) (by kernel_rfl) (by kernel_rfl) (fun _ _ _ h => h) (Or.inl ⟨by rfl, ?_⟩) (SK.out _ tV) ?_
          · rintro w d0
            go_simp
          simp only [Act.put, List.setIfInBounds_toArray, List.set_cons_zero, List.set_cons_succ]
          refine wpAnyH_take (i := 3) (oi := { dst := some 120, op := Op.load 27 (Operand.tmp 119), type := 27, pos := "law.go:78", after := #[{ on := 2, ground := Ground.data }], guard := none }) (v := .slice xa xl xc) rfl (by kernel_rfl) (by kernel_rfl) (by kernel_rfl) (fun _ _ _ h => h) (Or.inl ⟨by rfl, ?_⟩) (SK.out _ tV) ?_
          · rintro w d0
            go_simp
          simp only [Act.put, List.setIfInBounds_toArray, List.set_cons_zero, List.set_cons_succ]
          refine wpAnyH_take (i := 5) (oi := { dst := some 122, op := Op.move (Operand.tmp 0), type := 28, pos := "law.go:78", after := #[], guard := none }) (v := .slice (some ⟨b, off, none⟩) n c) rfl (by kernel_rfl) (by kernel_rfl) (by kernel_rfl) (fun _ _ _ h => h) (Or.inl ⟨by rfl, ?_⟩) (SK.out _ tV) ?_
          · rintro w d0
            go_simp
          simp only [Act.put, List.setIfInBounds_toArray, List.set_cons_zero, List.set_cons_succ]
          refine wpAnyH_take (i := 6) (oi := { dst := some 123, op := Op.move (Operand.tmp 23), type := 3, pos := "law.go:78", after := #[], guard := none }) (v := .int .i64 (i : Nat)) rfl (by kernel_rfl) (by kernel_rfl) (by kernel_rfl) (fun _ _ _ h => h) (Or.inl ⟨by rfl, ?_⟩) (SK.out _ tV) ?_
          · rintro w d0
            go_simp
          simp only [Act.put, List.setIfInBounds_toArray, List.set_cons_zero, List.set_cons_succ]
          refine wpAnyH_take (i := 7) (oi := { dst := some 124, op := Op.indexAddr 28 (Operand.tmp 122) (Operand.tmp 123), type := 0, pos := "law.go:78", after := #[{ on := 5, ground := Ground.data }, { on := 6, ground := Ground.data }], guard := none }) (v := .pointer (some ⟨b, off + i, none⟩)) rfl (by kernel_rfl) (by kernel_rfl) (by kernel_rfl) (fun _ _ _ h => h) (Or.inl ⟨by rfl, ?_⟩) (SK.out _ tV) ?_
          · rintro w d0
            go_simp
          simp only [Act.put, List.setIfInBounds_toArray, List.set_cons_zero, List.set_cons_succ]
          refine wpAnyH_take (i := 8) (oi := { dst := some 125, op := Op.load 27 (Operand.tmp 124), type := 27, pos := "law.go:78", after := #[{ on := 7, ground := Ground.data }], guard := none }) (v := .slice xa xl xc) rfl (by kernel_rfl) (by kernel_rfl) (by kernel_rfl) (fun _ _ _ h => h) (Or.inl ⟨by rfl, ?_⟩) (SK.out _ tV) ?_
          · rintro w d0
            go_simp
          simp only [Act.put, List.setIfInBounds_toArray, List.set_cons_zero, List.set_cons_succ]
          refine wpAnyH_ready (rs := [4]) (by kernel_rfl) (by simp) ?_
          refine AllReadyH.cons rfl (fun K hK => ?_) AllReadyH.nil
          go_simp
          refine (CK.out _ tV).mono ?_
          rintro oo Vn ⟨rfl, b2⟩
          have tN := Turns.of_below b2 (fun _ => False)
          have tV := tV.trans tN
          clear b2 CK
          clear tN
          go_simp
          refine hK.out _ _ (SK.out _ tV) (fun _ => ?_)
          clear hK K
          refine wpAnyH_ready (rs := [9]) (by kernel_rfl) (by simp) ?_
          refine AllReadyH.cons rfl (fun K hK => ?_) AllReadyH.nil
          go_simp
          refine (RK.out _ tV).mono ?_
          rintro oo Vn ⟨rfl, b2⟩
          have tN := Turns.of_below b2 (fun _ => False)
          have tV := tV.trans tN
          clear b2 RK
          clear tN
          go_simp
          refine hK.out _ _ (SK.out _ tV) (fun _ => ?_)
          clear hK K
          refine wpAnyH_take (i := 10) (oi := { dst := some 127, op := Op.binOp BinOp.neq 29 (Operand.tmp 121) (Operand.tmp 126) 29, type := 4, pos := "law.go:78", after := #[{ on := 4, ground := Ground.data }, { on := 9, ground := Ground.data }], guard := none }) (v := .bool false) rfl (by kernel_rfl) (by kernel_rfl) (by kernel_rfl) (fun _ _ _ h => h) (Or.inl ⟨by rfl, ?_⟩) (SK.out _ tV) ?_
          · rintro w d0
            go_simp
          simp only [Act.put, List.setIfInBounds_toArray, List.set_cons_zero, List.set_cons_succ]
          refine wpAnyH_done (by kernel_rfl) ?_ _
          have TV := hide tV
          clear tV
          go_wp2_with fail
          go_roundw
          case rel => exact ⟨i + 1, by go_num, by omega, TR.out.trans TV.out⟩
          case measure => simp [intOf]; omega
        · have i1 : ¬ (i : Int) < n := by omega
          go_wp2_with fail
          go_ret
          exact ⟨rfl, (Te.out.trans TR.out).below (Nat.le_refl _) (fun _ x => x.elim)⟩
end Go.Proofs.Ytjnpendihdlgnaa

/-
  What loop 1 of MergeSeen leaves: four rows in memory, few; what is seen of them, and what merging merged rows comes to.
-/
namespace Go.Proofs.Ytjnpendihdlgnaa
open Go.RowKit
set_option maxRecDepth 100000
set_option maxHeartbeats 1000000
theorem sum_sub {α : Type} (f : α → Nat) : ∀ {xs ys : List α}, xs.Nodup → (∀ x, x ∈ xs → x ∈ ys) → (xs.map f).sum ≤ (ys.map f).sum
  | [], ys, _, _ => by simp
  | x :: xs, ys, hn, hs => by
    obtain ⟨h1, h2⟩ := List.nodup_cons.1 hn
    obtain ⟨s, t, rfl⟩ := List.append_of_mem (hs x (by simp))
    have ih := sum_sub f (ys := s ++ t) h2 fun y hy => by
      have h3 := hs y (List.mem_cons_of_mem _ hy)
      rcases List.mem_append.1 h3 with h4 | h4
      · exact List.mem_append_left _ h4
      · rcases List.mem_cons.1 h4 with rfl | h5
        · exact absurd hy h1
        · exact List.mem_append_right _ h5
    simp only [List.map_append, List.sum_append, List.map_cons, List.sum_cons] at ih ⊢
    omega
theorem nodup_rise {R : List Tow} (h : R.Pairwise ltT) : R.Nodup := h.imp fun {a b} hl e => by
  subst e
  unfold ltT at hl
  have := (cmpE_zero a.e.en a.e.en).2 ⟨rfl, rfl⟩
  omega
theorem sum_flat {α : Type} (f : α → Nat) : ∀ L : List (List α), (L.flatten.map f).sum = (L.map fun r => (r.map f).sum).sum
  | [] => rfl
  | r :: L => by
    rw [List.flatten_cons, List.map_append, List.sum_append, sum_flat f L, List.map_cons, List.sum_cons]
theorem Dealt.flat {Q : List Tow} {rows : List (List Tow)} (h : Dealt Q rows) : rows.flatten.Nodup := by
  refine List.pairwise_flatten.2 ⟨fun r hr => nodup_rise (h.each r hr), List.pairwise_iff_getElem.2 fun i j hi hj hij x hx y hy e => ?_⟩
  subst e
  exact h.apart i j _ _ (List.getElem?_eq_getElem hi) (List.getElem?_eq_getElem hj) (by omega) x hx hy
theorem weigh_sum : ∀ l : List Tow, weigh l = (l.map fun x => x.e.key.length + x.e.val.length).sum
  | [] => rfl
  | x :: r => by simp [weigh, weigh_sum r]
theorem len_sum {α : Type} : ∀ l : List α, l.length = (l.map fun _ => 1).sum
  | [] => rfl
  | x :: r => by
    rw [List.map_cons, List.sum_cons, ← len_sum r, List.length_cons, Nat.add_comm]
theorem few_of {Q l : List Tow} {rows : List (List Tow)} {rs : List Rw} (hd : Dealt Q rows) (hs : ∀ x, x ∈ Q → x ∈ l) (hl : l.length ≤ 150) (hw : weigh l ≤ 15000) (hr : rs.map (·.R) = rows) (hn : rs.length ≤ 20) : Few rs := by
  have sub : ∀ x, x ∈ rows.flatten → x ∈ l := fun x hx => by
    obtain ⟨r, h1, h2⟩ := List.mem_flatten.1 hx
    exact hs x (hd.sub r h1 x h2)
  have h1 := sum_sub (fun _ : Tow => 1) hd.flat sub
  have h2 := sum_sub (fun x : Tow => x.e.key.length + x.e.val.length) hd.flat sub
  rw [sum_flat, ← len_sum] at h1
  rw [sum_flat, ← weigh_sum] at h2
  subst hr
  refine ⟨hn, ?_, ?_⟩
  · have e : sumR rs = ((rs.map (·.R)).map fun r => (r.map fun _ => 1).sum).sum := by
      rw [List.map_map]; exact congrArg List.sum (List.map_congr_left fun x _ => len_sum x.R)
    omega
  · have e : wAll rs = ((rs.map (·.R)).map fun r => (r.map fun x => x.e.key.length + x.e.val.length).sum).sum := by
      rw [List.map_map]; exact congrArg List.sum (List.map_congr_left fun x _ => weigh_sum x.R)
    omega
theorem Few.part {L1 L2 : List Rw} (h : Few (L1 ++ L2)) : Few L1 ∧ Few L2 := by
  have h1 := h.rows
  have h2 := h.all
  have h3 := h.bytes
  unfold sumR at h2
  unfold wAll at h3
  simp only [List.length_append, List.map_append, List.sum_append] at h1 h2 h3
  exact ⟨⟨by omega, by unfold sumR; omega, by unfold wAll; omega⟩, ⟨by omega, by unfold sumR; omega, by unfold wAll; omega⟩⟩
theorem RowsIn.part {w : World} {b off : Nat} {L1 L2 : List Rw} (h : RowsIn w (some ⟨b, off, none⟩) (L1 ++ L2)) : RowsIn w (some ⟨b, off, none⟩) L1 ∧ RowsIn w (some ⟨b, off + L1.length, none⟩) L2 := by
  refine ⟨fun k x hx => h k x (by rw [List.getElem?_append_left (List.getElem?_eq_some_iff.1 hx).1]; exact hx), fun k x hx => ?_⟩
  obtain ⟨⟨b', off', e, hc⟩, ho⟩ := h (L1.length + k) x (by rw [List.getElem?_append_right (by omega), Nat.add_sub_cancel_left]; exact hx)
  cases e
  exact ⟨⟨b, off + L1.length, rfl, by rw [Nat.add_assoc]; exact hc⟩, ho⟩
/-- The four rows, as they lie there. -/
theorem Dm.rows4 {w wr : World} {l : List Tow} {gp : Nat} {av : Value} {Q : List Tow} {rows : List (List Tow)} (h : Dm w wr l gp av Q rows) (hb : ∀ x, x ∈ l → Bytes wr x.kv x.e.key ∧ Bytes wr x.vv x.e.val) (hl : Q.length ≤ 150) :
    ∃ x0 x1 x2 x3 : Rw, rows = [x0.R, x1.R, x2.R, x3.R] ∧ RowsIn wr (some ⟨gp, 0, none⟩) [x0, x1, x2, x3] := by
  obtain ⟨cs, k1, k2, k3⟩ := h.blk
  have one : ∀ (k : Nat) (r : List Tow), rows[k]? = some r → ∃ x : Rw, x.R = r ∧ wr.cell? ⟨gp, 0 + k, none⟩ = some (.slice x.a x.R.length x.c) ∧ RwOk wr x := fun k r hr => by
    obtain ⟨v, hv, hE, _⟩ := k3 k r hr
    have hm := List.mem_of_getElem? hr
    obtain ⟨a, c, rfl, h1, h2, _⟩ := ents_row hE fun y hy => hb y (h.sub y (h.dealt.sub r hm y hy))
    have hlen : r.length ≤ Q.length := by
      have := sum_sub (fun _ : Tow => 1) (nodup_rise (h.dealt.each r hm)) (h.dealt.sub r hm)
      rw [← len_sum, ← len_sum] at this
      exact this
    exact ⟨⟨a, c, r⟩, rfl, by rw [Nat.zero_add, cell_of_row wr gp k _ 27 (0, 0) k1]; exact hv, ⟨h1, h2, by show r.length ≤ 1000000; omega⟩⟩
  obtain ⟨r0, r1, r2, r3, rfl⟩ : ∃ r0 r1 r2 r3, rows = [r0, r1, r2, r3] := by
    have h4 := h.four
    match rows, h4 with
    | [r0, r1, r2, r3], _ => exact ⟨r0, r1, r2, r3, rfl⟩
  obtain ⟨x0, rfl, p0, q0⟩ := one 0 r0 rfl
  obtain ⟨x1, rfl, p1, q1⟩ := one 1 _ rfl
  obtain ⟨x2, rfl, p2, q2⟩ := one 2 _ rfl
  obtain ⟨x3, rfl, p3, q3⟩ := one 3 _ rfl
  refine ⟨x0, x1, x2, x3, rfl, fun k x hx => ?_⟩
  match k, hx with
  | 0, hx => cases hx; exact ⟨⟨gp, 0, rfl, p0⟩, q0⟩
  | 1, hx => cases hx; exact ⟨⟨gp, 0, rfl, p1⟩, q1⟩
  | 2, hx => cases hx; exact ⟨⟨gp, 0, rfl, p2⟩, q2⟩
  | 3, hx => cases hx; exact ⟨⟨gp, 0, rfl, p3⟩, q3⟩
  | k + 4, hx => simp at hx
theorem Dealt.ords {Q : List Tow} {rs : List Rw} (h : Dealt Q (rs.map (·.R))) : eachOrd rs = true := List.all_eq_true.2 fun x hx => ord_of_pairwise (h.each x.R (List.mem_map.2 ⟨x, hx, rfl⟩))
theorem entR_rows (rs : List Rw) : entR rs = (rs.map (·.R)).map fun r => r.map (·.e) := by unfold entR; rw [List.map_map]; rfl
theorem ents_up {rs : List Rw} (h : eachOrd rs = true) : ∀ r, r ∈ entR rs → r.Pairwise ltE := entR_up h
theorem cmpB_nil (x : Ky) : 0 ≤ cmpB x [] := by
  cases x with
  | nil => exact Int.le_of_eq ((cmpB_zero [] []).2 rfl).symm
  | cons a l => have : cmpB (a :: l) [] = 1 := rfl; omega
/-- What Seen answers of rows that were dealt out. -/
theorem seen_dealt {w : World} {a : Option Addr} {Q R : List Tow} {ps rs : List Rw} {seq : Nat} (hp : RowsIn w a ps) (he : entR ps = entR rs) (hd : Dealt Q (rs.map (·.R))) (hl : Q.length ≤ 150) (h : BetweenOk ps [] [] seq 9223372036854775807 R) :
    R.map (·.e) = (Q.map (·.e)).filter (newest seq (Q.map (·.e))) := by
  have ho : eachOrd ps = true := by rw [ord_both he]; exact hd.ords
  rcases h with ⟨_, xs, hx, e⟩ | ⟨h1, _⟩
  · have h1 := hx.ents hp
    rw [he] at h1
    have h2 := hd.merged
    rw [← entR_rows] at h2
    have e2 : xs.map (·.e) = Q.map (·.e) := MgE.uniq (entR_up hd.ords) h1 h2
    have e3 : xs.filter (rng [] []) = xs := List.filter_eq_self.2 fun x _ => by
      rw [rng_E]; unfold rngE; simp [cmpB_nil]
    rw [e, e3, e2, seen_filter seq _ (rise_map hd.rise)]
    refine List.take_of_length_le ?_
    have := List.length_filter_le (newest seq (Q.map (·.e))) (Q.map (·.e))
    rw [List.length_map] at this
    omega
  · rw [ho] at h1; cases h1
/-- What All answers of a part of the rows. -/
theorem all_part {w : World} {a : Option Addr} {R : List Tow} {ps rs : List Rw} (hp : RowsIn w a ps) (he : entR ps = entR rs) (ho : eachOrd rs = true) (hf : Few rs) (h : AllOk ps R) :
    MgE (entR rs) (R.map (·.e)) ∧ R.Pairwise ltT ∧ R.length ≤ 150 ∧ ∀ x, x ∈ R → x.e.key.length ≤ 15000 ∧ x.e.val.length ≤ 15000 := by
  rcases h with ⟨_, xs, hx, e⟩ | ⟨h1, _⟩
  · have h1 := hx.ents hp
    rw [he] at h1
    have hlen : R.length = xs.length := by have := congrArg List.length e; simpa using this
    refine ⟨by rw [e]; exact h1, ?_, ?_, fun x hxm => ?_⟩
    · have : (R.map (·.e)).Pairwise ltE := by rw [e]; exact h1.rise
      exact (List.pairwise_map (f := fun x : Tow => x.e) (R := ltE)).1 this
    · have h2 := sum_sub (fun _ : Tow => 1) (nodup_rise hx.rise) (ys := allOf ps) fun x hxm => mg_from hx hxm
      rw [← len_sum, ← len_sum] at h2
      have h3 : (allOf ps).length = sumR ps := by unfold allOf sumR; rw [List.length_flatMap]
      have h4 : sumR ps = sumR rs := by rw [entR_sum, he, ← entR_sum]
      have := hf.all
      omega
    · obtain ⟨i, r, h2, h3, _⟩ := h1.of x.e (by rw [← e]; exact List.mem_map.2 ⟨x, hxm, rfl⟩)
      obtain ⟨y, hy, rfl⟩ := entR_at h2
      obtain ⟨z, hz, ez⟩ := List.mem_map.1 h3
      have := (hf.each y (List.mem_of_getElem? hy)).2 z hz
      rw [ez] at this
      exact this
  · rw [ord_both he, ho] at h1; cases h1
theorem good_two {ra rb : Rw} (h1 : ra.R.length ≤ 150) (h2 : rb.R.length ≤ 150) (h3 : ∀ x, x ∈ ra.R → x.e.key.length ≤ 15000 ∧ x.e.val.length ≤ 15000) (h4 : ∀ x, x ∈ rb.R → x.e.key.length ≤ 15000 ∧ x.e.val.length ≤ 15000) : Fine [ra, rb] := by
  have hs : sumR [ra, rb] ≤ 300 := by simp [sumR]; omega
  refine ⟨by simp, Nat.le_trans (tot_hds _) (by omega), fun x hx => ?_⟩
  obtain ⟨r, hr, hxr⟩ := List.mem_flatMap.1 hx
  simp only [List.mem_cons, List.not_mem_nil, or_false] at hr
  rcases hr with rfl | rfl
  · have := h3 x hxr; omega
  · have := h4 x hxr; omega
/-- Merging merged rows. -/
theorem all_two {w : World} {a : Option Addr} {Q R : List Tow} {L1 L2 : List Rw} {ra rb : Rw} (hp : RowsIn w a [ra, rb]) (hd : Dealt Q ((L1 ++ L2).map (·.R))) (h1 : MgE (entR L1) (ra.R.map (·.e))) (h2 : MgE (entR L2) (rb.R.map (·.e))) (u1 : ra.R.Pairwise ltT) (u2 : rb.R.Pairwise ltT) (h : AllOk [ra, rb] R) : eachOrd [ra, rb] = true ∧ ents R = ents Q := by
  have ho : eachOrd [ra, rb] = true := List.all_eq_true.2 fun x hx => by
    simp only [List.mem_cons, List.not_mem_nil, or_false] at hx
    rcases hx with rfl | rfl
    · exact ord_of_pairwise u1
    · exact ord_of_pairwise u2
  refine ⟨ho, ?_⟩
  rcases h with ⟨_, xs, hx, e⟩ | ⟨h3, _⟩
  · have h3 := hx.ents hp
    rw [entR_rows] at h1 h2
    rw [List.map_append] at hd
    have h4 := hd.two h1 h2
    show R.map (·.e) = Q.map (·.e)
    rw [e]
    exact MgE.uniq (entR_up ho) h3 h4
  · rw [ho] at h3; cases h3
/-- All, with what is told of the memory it answers. -/
theorem allD_any (a : Option Addr) (n c : Nat) (ps rs : List Rw) (w : World) (h : Copy w (.slice a n c) ps rs) (ho : eachOrd rs = true) (hf : Few rs) :
    Calls Try.prog 10 #[.slice a n c] w fun e w' => ∃ x : Rw, e = .returned (.tuple #[.slice x.a x.R.length x.c, .int .i64 0]) ∧ RwOk w' x ∧ MgE (entR rs) (x.R.map (·.e)) ∧ x.R.Pairwise ltT ∧ x.R.length ≤ 150 ∧ (∀ y, y ∈ x.R → y.e.key.length ≤ 15000 ∧ y.e.val.length ≤ 15000) ∧ Below w.heap.size w w' := by
  obtain ⟨a2, c2, e2, hr⟩ := h.ex
  cases e2
  refine (all_any a _ c ps w hr rfl h.good.fine).mono ?_
  rintro e w' ⟨v, R, rfl, hE, hS, hb, hA⟩
  obtain ⟨a', c', rfl, hen, hc, hz⟩ := ents_of hE hS
  obtain ⟨m1, m2, m3, m4⟩ := all_part hr h.ent ho hf hA
  exact ⟨⟨a', c', R⟩, by rw [ord_both h.ent, ho]; rfl, ⟨hen, hc, by show R.length ≤ 1000000; omega⟩, m1, m2, m3, m4, hb⟩
end Go.Proofs.Ytjnpendihdlgnaa
