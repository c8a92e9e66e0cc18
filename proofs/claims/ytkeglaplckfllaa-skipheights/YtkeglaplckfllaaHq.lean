/-
  What a table tells does not hang on heights: the parts of the law.
-/
import Derived.Test.YtkeglaplckfllaaHp
namespace Go.Proofs.Ytkeglaplckfllaa
open Go.RowKit
set_option maxRecDepth 100000
set_option maxHeartbeats 8000000
structure Took (l : List Tow) (k : Nat) (ts R : List Tow) : Prop where
  tells : Tells ts R
  len : R.length ≤ k
  wt : weigh R ≤ weigh (l.take k)
  mem : ∀ x, x ∈ R → x ∈ l ∧ chk x.e.seq [(x.e.kind, x.e.key, x.e.val)] = 0
  apart : R.Pairwise (fun x y => cmpE x.e.en y.e.en ≠ 0)
theorem weigh_take (l : List Tow) (k : Nat) : weigh (l.take k) ≤ weigh l := by
  induction l generalizing k with
  | nil => simp
  | cons x r ih =>
    cases k with
    | zero => simp [weigh]
    | succ k => have := ih k; simp only [List.take_succ_cons, weigh]; omega
theorem weigh_take_succ (l : List Tow) (k : Nat) : weigh (l.take k) ≤ weigh (l.take (k + 1)) := by
  have := weigh_take (l.take (k + 1)) k
  rwa [List.take_take, Nat.min_eq_left (by omega)] at this
theorem Took.bounds {l : List Tow} {k : Nat} {ts R : List Tow} (h : Took l k ts R) (hk : k ≤ 120) (hw : weigh l ≤ 20000) : ts.length ≤ 120 ∧ sizeT ts ≤ 900000 := by
  have h1 := h.tells.len
  have h2 := h.tells.size
  have h3 := h.len
  have h4 := h.wt
  have h5 := weigh_take l k
  omega
theorem smol_of {l : List Tow} {x : Tow} (hx : x ∈ l) (hw : weigh l ≤ 20000) : Smol [(x.e.kind, x.e.key, x.e.val)] := by
  have := weigh_mem hx
  refine ⟨by simp, ?_⟩
  simp [tot]
  omega
theorem Took.skip {l : List Tow} {k : Nat} {ts R : List Tow} (h : Took l k ts R) : Took l (k + 1) ts R := ⟨h.tells, Nat.le_succ_of_le h.len, Nat.le_trans h.wt (weigh_take_succ l k), h.mem, h.apart⟩
theorem Took.add {l : List Tow} {k : Nat} {ts R : List Tow} (h : Took l k ts R) {x z : Tow} (hk : l.take (k + 1) = l.take k ++ [x]) (hm : x ∈ l) (hz : z.e = x.e) (hc : chk x.e.seq [(x.e.kind, x.e.key, x.e.val)] = 0) (hs : ts.Pairwise (fun x y => cmpE x.e.en y.e.en < 0)) (hat : atT ts (place (x.e.key, x.e.seq) ts) (x.e.key, x.e.seq) = none) : Took l (k + 1) (ins ts (place (x.e.key, x.e.seq) ts) z) (R ++ [x]) := by
  refine ⟨h.tells.ins1 _ (place_le _ _) x z hz, ?_, ?_, fun y hy => ?_, ?_⟩
  · have := h.len
    rw [List.length_append]
    simp only [List.length_cons, List.length_nil]
    omega
  · have := h.wt
    rw [hk, weigh_snoc, weigh_snoc]
    omega
  · rcases List.mem_append.1 hy with hy | hy
    · exact h.mem y hy
    · obtain rfl := List.mem_singleton.1 hy
      exact ⟨hm, hc⟩
  · refine List.pairwise_append.2 ⟨h.apart, List.pairwise_singleton _ _, fun a ha y hy => ?_⟩
    obtain rfl := List.mem_singleton.1 hy
    have h1 : a.e ∈ ts.map (·.e) := (h.tells.mem a.e).2 (List.mem_map.2 ⟨a, ha, rfl⟩)
    obtain ⟨a', h2, h3⟩ := List.mem_map.1 h1
    have := (atT_none hs _).1 hat a' h2
    rw [h3] at this
    exact this
theorem Ents.bytes {w : World} {a : Option Addr} {l : List Tow} (h : Ents w a l) {x : Tow} (hx : x ∈ l) : Bytes w x.kv x.e.key ∧ Bytes w x.vv x.e.val := by
  obtain ⟨k, hk, hkx⟩ := List.getElem_of_mem hx
  exact (h k x (by rw [List.getElem?_eq_getElem hk, hkx])).2
theorem ERow.at_ {w : World} {B : Nat} {v : Value} {R : List Tow} (h : ERow w B v R) {i : Nat} {x : Tow} (hx : R[i]? = some x) : ∃ g c, v = .slice (some ⟨g, 0, none⟩) R.length c ∧ w.cell? ⟨g, i * 4, none⟩ = some x.kv ∧ w.cell? ⟨g, i * 4 + 1, none⟩ = some (.int .u64 (x.e.seq : Nat)) ∧ w.cell? ⟨g, i * 4 + 2, none⟩ = some (.int .i64 x.e.kind) ∧ w.cell? ⟨g, i * 4 + 3, none⟩ = some x.vv := by
  rcases h with ⟨rfl, _⟩ | ⟨g, c, n, rfl, rfl, _, _, cs, h1, h2, h3⟩
  · simp at hx
  · obtain ⟨e0, e1, e2, e3⟩ := entCells_at R i x hx
    have hi := (List.getElem?_eq_some_iff.1 hx).1
    have hl := entCells_length R
    have hcell := fun j => cell_of_row w g j _ 29 _ h1
    exact ⟨g, c, rfl, by rw [hcell, h3 _ (by omega), e0], by rw [hcell, h3 _ (by omega), e1], by rw [hcell, h3 _ (by omega), e2], by rw [hcell, h3 _ (by omega), e3]⟩
theorem weigh_drop (l : List Tow) (k : Nat) : weigh (l.drop k) ≤ weigh l := by
  induction l generalizing k with
  | nil => simp
  | cons x r ih =>
    cases k with
    | zero => exact Nat.le_refl _
    | succ k => have := ih k; simp only [List.drop_succ_cons, weigh]; omega
theorem back_at {ts us R : List Tow} {l : List Tow} {k i : Nat} {x : Tow} (h : Took l k ts R) (hu : Tells us (R.drop (i + 1))) (hs : us.Pairwise (fun x y => cmpE x.e.en y.e.en < 0)) (hi : R.drop i = x :: R.drop (i + 1)) : atT us (place (x.e.key, x.e.seq) us) (x.e.key, x.e.seq) = none := by
  refine (atT_none hs _).2 fun y hy h0 => ?_
  have h1 : (R.drop i).Pairwise (fun x y => cmpE x.e.en y.e.en ≠ 0) := h.apart.sublist (List.drop_sublist i R)
  rw [hi] at h1
  obtain ⟨y', h2, h3⟩ := List.mem_map.1 ((hu.mem y.e).1 (List.mem_map.2 ⟨y, hy, rfl⟩))
  have h4 := (List.pairwise_cons.1 h1).1 y' h2
  rw [h3] at h4
  rw [cmpE_swap] at h0
  exact h4 (by show cmpE (x.e.key, x.e.seq) y.e.en = 0; omega)
theorem back_bounds {us R : List Tow} {l : List Tow} {k j : Nat} {ts : List Tow} (h : Took l k ts R) (hk : k ≤ 120) (hw : weigh l ≤ 20000) (hu : Tells us (R.drop j)) : us.length ≤ 120 ∧ sizeT us ≤ 900000 := by
  have h1 := hu.len
  have h2 := hu.size
  have h3 := h.len
  have h4 := h.wt
  have h5 := weigh_take l k
  have h6 := weigh_drop R j
  rw [List.length_drop] at h1 h2
  omega
theorem ERow.ents {w : World} {B : Nat} {v : Value} {R : List Tow} (h : ERow w B v R) (hs : Shown w B R) : ∃ a c, v = .slice a R.length c ∧ Ents w a R := by
  obtain ⟨a, c, rfl⟩ := h.len
  refine ⟨a, c, rfl, fun k x hx => ⟨?_, (hs x (List.mem_of_getElem? hx)).1, (hs x (List.mem_of_getElem? hx)).2.1⟩⟩
  obtain ⟨g, c', e, q0, q1, q2, q3⟩ := h.at_ hx
  obtain rfl : a = some ⟨g, 0, none⟩ := by cases e; rfl
  refine ⟨g, 0, rfl, fun j u hu => ?_⟩
  rw [Nat.zero_add]
  match j, hu with
  | 0, hu => cases hu; exact q0
  | 1, hu => cases hu; exact q1
  | 2, hu => cases hu; exact q2
  | 3, hu => cases hu; exact q3
section
variable {B : Nat} {w0 w : World} {s bs t bt : Nat} {ts us : List Tow} {v : Value} {R : List Tow}
theorem Two.all1 (h : Two B w0 w s bs t bt ts us v R) (hk : ∀ x, x ∈ ts → x.e.key ≠ []) (hn : ts.length ≤ 100000) (hs : sizeT ts ≤ 900000) (N : Nat) (hN : N = ts.length) :
    Calls Try.prog 11 #[.pointer (some ⟨s, 0, none⟩)] w fun e w' => ∃ a c R1, e = .returned (.slice a N c) ∧ N = R1.length ∧ Ents w' a R1 ∧ R1.map (·.e) = ts.map (·.e) ∧ Turns (fun _ => False) w w' := by
  obtain ⟨⟨As, At, h1, _⟩, _⟩ := h
  refine (all_any As s bs ts w h1 hk hn hs).mono ?_
  rintro e w' ⟨v1, R1, rfl, g1, g2, g3, b⟩
  obtain ⟨a, c, rfl, g4⟩ := g1.ents g2
  have hl : N = R1.length := by
    have := congrArg List.length g3
    simp only [List.length_map] at this
    omega
  exact ⟨a, c, R1, by rw [hl], hl, g4, g3, Turns.of_below b _⟩
theorem Two.all2 (h : Two B w0 w s bs t bt ts us v R) (hk : ∀ x, x ∈ us → x.e.key ≠ []) (hn : us.length ≤ 100000) (hs : sizeT us ≤ 900000) (N : Nat) (hN : N = us.length) :
    Calls Try.prog 11 #[.pointer (some ⟨t, 0, none⟩)] w fun e w' => ∃ a c R1, e = .returned (.slice a N c) ∧ N = R1.length ∧ Ents w' a R1 ∧ R1.map (·.e) = us.map (·.e) ∧ Turns (fun _ => False) w w' := by
  obtain ⟨⟨As, At, _, h1, _⟩, _⟩ := h
  refine (all_any At t bt us w h1 hk hn hs).mono ?_
  rintro e w' ⟨v1, R1, rfl, g1, g2, g3, b⟩
  obtain ⟨a, c, rfl, g4⟩ := g1.ents g2
  have hl : N = R1.length := by
    have := congrArg List.length g3
    simp only [List.length_map] at this
    omega
  exact ⟨a, c, R1, by rw [hl], hl, g4, g3, Turns.of_below b _⟩
theorem Two.size1 (h : Two B w0 w s bs t bt ts us v R) : Calls Try.prog 22 #[.pointer (some ⟨s, 0, none⟩)] w fun e w' => e = .returned (.int .i64 (sizeT ts : Nat)) ∧ w' = w := by
  obtain ⟨⟨As, At, h1, _⟩, _⟩ := h
  exact sizeT_any As s bs ts w h1
theorem Two.size2 (h : Two B w0 w s bs t bt ts us v R) : Calls Try.prog 22 #[.pointer (some ⟨t, 0, none⟩)] w fun e w' => e = .returned (.int .i64 (sizeT us : Nat)) ∧ w' = w := by
  obtain ⟨⟨As, At, _, h1, _⟩, _⟩ := h
  exact sizeT_any At t bt us w h1
end
theorem place_self {us : List Tow} (hs : us.Pairwise (fun x y => cmpE x.e.en y.e.en < 0)) {k : Nat} {y : Tow} (hy : us[k]? = some y) : place (y.e.key, y.e.seq) us = k := by
  have h1 := place_iff (y.e.key, y.e.seq) us hs k y hy
  have h0 : cmpE y.e.en (y.e.key, y.e.seq) = 0 := cmpE_self _
  rw [h0] at h1
  have h2 : ¬ k < place (y.e.key, y.e.seq) us := fun h => absurd (h1.1 h) (by decide)
  obtain ⟨hk, hky⟩ := List.getElem?_eq_some_iff.1 hy
  rcases Nat.lt_or_ge (place (y.e.key, y.e.seq) us) k with h3 | h3
  · have hp : place (y.e.key, y.e.seq) us < us.length := by omega
    have h4 := place_iff (y.e.key, y.e.seq) us hs _ _ (List.getElem?_eq_getElem hp)
    have h5 := List.pairwise_iff_getElem.1 hs _ _ hp hk h3
    rw [hky] at h5
    exact absurd (h4.2 h5) (by omega)
  · omega
section
variable {B : Nat} {w0 w : World} {s bs t bt : Nat} {ts us : List Tow} {v : Value} {R : List Tow} {ka : Option Addr} {kc : Nat} {e : Ent}
theorem Two.get2 (h : Two B w0 w s bs t bt ts us v R) {i : Nat} (hy : (us.map (·.e))[i]? = some e) (hk : Bytes w (.slice ka e.key.length kc) e.key) (hn : us.length ≤ 1000000) (hs : sizeT us ≤ 1000000) :
    Calls Try.prog 18 #[.pointer (some ⟨t, 0, none⟩), .slice ka e.key.length kc, .int .u64 (e.seq : Nat)] w fun o w' => ∃ ka' kc' va' vc', o = .returned (.tuple #[.agg #[.slice ka' e.key.length kc', .int .u64 (e.seq : Nat), .int .i64 e.kind, .slice va' e.val.length vc'], .int .i64 0]) ∧ Bytes w' (.slice ka' e.key.length kc') e.key ∧ Bytes w' (.slice va' e.val.length vc') e.val ∧ Turns (fun _ => False) w w' := by
  obtain ⟨⟨As, At, _, h1, _⟩, _⟩ := h
  rw [List.getElem?_map, Option.map_eq_some_iff] at hy
  obtain ⟨y, hy, rfl⟩ := hy
  refine (get_hit At t bt us w ka y.e.key.length kc y.e.seq y.e.key h1 hk hn hs y (by rw [place_self h1.sorted hy]; exact hy) rfl).mono ?_
  rintro o w' ⟨ka', kc', va', vc', rfl, g1, g2, b⟩
  exact ⟨ka', kc', va', vc', rfl, g1, g2, Turns.of_below b _⟩
theorem Two.steps1 (h : Two B w0 w s bs t bt ts us v R) (hk : Bytes w (.slice ka e.key.length kc) e.key) (hn : ts.length ≤ 1000000) :
    ∃ st : Nat, st ≤ ts.length + 12 ∧ Calls Try.prog 26 #[.pointer (some ⟨s, 0, none⟩), .slice ka e.key.length kc, .int .u64 (e.seq : Nat)] w fun o w' => o = .returned (.int .i64 (st : Nat)) ∧ Turns (fun _ => False) w w' := by
  obtain ⟨⟨As, At, h1, _⟩, _⟩ := h
  refine ⟨walk 12 (seg ts (place (e.key, e.seq) ts) 0), ?_, (steps_any As s bs ts w ka e.key.length kc e.seq e.key h1 hk hn).mono ?_⟩
  · have h2 := walk_le 12 (seg ts (place (e.key, e.seq) ts) 0)
    have h3 : (seg ts (place (e.key, e.seq) ts) 0).length ≤ ts.length := by
      unfold seg
      rw [List.length_map, List.length_drop, List.length_take]
      omega
    omega
  · rintro o w' ⟨rfl, b⟩
    exact ⟨rfl, Turns.of_below b _⟩
end
theorem before_any' (a a' : Option Addr) (n n' c c' : Nat) (x y : List (BitVec 8)) (w : World) (h : Bytes w (.slice a n c) x) (h' : Bytes w (.slice a' n' c') y) (hb : cmpB x y < 0) :
    Calls Try.prog 33 #[.slice a n c, .slice a' n' c'] w fun e w' => e = .returned (.bool true) ∧ w' = w :=
  (beforeK_any a a' n n' c c' x y w h h').mono fun e w' ⟨h1, h2⟩ => ⟨by rw [h1, decide_eq_true hb], h2⟩
theorem before_no (a a' : Option Addr) (n n' c c' : Nat) (x y : List (BitVec 8)) (w : World) (h : Bytes w (.slice a n c) x) (h' : Bytes w (.slice a' n' c') y) (hb : ¬ cmpB x y < 0) :
    Calls Try.prog 33 #[.slice a n c, .slice a' n' c'] w fun e w' => e = .returned (.bool false) ∧ w' = w :=
  (beforeK_any a a' n n' c c' x y w h h').mono fun e w' ⟨h1, h2⟩ => ⟨by rw [h1, decide_eq_false hb], h2⟩
theorem bytes_yes (a a' : Option Addr) (n n' c c' : Nat) (x y : List (BitVec 8)) (w : World) (h : Bytes w (.slice a n c) x) (h' : Bytes w (.slice a' n' c') y) (hn : n ≤ 1000000000) (hb : x = y) :
    Calls Try.prog 34 #[.slice a n c, .slice a' n' c'] w fun e w' => e = .returned (.bool true) ∧ ∃ m, w' = w.drewN m :=
  (bytes_any a a' n n' c c' x y w h h' hn).mono fun e w' ⟨h1, h2⟩ => ⟨by rw [h1, decide_eq_true hb], h2⟩
theorem chk_key {s : Nat} {k : Int} {key val : List (BitVec 8)} (h : chk s [(k, key, val)] = 0) : key ≠ [] := by
  have h1 := ((chk_fine h).2.2.2 _ (List.mem_cons_self ..)).1
  rintro rfl
  revert h1
  unfold fineW
  simp
theorem two_start {w w2 w3 w4 : World} (b2 : Below w.heap.size w w2) (h3 : Tab (fun k => w2.heap.size ≤ k) w3 (w2.heap.size + 1) w2.heap.size []) (b3 : Below w2.heap.size w2 w3) (h4 : Tab (fun k => w3.heap.size ≤ k) w4 (w3.heap.size + 1) w3.heap.size []) (b4 : Below w3.heap.size w3 w4) :
    Two w.heap.size w w4 (w2.heap.size + 1) w2.heap.size (w3.heap.size + 1) w3.heap.size [] [] (.slice none 0 0) [] := by
  have s2 := b2.size
  have s3 := b3.size
  have s4 := b4.size
  refine ⟨⟨fun k => w2.heap.size ≤ k ∧ k < w3.heap.size, fun k => w3.heap.size ≤ k ∧ k < w4.heap.size, (h3.mono fun k hk ha => ⟨ha, hk⟩).quiet (Turns.of_below b4 _), h4.mono fun k hk ha => ⟨ha, hk⟩, fun k hk => ⟨⟨by omega, by omega⟩, fun h => by omega, fun ⟨m, d, e⟩ => by cases e⟩, fun k hk => ⟨⟨by omega, hk.2⟩, fun ⟨m, d, e⟩ => by cases e⟩⟩, .inl ⟨rfl, rfl⟩, by omega, (b2.trans (b3.mono s2)).trans (b4.mono (by omega))⟩
end Go.Proofs.Ytkeglaplckfllaa
