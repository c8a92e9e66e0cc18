/-
  A tower among the others: plain mathematics, and the table behind it.
-/
import Derived.Test.YtkeglaplckfllaaRa
namespace Go.Proofs.Ytkeglaplckfllaa
open Go.RowKit
def ins (ts : List Tow) (n : Nat) (x : Tow) : List Tow := ts.take n ++ x :: ts.drop n
section
variable {ts : List Tow} {n : Nat} {x : Tow}
theorem ins_length (hn : n ≤ ts.length) : (ins ts n x).length = ts.length + 1 := by
  unfold ins
  rw [List.length_append, List.length_take, List.length_cons, List.length_drop]
  omega
theorem ins_lt (hn : n ≤ ts.length) {k : Nat} (hk : k < n) : (ins ts n x)[k]? = ts[k]? := by
  unfold ins
  rw [List.getElem?_append_left (by rw [List.length_take]; omega), List.getElem?_take, if_pos hk]
theorem ins_at (hn : n ≤ ts.length) : (ins ts n x)[n]? = some x := by
  unfold ins
  rw [List.getElem?_append_right (by rw [List.length_take]; omega), List.length_take, Nat.min_eq_left hn, Nat.sub_self]
  rfl
theorem ins_gt (hn : n ≤ ts.length) {k : Nat} (hk : n ≤ k) : (ins ts n x)[k + 1]? = ts[k]? := by
  unfold ins
  rw [List.getElem?_append_right (by rw [List.length_take]; omega), List.length_take, Nat.min_eq_left hn, show k + 1 - n = (k - n) + 1 by omega, List.getElem?_cons_succ, List.getElem?_drop, show n + (k - n) = k by omega]
theorem ins_mem {y : Tow} : y ∈ ins ts n x ↔ y = x ∨ y ∈ ts := by
  unfold ins
  rw [List.mem_append, List.mem_cons]
  constructor
  · rintro (h | h | h)
    · exact .inr (List.mem_of_mem_take h)
    · exact .inl h
    · exact .inr (List.mem_of_mem_drop h)
  · rintro (h | h)
    · exact .inr (.inl h)
    · rw [← List.take_append_drop n ts, List.mem_append] at h
      rcases h with h | h
      · exact .inl h
      · exact .inr (.inr h)
theorem ins_drop_le (hn : n ≤ ts.length) {p : Nat} (hp : p ≤ n) : (ins ts n x).drop p = (ts.take n).drop p ++ x :: ts.drop n := by
  unfold ins
  rw [List.drop_append_of_le_length (by rw [List.length_take]; omega)]
theorem drop_split (hn : n ≤ ts.length) {p : Nat} (hp : p ≤ n) : ts.drop p = (ts.take n).drop p ++ ts.drop n := by
  rw [← List.drop_append_of_le_length (by rw [List.length_take]; omega), List.take_append_drop]
theorem ins_drop_gt (hn : n ≤ ts.length) {p : Nat} (hp : n ≤ p) : (ins ts n x).drop (p + 1) = ts.drop p := by
  refine List.ext_getElem? fun i => ?_
  rw [List.getElem?_drop, List.getElem?_drop, show p + 1 + i = (p + i) + 1 by omega, ins_gt hn (by omega)]
theorem nodeB_ins {bg : Nat} (hn : n ≤ ts.length) (p : Nat) : nodeB bg (ins ts n x) p = if p ≤ n then nodeB bg ts p else if p = n + 1 then x.b else nodeB bg ts (p - 1) := by
  cases p with
  | zero => rw [if_pos (Nat.zero_le _)]; rfl
  | succ k =>
    show (((ins ts n x)[k]?).map (·.b)).getD 0 = _
    rcases Nat.lt_trichotomy k n with h | h | h
    · rw [if_pos (by omega), ins_lt hn h]; rfl
    · rw [if_neg (by omega), if_pos (by omega), h, ins_at hn]; rfl
    · rw [if_neg (by omega), if_neg (by omega)]
      obtain ⟨j, rfl⟩ : ∃ j, k = j + 1 := ⟨k - 1, by omega⟩
      rw [ins_gt hn (by omega)]
      rfl
theorem nodeH_ins (hn : n ≤ ts.length) (p : Nat) : nodeH (ins ts n x) p = if p ≤ n then nodeH ts p else if p = n + 1 then x.h else nodeH ts (p - 1) := by
  cases p with
  | zero => rw [if_pos (Nat.zero_le _)]; rfl
  | succ k =>
    show (((ins ts n x)[k]?).map (·.h)).getD 0 = _
    rcases Nat.lt_trichotomy k n with h | h | h
    · rw [if_pos (by omega), ins_lt hn h]; rfl
    · rw [if_neg (by omega), if_pos (by omega), h, ins_at hn]; rfl
    · rw [if_neg (by omega), if_neg (by omega)]
      obtain ⟨j, rfl⟩ : ∃ j, k = j + 1 := ⟨k - 1, by omega⟩
      rw [ins_gt hn (by omega)]
      rfl
theorem mid_none {p l : Nat} (h : ∀ j y, p ≤ j → j < n → ts[j]? = some y → ¬ l < y.h) : ((ts.take n).drop p).find? (fun y => decide (l < y.h)) = none := by
  refine List.find?_eq_none.2 fun y hy => ?_
  obtain ⟨i, hi⟩ := List.mem_iff_getElem?.1 hy
  rw [List.getElem?_drop, List.getElem?_take] at hi
  split at hi
  · simpa using h _ y (by omega) (by assumption) hi
  · cases hi
theorem nxt_skip (hn : n ≤ ts.length) {p l : Nat} (hp : p ≤ n) (h : ∀ j y, p ≤ j → j < n → ts[j]? = some y → ¬ l < y.h) : nxt l (ts.drop p) = nxt l (ts.drop n) := by
  unfold nxt
  rw [drop_split hn hp, List.find?_append, mid_none h, Option.none_or]
theorem nxt_ins_skip (hn : n ≤ ts.length) {p l : Nat} (hp : p ≤ n) (h : ∀ j y, p ≤ j → j < n → ts[j]? = some y → ¬ l < y.h) : nxt l ((ins ts n x).drop p) = if l < x.h then some x.b else nxt l (ts.drop n) := by
  unfold nxt
  rw [ins_drop_le hn hp, List.find?_append, mid_none h, Option.none_or, List.find?_cons]
  by_cases e : l < x.h
  · simp [e]
  · simp [e]
theorem nxt_ins_found (hn : n ≤ ts.length) {p l : Nat} (hp : p ≤ n) (h : ¬ ∀ j y, p ≤ j → j < n → ts[j]? = some y → ¬ l < y.h) : nxt l ((ins ts n x).drop p) = nxt l (ts.drop p) := by
  unfold nxt
  rw [ins_drop_le hn hp, drop_split hn hp, List.find?_append, List.find?_append]
  cases e : ((ts.take n).drop p).find? (fun y => decide (l < y.h)) with
  | none =>
    refine absurd (fun j y h1 h2 h3 => ?_) h
    have := List.find?_eq_none.1 e y (List.mem_iff_getElem?.2 ⟨j - p, by rw [List.getElem?_drop, List.getElem?_take, if_pos (by omega), show p + (j - p) = j by omega]; exact h3⟩)
    simpa using this
  | some y => rfl
/-- On a level there is one last place ahead. -/
theorem spot_one {P Q l : Nat} (hn : n ≤ ts.length) (hP : P ≤ n) (hQ : Q ≤ n) (h1 : l < nodeH ts P) (h2 : l < nodeH ts Q) (n1 : ∀ j y, P ≤ j → j < n → ts[j]? = some y → ¬ l < y.h) (n2 : ∀ j y, Q ≤ j → j < n → ts[j]? = some y → ¬ l < y.h) : P = Q := by
  have key : ∀ {P Q : Nat}, P < Q → Q ≤ n → l < nodeH ts Q → (∀ j y, P ≤ j → j < n → ts[j]? = some y → ¬ l < y.h) → False := fun {P Q} hl hQ h2 n1 => by
    obtain ⟨k, rfl⟩ : ∃ k, Q = k + 1 := ⟨Q - 1, by omega⟩
    have hk : k < ts.length := by omega
    have e := List.getElem?_eq_getElem hk
    rw [nodeH_at e] at h2
    exact n1 k _ (by omega) (by omega) e h2
  rcases Nat.lt_trichotomy P Q with h | h | h
  · exact (key h hQ h2 n1).elim
  · exact h
  · exact (key h hP h1 n2).elim
theorem sizeT_ins : sizeT (ins ts n x) = sizeT ts + (x.e.key.length + x.e.val.length + 32) := by
  unfold ins sizeT
  have h := congrArg (fun l : List Tow => (l.map fun y => y.e.key.length + y.e.val.length + 32).sum) (List.take_append_drop n ts)
  simp only [List.map_append, List.sum_append] at h
  rw [List.map_append, List.sum_append, List.map_cons, List.sum_cons]
  omega
theorem sorted_ins {s : En} (hx : x.e.en = s) (hs : ts.Pairwise (fun x y => cmpE x.e.en y.e.en < 0)) (hn : n = place s ts) (hno : ∀ y, ts[n]? = some y → cmpE y.e.en s ≠ 0) : (ins ts n x).Pairwise (fun x y => cmpE x.e.en y.e.en < 0) := by
  have hiff := place_iff s ts hs
  have hle := place_le s ts
  rw [← hn] at hiff hle
  unfold ins
  have hsplit := hs
  rw [← List.take_append_drop n ts, List.pairwise_append] at hsplit
  obtain ⟨p1, p2, p3⟩ := hsplit
  have hafter : ∀ y, y ∈ ts.drop n → cmpE x.e.en y.e.en < 0 := fun y hy => by
    obtain ⟨i, hi⟩ := List.mem_iff_getElem?.1 hy
    rw [List.getElem?_drop] at hi
    have h1 := mt (hiff (n + i) y hi).2 (by omega)
    have hsw := cmpE_swap x.e.en y.e.en
    rw [hx] at hsw ⊢
    rcases Nat.eq_zero_or_pos i with h0 | h0
    · subst h0
      have := hno y hi
      omega
    · have hnl : n < ts.length := by have := (List.getElem?_eq_some_iff.1 hi).1; omega
      have e0 := List.getElem?_eq_getElem hnl
      have h2 := mt (hiff n ts[n] e0).2 (by omega)
      have h3 := hno _ e0
      have hsw2 := cmpE_swap s ts[n].e.en
      have h4 : cmpE s ts[n].e.en < 0 := by omega
      have h5 : cmpE ts[n].e.en y.e.en < 0 := by
        have := List.pairwise_iff_getElem.1 hs n (n + i) hnl (List.getElem?_eq_some_iff.1 hi).1 (by omega)
        rwa [(List.getElem?_eq_some_iff.1 hi).2] at this
      exact cmpE_lt h4 h5
  refine List.pairwise_append.2 ⟨p1, List.pairwise_cons.2 ⟨hafter, p2⟩, fun a ha b hb => ?_⟩
  rcases List.mem_cons.1 hb with rfl | hb
  · obtain ⟨i, hi⟩ := List.mem_iff_getElem?.1 ha
    rw [List.getElem?_take] at hi
    split at hi
    · rw [hx]
      exact (hiff i a hi).1 (by assumption)
    · cases hi
  · exact p3 a ha b hb
theorem nodes_ins {bg : Nat} {cs : Array Value} {Pf : Nat → Nat} {w : World} {rmn : Nat → Value} (hn : n ≤ ts.length) (hS : Spots bg ts n cs Pf) (hh : x.h ≤ 12) (hH : ∀ p, p ≤ ts.length → nodeH ts p ≤ 12) (hN : Nodes w bg ts (rmTo ts Pf x.b x.h)) (hO : ∃ cn, NodeAt w x.b x.h (rnTo ts Pf rmn x.h) cn ∧ entIn cn x) (hne : ∀ p, p ≤ ts.length → x.b ≠ nodeB bg ts p) :
    Nodes w bg (ins ts n x) (fun p l => ptrO (nxt l ((ins ts n x).drop p))) := by
  refine ⟨fun p hp => ?_, fun p p' hp hp' e => ?_⟩
  · rw [ins_length hn] at hp
    rw [nodeB_ins hn, nodeH_ins hn]
    rcases Nat.lt_trichotomy p (n + 1) with h | h | h
    · rw [if_pos (by omega), if_pos (by omega)]
      obtain ⟨c, h1, h2⟩ := hN.node p (by omega)
      refine ⟨c, ⟨h1.heap, h1.size, h1.height, fun l hl => (h1.room l hl).trans ?_⟩, fun k y hk hy => h2 k y hk (by rw [← hy, ins_lt hn (by omega)])⟩
      have hl12 : l < 12 := by have := hH p (by omega); omega
      unfold rmTo rm0
      by_cases hmid : ∀ j y, p ≤ j → j < n → ts[j]? = some y → ¬ l < y.h
      · have hpp : p = Pf l := spot_one hn (by omega) (hS.le l hl12) hl (hS.tall l hl12) hmid (hS.none l hl12)
        rw [nxt_ins_skip hn (by omega) hmid]
        by_cases hlx : l < x.h
        · rw [if_pos ⟨hlx, hpp⟩, if_pos hlx]; rfl
        · rw [if_neg (fun h => hlx h.1), if_neg hlx, nxt_skip hn (by omega) hmid]
      · rw [nxt_ins_found hn (by omega) hmid, if_neg]
        rintro ⟨_, h4⟩
        rw [h4] at hmid
        exact hmid (hS.none l hl12)
    · subst h
      rw [if_neg (by omega), if_pos rfl, if_neg (by omega), if_pos rfl]
      obtain ⟨c, h1, h2⟩ := hO
      refine ⟨c, ⟨h1.heap, h1.size, h1.height, fun l hl => (h1.room l hl).trans ?_⟩, fun k y hk hy => ?_⟩
      · have hl12 : l < 12 := by omega
        unfold rnTo rm0
        rw [if_pos hl, ins_drop_gt hn (Nat.le_refl n), nxt_skip hn (hS.le l hl12) (hS.none l hl12)]
      · have : k = n := by omega
        subst this
        rw [ins_at hn] at hy
        cases hy
        exact h2
    · rw [if_neg (by omega), if_neg (by omega), if_neg (by omega), if_neg (by omega)]
      obtain ⟨q, rfl⟩ : ∃ q, p = q + 1 := ⟨p - 1, by omega⟩
      rw [Nat.add_sub_cancel]
      obtain ⟨c, h1, h2⟩ := hN.node q (by omega)
      refine ⟨c, ⟨h1.heap, h1.size, h1.height, fun l hl => (h1.room l hl).trans ?_⟩, fun k y hk hy => ?_⟩
      · have hl12 : l < 12 := by have := hH q (by omega); omega
        unfold rmTo rm0
        rw [if_neg (fun h4 => by have := hS.le l hl12; omega), ins_drop_gt hn (by omega)]
      · obtain ⟨k', rfl⟩ : ∃ k', k = k' + 1 := ⟨k - 1, by omega⟩
        rw [ins_gt hn (by omega)] at hy
        exact h2 k' y (by omega) hy
  · rw [ins_length hn] at hp hp'
    rw [nodeB_ins hn, nodeB_ins hn] at e
    have inj := hN.inj
    by_cases a1 : p ≤ n
    · rw [if_pos a1] at e
      by_cases b1 : p' ≤ n
      · rw [if_pos b1] at e; exact inj p p' (by omega) (by omega) e
      · rw [if_neg b1] at e
        by_cases b2 : p' = n + 1
        · rw [if_pos b2] at e; exact absurd e.symm (hne p (by omega))
        · rw [if_neg b2] at e
          have := inj p (p' - 1) (by omega) (by omega) e
          omega
    · rw [if_neg a1] at e
      by_cases a2 : p = n + 1
      · rw [if_pos a2] at e
        by_cases b1 : p' ≤ n
        · rw [if_pos b1] at e; exact absurd e (hne p' (by omega))
        · rw [if_neg b1] at e
          by_cases b2 : p' = n + 1
          · omega
          · rw [if_neg b2] at e; exact absurd e (hne (p' - 1) (by omega))
      · rw [if_neg a2] at e
        by_cases b1 : p' ≤ n
        · rw [if_pos b1] at e
          have := inj (p - 1) p' (by omega) (by omega) e
          omega
        · rw [if_neg b1] at e
          by_cases b2 : p' = n + 1
          · rw [if_pos b2] at e; exact absurd e.symm (hne (p - 1) (by omega))
          · rw [if_neg b2] at e
            have := inj (p - 1) (p' - 1) (by omega) (by omega) e
            omega
end
end Go.Proofs.Ytkeglaplckfllaa
