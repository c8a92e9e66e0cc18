import Derived.Test.YtpgligfolecieaaM15
import Derived.Deep.Light
/-
  What is seen, told by a predicate.
-/
namespace Go.Proofs.Ytpgligfolecieaa
open Go.RowKit
set_option maxRecDepth 100000
def ltE (a b : Ent) : Prop := cmpE a.en b.en < 0
theorem ltE_key {a b : Ent} (h : ltE a b) : cmpB a.key b.key ≤ 0 := cmpB_of_E h
theorem ltE_seq {a b : Ent} (h : ltE a b) (e : a.key = b.key) : b.seq < a.seq := by
  unfold ltE cmpE Ent.en at h
  have hz : cmpB a.key b.key = 0 := (cmpB_zero _ _).2 e
  simp only [hz, ne_eq, not_true_eq_false, if_false] at h
  split at h
  · assumption
  · split at h <;> omega
theorem key_mid {a b c : Ent} (h1 : ltE a b) (h2 : ltE b c) (e : a.key = c.key) : b.key = c.key := by
  have k1 := ltE_key h1
  have k2 := ltE_key h2
  rw [e] at k1
  have s := cmpB_swap c.key b.key
  exact (cmpB_zero _ _).1 (by omega)
/-- Is x hidden by y at seq? -/
def hides (seq : Nat) (x y : Ent) : Bool := decide (y.key = x.key) && decide (y.seq ≤ seq) && decide (x.seq < y.seq)
def newest (seq : Nat) (xs : List Ent) (x : Ent) : Bool := decide (x.seq ≤ seq) && decide (x.kind = 1) && !(xs.any (hides seq x))
theorem seenK_snoc (seq : Nat) (p : List Ent) (y : Ent) : seenK seq none (p ++ [y]) = if seq < y.seq then seenK seq none p else some y.key := by
  rw [seenK_append]
  generalize seenK seq none p = k
  simp only [seenK]
  by_cases h : seq < y.seq
  · simp [skipIt, h]
  · rw [if_neg h]
    cases k with
    | none => simp [skipIt, h]
    | some k =>
      by_cases e : y.key = k
      · simp [skipIt, e]
      · simp [skipIt, h, e]
theorem seenK_iff (seq : Nat) : ∀ (n : Nat) (pre : List Ent) (z : Ent), pre.length = n → (pre ++ [z]).Pairwise ltE → (seenK seq none pre = some z.key ↔ ∃ y, y ∈ pre ∧ y.key = z.key ∧ y.seq ≤ seq)
  | 0, pre, z, hn, _ => by
    obtain rfl := List.eq_nil_of_length_eq_zero hn
    simp [seenK]
  | n + 1, pre, z, hn, hp => by
    obtain ⟨p, y, rfl⟩ : ∃ p y, pre = p ++ [y] := ⟨pre.dropLast, pre.getLast (by intro e; rw [e] at hn; cases hn), (List.dropLast_concat_getLast _).symm⟩
    have hl : p.length = n := by simpa using hn
    have hpz : (p ++ [z]).Pairwise ltE := by
      refine hp.sublist ?_
      rw [List.append_assoc]
      exact List.Sublist.append_left (List.sublist_append_right _ _) _
    have hyz : ltE y z := by
      have := (List.pairwise_append.1 hp).2.2 y (by simp) z (by simp)
      exact this
    have ih := seenK_iff seq n p z hl hpz
    rw [seenK_snoc]
    by_cases h : seq < y.seq
    · rw [if_pos h, ih]
      constructor
      · rintro ⟨a, h1, h2⟩
        exact ⟨a, List.mem_append_left _ h1, h2⟩
      · rintro ⟨a, h1, h2, h3⟩
        rcases List.mem_append.1 h1 with h1 | h1
        · exact ⟨a, h1, h2, h3⟩
        · rw [List.mem_singleton.1 h1] at h3; omega
    · rw [if_neg h]
      constructor
      · intro e
        exact ⟨y, by simp, Option.some.inj e, by omega⟩
      · rintro ⟨a, h1, h2, h3⟩
        rcases List.mem_append.1 h1 with h1 | h1
        · have hay : ltE a y := by
            have := (List.pairwise_append.1 (List.pairwise_append.1 hp).1).2.2 a h1 y (by simp)
            exact this
          rw [key_mid hay hyz h2]
        · rw [← List.mem_singleton.1 h1, h2]
theorem seen_filter_from (seq : Nat) : ∀ (xs pre : List Ent), (pre ++ xs).Pairwise ltE → seenO seq (seenK seq none pre) xs = xs.filter (newest seq (pre ++ xs))
  | [], pre, _ => rfl
  | x :: r, pre, hp => by
    have hp1 : (pre ++ [x]).Pairwise ltE := hp.sublist (List.Sublist.append_left (by simp) _)
    have hk := seenK_iff seq pre.length pre x rfl hp1
    have e : pre ++ x :: r = (pre ++ [x]) ++ r := by simp
    have ih := seen_filter_from seq r (pre ++ [x]) (by rw [← e]; exact hp)
    rw [← e] at ih
    have hr : ∀ y, y ∈ r → ltE x y := fun y hy => by
      have := (List.pairwise_cons.1 (List.pairwise_append.1 hp).2.1).1 y hy
      exact this
    have hpre : ∀ y, y ∈ pre → ltE y x := fun y hy => (List.pairwise_append.1 hp).2.2 y hy x (by simp)
    have hany : (pre ++ x :: r).any (hides seq x) = true ↔ ∃ y, y ∈ pre ∧ y.key = x.key ∧ y.seq ≤ seq := by
      rw [List.any_eq_true]
      constructor
      · rintro ⟨y, h1, h2⟩
        simp only [hides, Bool.and_eq_true, decide_eq_true_eq] at h2
        rcases List.mem_append.1 h1 with h1 | h1
        · exact ⟨y, h1, h2.1.1, h2.1.2⟩
        · rcases List.mem_cons.1 h1 with rfl | h1
          · omega
          · have := ltE_seq (hr y h1) h2.1.1.symm
            omega
      · rintro ⟨y, h1, h2, h3⟩
        refine ⟨y, List.mem_append_left _ h1, ?_⟩
        simp only [hides, Bool.and_eq_true, decide_eq_true_eq]
        exact ⟨⟨h2, h3⟩, ltE_seq (hpre y h1) h2⟩
    have hskip : skipIt seq (seenK seq none pre) x = true ↔ seq < x.seq ∨ ∃ y, y ∈ pre ∧ y.key = x.key ∧ y.seq ≤ seq := by
      rw [← hk]
      unfold skipIt
      rw [Bool.or_eq_true, decide_eq_true_eq]
      cases h : seenK seq none pre with
      | none => simp
      | some k =>
        simp only [decide_eq_true_eq, Option.some.injEq]
        constructor
        · rintro (h | h)
          · exact .inl h
          · exact .inr h.symm
        · rintro (h | h)
          · exact .inl h
          · exact .inr h.symm
    rw [seenK_snoc] at ih
    simp only [seenO]
    by_cases hs : skipIt seq (seenK seq none pre) x = true
    · rw [if_pos hs]
      have hnew : newest seq (pre ++ x :: r) x = false := by
        rcases hskip.1 hs with h | h
        · simp [newest, show ¬ x.seq ≤ seq by omega]
        · simp [newest, hany.2 h]
      rw [List.filter_cons_of_neg (by rw [hnew]; simp)]
      rcases hskip.1 hs with h | h
      · rw [if_pos h] at ih
        exact ih
      · by_cases hq : seq < x.seq
        · rw [if_pos hq] at ih
          exact ih
        · rw [if_neg hq] at ih
          rw [← ih, hk.2 h]
    · rw [if_neg hs]
      have hq : ¬ seq < x.seq := fun h => hs (hskip.2 (.inl h))
      have hno : (pre ++ x :: r).any (hides seq x) = false := Bool.eq_false_iff.2 fun h => hs (hskip.2 (.inr (hany.1 h)))
      rw [if_neg hq] at ih
      by_cases hkd : x.kind = 1
      · rw [if_pos hkd, ih, List.filter_cons_of_pos]
        simp only [newest, hkd, hno, Bool.not_false, Bool.and_true, decide_true, decide_eq_true_eq]
        omega
      · rw [if_neg hkd, ih, List.filter_cons_of_neg]
        simp [newest, hkd]
theorem seen_filter (seq : Nat) (xs : List Ent) (h : xs.Pairwise ltE) : seenO seq none xs = xs.filter (newest seq xs) := seen_filter_from seq xs [] h
def rngE (fk tk : Ky) (x : Ent) : Bool := decide (0 ≤ cmpB x.key fk) && (tk.isEmpty || !decide (0 ≤ cmpB x.key tk))
theorem rng_E (fk tk : Ky) (x : Tow) : rng fk tk x = rngE fk tk x.e := rfl
theorem seen_rng (seq : Nat) (es : List Ent) (g : Ent → Bool) (hg : ∀ x y : Ent, x.key = y.key → g x = g y) (h : es.Pairwise ltE) : seenO seq none (es.filter g) = es.filter (fun x => newest seq es x && g x) := by
  rw [seen_filter seq _ (h.filter _), List.filter_filter]
  refine List.filter_congr fun x hx => ?_
  cases hgx : g x with
  | false => simp
  | true =>
    rw [Bool.and_true, Bool.and_true]
    unfold newest
    congr 2
    rw [Bool.eq_iff_iff, List.any_eq_true, List.any_eq_true]
    constructor
    · rintro ⟨y, h1, h2⟩
      exact ⟨y, (List.mem_filter.1 h1).1, h2⟩
    · rintro ⟨y, h1, h2⟩
      refine ⟨y, List.mem_filter.2 ⟨h1, ?_⟩, h2⟩
      simp only [hides, Bool.and_eq_true, decide_eq_true_eq] at h2
      rw [hg y x h2.1.1]
      exact hgx
/-- The one ahead hides, if any does. -/
theorem prev_hides {seq : Nat} {es : List Ent} (h : es.Pairwise ltE) {i : Nat} {x : Ent} (hx : es[i]? = some x) : es.any (hides seq x) = true ↔ ∃ p, 0 < i ∧ es[i - 1]? = some p ∧ p.key = x.key ∧ p.seq ≤ seq := by
  obtain ⟨hi, rfl⟩ := List.getElem?_eq_some_iff.1 hx
  have hp := List.pairwise_iff_getElem.1 h
  rw [List.any_eq_true]
  constructor
  · rintro ⟨y, h1, h2⟩
    simp only [hides, Bool.and_eq_true, decide_eq_true_eq] at h2
    obtain ⟨j, hj, rfl⟩ := List.getElem_of_mem h1
    have hji : j < i := by
      rcases Nat.lt_trichotomy j i with c | c | c
      · exact c
      · subst c; omega
      · have := ltE_seq (hp i j hi hj c) h2.1.1.symm
        omega
    refine ⟨es[i - 1], by omega, List.getElem?_eq_getElem (by omega), ?_⟩
    by_cases e : j = i - 1
    · subst e; exact h2.1
    · have q1 := hp j (i - 1) hj (by omega) (by omega)
      have q2 := hp (i - 1) i (by omega) hi (by omega)
      have q3 := key_mid q1 q2 h2.1.1
      have := ltE_seq q1 (h2.1.1.trans q3.symm)
      exact ⟨q3, by omega⟩
  · rintro ⟨p, h0, h1, h2, h3⟩
    obtain ⟨hj, rfl⟩ := List.getElem?_eq_some_iff.1 h1
    refine ⟨_, List.getElem_mem hj, ?_⟩
    simp only [hides, Bool.and_eq_true, decide_eq_true_eq]
    exact ⟨⟨h2, h3⟩, ltE_seq (hp (i - 1) i hj hi (by omega)) h2⟩
end Go.Proofs.Ytpgligfolecieaa

/-
  What is left of a row, and into which files it goes, as plain mathematics.
-/
namespace Go.Proofs.Ytpgligfolecieaa
set_option maxRecDepth 100000
set_option maxHeartbeats 4000000
def topN : Nat := 72057594037927935
def lkAt (ks : List Nat) (j : Nat) : Bool := decide (ks.getD j 0 ≤ topN) && (decide (j = 0) || decide (ks.getD (j - 1) 0 < ks.getD j 0))
def looksOk (ks : List Nat) : Bool := (List.range ks.length).all (lkAt ks)
theorem looksOk_iff {ks : List Nat} : looksOk ks = true ↔ ∀ j, j < ks.length → lkAt ks j = true := by
  unfold looksOk
  rw [List.all_eq_true]
  exact ⟨fun h j hj => h j (List.mem_range.2 hj), fun h j hj => h j (List.mem_range.1 hj)⟩
theorem getD_at {α : Type} {l : List α} {k : Nat} {x d : α} (h : l[k]? = some x) : l.getD k d = x := by rw [List.getD, h]; rfl
theorem looksOk_rise {ks : List Nat} (h : looksOk ks = true) : ks.Pairwise (· < ·) := by
  rw [looksOk_iff] at h
  rw [List.pairwise_iff_getElem]
  have key : ∀ d i (h1 : i < ks.length) (h2 : i + d + 1 < ks.length), ks[i] < ks[i + d + 1] := by
    intro d
    induction d with
    | zero =>
      intro i h1 h2
      have := h (i + 1) h2
      unfold lkAt at this
      rw [getD_at (List.getElem?_eq_getElem h2)] at this
      simp only [Nat.add_sub_cancel] at this
      rw [getD_at (List.getElem?_eq_getElem h1)] at this
      simp at this
      exact this.2
    | succ d ih =>
      intro i h1 h2
      have h3 := ih i h1 (by omega)
      have h2' : i + d + 1 + 1 < ks.length := h2
      have := h (i + d + 1 + 1) h2'
      unfold lkAt at this
      rw [getD_at (List.getElem?_eq_getElem h2')] at this
      simp only [Nat.add_sub_cancel] at this
      rw [getD_at (List.getElem?_eq_getElem (show i + d + 1 < ks.length by omega))] at this
      simp at this
      have h4 := this.2
      show ks[i] < ks[i + d + 1 + 1]
      omega
  intro i j hi hj hij
  have := key (j - i - 1) i hi (by omega)
  have e : i + (j - i - 1) + 1 = j := by omega
  simp only [e] at this
  exact this
theorem looksOk_le {ks : List Nat} (h : looksOk ks = true) {s : Nat} (hs : s ∈ ks) : s ≤ topN := by
  rw [looksOk_iff] at h
  obtain ⟨j, hj⟩ := List.getElem?_of_mem hs
  have := h j (List.getElem?_eq_some_iff.1 hj).1
  unfold lkAt at this
  rw [getD_at hj] at this
  simp at this
  exact this.1
/-- All who look. -/
def allN (ks : List Nat) : List Nat := ks ++ [topN]
def allC (ks : List Nat) : List Nat := if ks.getLast? = some topN then ks else ks ++ [topN]
theorem allC_mem (ks : List Nat) (s : Nat) : s ∈ allC ks ↔ s ∈ allN ks := by
  unfold allC allN
  split
  · next h =>
    constructor
    · intro hs; exact List.mem_append_left _ hs
    · intro hs
      rcases List.mem_append.1 hs with hs | hs
      · exact hs
      · obtain rfl := List.mem_singleton.1 hs
        exact List.mem_of_getLast? h
  · rfl
theorem allC_rise {ks : List Nat} (h : looksOk ks = true) : (allC ks).Pairwise (· < ·) := by
  unfold allC
  split
  · exact looksOk_rise h
  · next hn =>
    rw [List.pairwise_append]
    refine ⟨looksOk_rise h, List.pairwise_singleton _ _, fun a ha b hb => ?_⟩
    obtain rfl := List.mem_singleton.1 hb
    have h1 := looksOk_le h ha
    rcases Nat.lt_or_eq_of_le h1 with h2 | h2
    · exact h2
    · exfalso
      subst h2
      -- the greatest is the last
      obtain ⟨j, hj⟩ := List.getElem?_of_mem ha
      have hjl := (List.getElem?_eq_some_iff.1 hj).1
      have hr := looksOk_rise h
      rw [List.pairwise_iff_getElem] at hr
      by_cases e : j + 1 = ks.length
      · apply hn
        rw [List.getLast?_eq_getElem?]
        rw [show ks.length - 1 = j by omega]
        exact hj
      · have h3 := hr j (j + 1) hjl (by omega) (by omega)
        have h4 : ks[j] = topN := by
          have := List.getElem?_eq_getElem hjl
          rw [hj] at this
          exact (Option.some.inj this).symm
        have h5 := looksOk_le h (List.getElem_mem (show j + 1 < ks.length by omega))
        omega
def prevOf (l : List Ent) (i : Nat) : Option Ent := if i = 0 then none else l[i - 1]?
def hid1 (x : Ent) (s : Nat) : Option Ent → Bool
  | none => false
  | some p => decide (p.key = x.key) && decide (p.seq ≤ s)
def visOf (all : List Nat) (p : Option Ent) (x : Ent) : Bool := all.any fun s => decide (x.seq ≤ s) && !hid1 x s p
def visAt (all : List Nat) (l : List Ent) (i : Nat) : Bool := match l[i]? with
  | none => false
  | some x => visOf all (prevOf l i) x
def vis (all : List Nat) (l : List Ent) : List Bool := (List.range l.length).map (visAt all l)
theorem vis_length (all : List Nat) (l : List Ent) : (vis all l).length = l.length := by simp [vis]
theorem vis_at (all : List Nat) (l : List Ent) {i : Nat} (h : i < l.length) : (vis all l)[i]? = some (visAt all l i) := by simp [vis, h]
theorem hid1_mono {x : Ent} {s t : Nat} {p : Option Ent} (h : hid1 x s p = true) (hst : s ≤ t) : hid1 x t p = true := by
  cases p with
  | none => exact h
  | some p =>
    simp only [hid1, Bool.and_eq_true, decide_eq_true_eq] at h ⊢
    exact ⟨h.1, by omega⟩
theorem visOf_mem {a b : List Nat} (h : ∀ s, s ∈ a ↔ s ∈ b) (p : Option Ent) (x : Ent) : visOf a p x = visOf b p x := by
  unfold visOf
  rw [Bool.eq_iff_iff, List.any_eq_true, List.any_eq_true]
  exact ⟨fun ⟨s, h1, h2⟩ => ⟨s, (h s).1 h1, h2⟩, fun ⟨s, h1, h2⟩ => ⟨s, (h s).2 h1, h2⟩⟩
theorem visAt_mem {a b : List Nat} (h : ∀ s, s ∈ a ↔ s ∈ b) (l : List Ent) (i : Nat) : visAt a l i = visAt b l i := by
  unfold visAt
  split
  · rfl
  · exact visOf_mem h _ _
theorem vis_mem {a b : List Nat} (h : ∀ s, s ∈ a ↔ s ∈ b) (l : List Ent) : vis a l = vis b l := by
  unfold vis
  exact List.map_congr_left fun i _ => visAt_mem h l i
/-- The first who may see it tells all. -/
theorem visOf_first {all : List Nat} {p : Option Ent} {x : Ent} {j : Nat} (hs : all.Pairwise (· < ·)) (h1 : ∀ m s, m < j → all[m]? = some s → s < x.seq) (h2 : ∀ s, all[j]? = some s → x.seq ≤ s) :
    visOf all p x = (match all[j]? with | none => false | some s => !hid1 x s p) := by
  unfold visOf
  cases hj : all[j]? with
  | none =>
    rw [Bool.eq_false_iff]
    intro h
    obtain ⟨s, hm, h⟩ := List.any_eq_true.1 h
    obtain ⟨m, hm⟩ := List.getElem?_of_mem hm
    have hlt : m < j := by
      have := (List.getElem?_eq_some_iff.1 hm).1
      have := List.getElem?_eq_none_iff.1 hj
      omega
    have := h1 m s hlt hm
    simp at h
    omega
  | some s0 =>
    have h3 := h2 s0 hj
    show _ = !hid1 x s0 p
    rw [Bool.eq_iff_iff, List.any_eq_true]
    constructor
    · rintro ⟨s, hm, h⟩
      simp only [Bool.and_eq_true, decide_eq_true_eq, Bool.not_eq_true'] at h
      obtain ⟨m, hm⟩ := List.getElem?_of_mem hm
      have hle : s0 ≤ s := by
        rcases Nat.lt_trichotomy m j with hmj | hmj | hmj
        · have := h1 m s hmj hm; omega
        · subst hmj; rw [hm] at hj; cases hj; exact Nat.le_refl _
        · rw [List.pairwise_iff_getElem] at hs
          obtain ⟨g1, g2⟩ := List.getElem?_eq_some_iff.1 hm
          obtain ⟨g3, g4⟩ := List.getElem?_eq_some_iff.1 hj
          have := hs j m g3 g1 hmj
          omega
      rw [Bool.not_eq_true']
      cases hh : hid1 x s0 p with
      | false => rfl
      | true => rw [hid1_mono hh hle] at h; exact absurd h.2 (by decide)
    · intro h
      exact ⟨s0, List.mem_of_getElem? hj, by simp only [Bool.and_eq_true, decide_eq_true_eq]; exact ⟨h3, h⟩⟩
def keepB {α : Type} : List α → List Bool → List α
  | x :: r, b :: t => if b then x :: keepB r t else keepB r t
  | _, _ => []
theorem keepB_map {α β : Type} (f : α → β) : ∀ (l : List α) (v : List Bool), (keepB l v).map f = keepB (l.map f) v
  | [], v => by cases v <;> rfl
  | x :: r, [] => rfl
  | x :: r, b :: t => by
    simp only [keepB, List.map_cons]
    cases b <;> simp [keepB_map f r t]
theorem keepB_nil {α : Type} (v : List Bool) : keepB ([] : List α) v = [] := by cases v <;> rfl
def sameHd (x : Ent) : List (Ent × Bool) → Bool
  | [] => false
  | (y, _) :: _ => decide (x.key = y.key)
def oldS : List (Ent × Bool) → Bool
  | [] => false
  | (x, b) :: r => (oldS r && sameHd x r) || (b && decide (x.kind ≠ 2))
def stayB : List (Ent × Bool) → List Bool
  | [] => []
  | (x, b) :: r => (b && oldS ((x, b) :: r)) :: stayB r
theorem stayB_length : ∀ P : List (Ent × Bool), (stayB P).length = P.length
  | [] => rfl
  | (x, b) :: r => by simp [stayB, stayB_length r]
theorem stayB_at : ∀ (P : List (Ent × Bool)) (i : Nat) (x : Ent) (b : Bool), P[i]? = some (x, b) → (stayB P)[i]? = some (b && oldS (P.drop i))
  | [], i, x, b, h => by simp at h
  | (y, c) :: r, 0, x, b, h => by
    simp only [List.getElem?_cons_zero, Option.some.injEq, Prod.mk.injEq] at h
    obtain ⟨rfl, rfl⟩ := h
    rfl
  | (y, c) :: r, i + 1, x, b, h => by
    simp only [stayB, List.getElem?_cons_succ, List.drop_succ_cons] at h ⊢
    exact stayB_at r i x b h
def rowB (all : List Nat) (bot : Bool) (l : List Ent) : List Bool := if bot then stayB (l.zip (vis all l)) else vis all l
def rowE (all : List Nat) (bot : Bool) (l : List Ent) : List Ent := keepB l (rowB all bot l)
theorem rowE_mem {a b : List Nat} (h : ∀ s, s ∈ a ↔ s ∈ b) (bot : Bool) (l : List Ent) : rowE a bot l = rowE b bot l := by
  unfold rowE rowB
  rw [vis_mem h]
/-- Deletes at the end go. -/
def trimE (l : List Ent) : List Ent := (l.reverse.dropWhile fun e => decide (e.kind = 2)).reverse
theorem trimE_nil : trimE [] = [] := rfl
theorem trimE_snoc (G : List Ent) (x : Ent) : trimE (G ++ [x]) = if x.kind = 2 then trimE G else G ++ [x] := by
  unfold trimE
  rw [List.reverse_append, List.reverse_singleton, List.singleton_append, List.dropWhile_cons]
  by_cases h : x.kind = 2
  · simp [h]
  · simp [h]
theorem cmpB_neg {a b : List (BitVec 8)} (h : cmpB a b < 0) : cmpB a b = -1 := by rcases cmpB_vals a b with h1 | h1 | h1 <;> omega
structure RInv (bot : Bool) (T D G : List Ent) (S : List (Ent × Bool)) : Prop where
  tot : T = D ++ (if bot && !oldS S then trimE G else G) ++ keepB (S.map (·.1)) (if bot then stayB S else S.map (·.2))
  grp : ∀ g, g ∈ G → ∃ x b r, S = (x, b) :: r ∧ g.key = x.key
  low : ∀ x b r, S = (x, b) :: r → ∀ d, d ∈ D → cmpB d.key x.key < 0
theorem RInv.start (bot : Bool) (S : List (Ent × Bool)) : RInv bot (keepB (S.map (·.1)) (if bot then stayB S else S.map (·.2))) [] [] S :=
  ⟨(by simp [trimE_nil]), (fun g hg => by cases hg), (fun x b r _ d hd => by cases hd)⟩
theorem RInv.done {bot : Bool} {T D G : List Ent} (h : RInv bot T D G []) : T = D ∧ G = [] := by
  have hG : G = [] := by
    cases G with
    | nil => rfl
    | cons g r => obtain ⟨x, b, s, e, _⟩ := h.grp g (List.mem_cons_self); cases e
  subst hG
  have := h.tot
  simp [trimE_nil, keepB_nil] at this
  exact ⟨this, rfl⟩
def put1 (b : Bool) (x : Ent) : List Ent := if b then [x] else []
/-- One entry more: what is of its group stays, or not, by what comes. -/
theorem RInv.one {bot : Bool} {T D G : List Ent} {x : Ent} {b : Bool} {r : List (Ent × Bool)} (h : RInv bot T D G ((x, b) :: r)) :
    T = D ++ (if bot && !(oldS r && sameHd x r) then trimE (G ++ put1 b x) else G ++ put1 b x) ++ keepB (r.map (·.1)) (if bot then stayB r else r.map (·.2)) := by
  rw [h.tot]
  cases bot with
  | false =>
    cases b <;> simp [put1, keepB]
  | true =>
    simp only [Bool.true_and, stayB, List.map_cons, keepB, if_true]
    cases hO : (oldS r && sameHd x r) with
    | true =>
      have e : oldS ((x, b) :: r) = true := by simp only [oldS, hO, Bool.true_or]
      rw [e]
      cases b <;> simp [put1]
    | false =>
      have e : oldS ((x, b) :: r) = (b && decide (x.kind ≠ 2)) := by simp only [oldS, hO, Bool.false_or]
      rw [e]
      cases b with
      | false => simp [put1]
      | true =>
        simp only [put1, if_true, trimE_snoc]
        by_cases hk : x.kind = 2
        · simp [hk]
        · simp [hk]
theorem put1_key {b : Bool} {x g : Ent} (h : g ∈ put1 b x) : g = x := by
  unfold put1 at h
  split at h
  · exact List.mem_singleton.1 h
  · cases h
theorem RInv.same {bot : Bool} {T D G : List Ent} {x y : Ent} {b c : Bool} {r : List (Ent × Bool)} (h : RInv bot T D G ((x, b) :: (y, c) :: r)) (e : x.key = y.key) : RInv bot T D (G ++ put1 b x) ((y, c) :: r) := by
  have h1 := h.one
  have h2 : sameHd x ((y, c) :: r) = true := by simp [sameHd, e]
  rw [h2, Bool.and_true] at h1
  refine ⟨h1, fun g hg => ⟨y, c, r, rfl, ?_⟩, fun x' b' r' e' d hd => ?_⟩
  · rcases List.mem_append.1 hg with hg | hg
    · obtain ⟨x', b', r', e1, e2⟩ := h.grp g hg
      cases e1
      rw [e2, e]
    · rw [put1_key hg, e]
  · cases e'
    have := h.low x b _ rfl d hd
    rw [e] at this
    exact this
theorem RInv.next {bot : Bool} {T D G : List Ent} {x : Ent} {b : Bool} {r : List (Ent × Bool)} (h : RInv bot T D G ((x, b) :: r)) (hn : ∀ y c r', r = (y, c) :: r' → x.key ≠ y.key ∧ cmpB x.key y.key ≤ 0) : RInv bot T (D ++ if bot then trimE (G ++ put1 b x) else G ++ put1 b x) [] r := by
  have h1 := h.one
  have h2 : sameHd x r = false := by
    cases r with
    | nil => rfl
    | cons y r' => obtain ⟨y, c⟩ := y; simp [sameHd, (hn y c r' rfl).1]
  rw [h2, Bool.and_false] at h1
  refine ⟨?_, (fun g hg => by cases hg), fun y c r' e d hd => ?_⟩
  · rw [h1]
    cases bot <;> simp [trimE_nil]
  · subst e
    obtain ⟨n1, n2⟩ := hn y c r' rfl
    have hlt : cmpB x.key y.key < 0 := by
      have : cmpB x.key y.key ≠ 0 := fun e => n1 ((cmpB_zero _ _).1 e)
      omega
    rcases List.mem_append.1 hd with hd | hd
    · rw [cmpB_lt (cmpB_neg (h.low x b _ rfl d hd)) (cmpB_neg hlt)]; decide
    · have hmem : d ∈ G ++ put1 b x := by
        cases bot with
        | false => simpa using hd
        | true =>
          have hd' : d ∈ trimE (G ++ put1 b x) := by simpa using hd
          unfold trimE at hd'
          rw [List.mem_reverse] at hd'
          have := (List.dropWhile_sublist _).mem hd'
          rwa [List.mem_reverse] at this
      have hk : d.key = x.key := by
        rcases List.mem_append.1 hmem with hg | hg
        · obtain ⟨x', b', r2, e1, e2⟩ := h.grp d hg
          cases e1
          exact e2
        · rw [put1_key hg]
      rw [hk]
      exact hlt
end Go.Proofs.Ytpgligfolecieaa

/-
  Numbers in memory; searching them; who looks.
-/
namespace Go.Proofs.Ytpgligfolecieaa
open Go.RowKit
set_option maxRecDepth 100000
set_option maxHeartbeats 4000000
/-- Numbers, one behind the other, as they lie in memory. -/
def U64s (w : World) (a : Option Addr) (ks : List Nat) : Prop := ∀ k s, ks[k]? = some s → (∃ b off, a = some ⟨b, off, none⟩ ∧ w.cell? ⟨b, off + k, none⟩ = some (.int .u64 (s : Nat))) ∧ s < 18446744073709551616
theorem U64s.quiet {w w' : World} {a : Option Addr} {ks : List Nat} (h : U64s w a ks) (t : Turns (fun _ => False) w w') : U64s w' a ks := fun k s hk => by
  obtain ⟨⟨b, off, e, hc⟩, hs⟩ := h k s hk
  exact ⟨⟨b, off, e, t.cell hc (fun x => x)⟩, hs⟩
theorem U64s.keep {S : Nat → Prop} {w w' : World} {a : Option Addr} {ks : List Nat} (h : U64s w a ks) (t : Turns S w w') (hS : ∀ x : Addr, a = some x → ¬ S x.block) : U64s w' a ks := fun k s hk => by
  obtain ⟨⟨b, off, e, hc⟩, hs⟩ := h k s hk
  exact ⟨⟨b, off, e, t.cell hc fun hb => hS ⟨b, off, none⟩ e hb⟩, hs⟩
theorem nan76 (x : Nat) (w : World) : Calls Try.prog 76 #[.int .u64 (x : Nat)] w fun e w' => e = .returned (.bool false) ∧ Turns (fun _ => False) w w' := by
  go_enter Try.func76, Try.ntmps76
  go_wp2_with fail
  go_ret
  exact ⟨rfl, Turns.refl _ _⟩
theorem nan69 (x : Nat) (w : World) : Calls Try.prog 69 #[.int .u64 (x : Nat)] w fun e w' => e = .returned (.bool false) ∧ Turns (fun _ => False) w w' := by
  go_enter Try.func69, Try.ntmps69
  go_wp2_with fail
  go_ret
  exact ⟨rfl, Turns.refl _ _⟩
theorem less68 (x y : Nat) (w : World) : Calls Try.prog 68 #[.int .u64 (x : Nat), .int .u64 (y : Nat)] w fun e w' => e = .returned (.bool (decide (x < y))) ∧ Turns (fun _ => False) w w' := by
  have N1 := hide (nan76 x)
  go_enter Try.func68, Try.ntmps68
  go_wp2_with fail
  refine (N1.out _).mono ?_
  rintro e w1 ⟨rfl, t1⟩
  have T1 := hide t1
  clear t1
  go_wp2_with fail
  go_ret
  refine ⟨congrArg Ending.returned (congrArg Value.bool ?_), T1.out⟩
  first | rfl | (by_cases h : x < y <;> simp [h] <;> omega)
/-- BinarySearch of numbers that rise: the first at or above. -/
theorem search51 (a : Option Addr) (n c : Nat) (ks : List Nat) (t : Nat) (w : World) (h : U64s w a ks) (hn : n = ks.length) (hmx : n ≤ 1000000) (hs : ks.Pairwise (· < ·)) :
    Calls Try.prog 51 #[.slice a n c, .int .u64 (t : Nat)] w fun e w' => ∃ (p : Nat) (v : Value), e = .returned (.tuple #[.int .i64 (p : Nat), v]) ∧ p ≤ n ∧ (∀ m s, m < p → ks[m]? = some s → s < t) ∧ (∀ s, ks[p]? = some s → t ≤ s) ∧ Turns (fun _ => False) w w' := by
  have H := hide h
  have HS := hide hs
  have HN := hide hn
  have LE := hide (fun (x : Nat) => less68 x t)
  have NA := hide (fun (x : Nat) => nan69 x)
  clear h hs hn
  go_enter Try.func51, Try.ntmps51
  go_wp2_with fail
  go_loopw [7, 8] (fun iv jv wr => ∃ i j : Nat, iv = .int .i64 (i : Nat) ∧ jv = .int .i64 (j : Nat) ∧ i ≤ j ∧ j ≤ n ∧ (∀ m s, m < i → ks[m]? = some s → s < t) ∧ (∀ s, ks[j]? = some s → t ≤ s) ∧ Turns (fun _ => False) w wr) (fun iv jv _ => (intOf jv).toNat - (intOf iv).toNat)
  case atStart => exact ⟨0, n, rfl, rfl, Nat.zero_le _, Nat.le_refl _, fun m s hm => by omega, fun s h => by
    have := (List.getElem?_eq_some_iff.1 h).1
    have := HN.out
    omega, Turns.refl _ _⟩
  case round =>
    obtain ⟨i, j, rfl, rfl, hij, hjn, h1, h2, hb⟩ := hrel
    have H1 := hide h1
    have H2 := hide h2
    have HB := hide hb
    clear h1 h2 hb
    by_cases hlt : i < j
    · have i1 : (i : Int) < (j : Int) := by omega
      have hmid : ((i : Int) + (j : Int)) / 2 = (((i + j) / 2 : Nat) : Int) := by omega
      have HMID := hide hmid
      clear hmid
      go_upto_region 5 with (fail)
      rw [HMID.out]
      have hm1 : i ≤ (i + j) / 2 := by omega
      have hm2 : (i + j) / 2 < j := by omega
      clear HMID
      generalize (i + j) / 2 = m at *
      obtain ⟨s, hks⟩ : ∃ s, ks[m]? = some s := ⟨_, List.getElem?_eq_getElem (by have := HN.out; omega)⟩
      obtain ⟨⟨b, off, rfl, hc⟩, hsb⟩ := (H.out.quiet HB.out) m s hks
      have HKS := hide hks
      clear hks
      have i2 : (m : Int) < n := by omega
      have i0 : (0 : Int) ≤ m := by omega
      go_wp2_with fail
      refine (LE.out s _).mono ?_
      rintro e w2 ⟨rfl, t2⟩
      have T2 := hide (HB.out.trans t2)
      clear t2
      by_cases hst : s < t
      · simp only [hst, decide_true]
        go_wp2_with fail
        go_roundw
        case rel => exact ⟨m + 1, j, by go_num, rfl, by omega, hjn, fun q s' hq hs' => by
          rcases Nat.lt_or_ge q m with hqm | hqm
          · have h3 := HS.out
            rw [List.pairwise_iff_getElem] at h3
            obtain ⟨g1, g2⟩ := List.getElem?_eq_some_iff.1 hs'
            obtain ⟨g3, g4⟩ := List.getElem?_eq_some_iff.1 HKS.out
            have := h3 q m g1 g3 hqm
            omega
          · obtain rfl : q = m := by omega
            rw [HKS.out] at hs'
            cases hs'
            exact hst, H2.out, T2.out⟩
        case measure => simp [intOf]; omega
      · simp only [hst, decide_false]
        go_wp2_with fail
        go_roundw
        case rel => exact ⟨i, m, rfl, rfl, hm1, by omega, H1.out, fun s' hs' => by
          rw [HKS.out] at hs'
          cases hs'
          omega, T2.out⟩
        case measure => simp [intOf]; omega
    · have i1 : ¬ (i : Int) < (j : Int) := by omega
      obtain rfl : i = j := by omega
      by_cases hin : i < n
      · obtain ⟨s, hks⟩ : ∃ s, ks[i]? = some s := ⟨_, List.getElem?_eq_getElem (by have := HN.out; omega)⟩
        obtain ⟨⟨b, off, rfl, hc⟩, hsb⟩ := (H.out.quiet HB.out) i s hks
        clear hks
        have i2 : (i : Int) < n := by omega
        have i0 : (0 : Int) ≤ i := by omega
        by_cases hst : s = t
        · subst hst
          go_wp2_with fail
          go_ret2
          first | exact ⟨i, _, rfl, hjn, H1.out, H2.out, HB.out⟩ | exact ⟨i, ⟨_, rfl⟩, hjn, H1.out, H2.out, HB.out⟩
        · have i3 : ¬ (s : Int) = t := by omega
          go_wp2_with fail
          refine (NA.out s _).mono ?_
          rintro e w2 ⟨rfl, t2⟩
          have T2 := hide (HB.out.trans t2)
          clear t2
          go_wp2_with fail
          go_ret2
          first | exact ⟨i, _, rfl, hjn, H1.out, H2.out, T2.out⟩ | exact ⟨i, ⟨_, rfl⟩, hjn, H1.out, H2.out, T2.out⟩
      · have i2 : ¬ (i : Int) < n := by omega
        go_wp2_with fail
        go_ret2
        first | exact ⟨i, _, rfl, hjn, H1.out, H2.out, HB.out⟩ | exact ⟨i, ⟨_, rfl⟩, hjn, H1.out, H2.out, HB.out⟩
/-- checkLooks. -/
def ordB (b : Bool) : Int := if b then 0 else 2
theorem checkLooks_any (a : Option Addr) (n c : Nat) (ks : List Nat) (w : World) (h : U64s w a ks) (hn : n = ks.length) (hmx : n ≤ 1000000) :
    Calls Try.prog 37 #[.slice a n c] w fun e w' => e = .returned (.int .i64 (ordB (looksOk ks))) ∧ Turns (fun _ => False) w w' := by
  have H := hide h
  have HN := hide hn
  clear h hn
  go_enter Try.func37, Try.ntmps37
  go_wp2_with fail
  go_loopw [7] (fun iv wr => ∃ i : Nat, iv = .int .i64 (i : Nat) ∧ i ≤ n ∧ (∀ j, j < i → lkAt ks j = true) ∧ Turns (fun _ => False) w wr) (fun iv _ => n - (intOf iv).toNat)
  case atStart => exact ⟨0, rfl, Nat.zero_le _, fun j hj => by omega, Turns.refl _ _⟩
  case round =>
    obtain ⟨i, rfl, hi, h1, hb⟩ := hrel
    have H1 := hide h1
    have HB := hide hb
    clear h1 hb
    by_cases hin : i < n
    · obtain ⟨s, hks⟩ : ∃ s, ks[i]? = some s := ⟨_, List.getElem?_eq_getElem (by have := HN.out; omega)⟩
      obtain ⟨⟨b, off, rfl, hc⟩, hsb⟩ := (H.out.quiet HB.out) i s hks
      have i2 : (i : Int) < n := by omega
      have i0 : (0 : Int) ≤ i := by omega
      have hlk : lkAt ks i = (decide (s ≤ topN) && (decide (i = 0) || decide (ks.getD (i - 1) 0 < s))) := by unfold lkAt; rw [getD_at hks]
      have HLK := hide hlk
      clear hks hlk
      by_cases hbig : 72057594037927935 < s
      · have i3 : (72057594037927935 : Int) < s := by omega
        go_wp2_with fail
        go_ret
        refine ⟨?_, HB.out⟩
        have hf : looksOk ks = false := by
          rw [Bool.eq_false_iff]
          intro hh
          have h3 := looksOk_iff.1 hh i (by have := HN.out; omega)
          rw [HLK.out] at h3
          rw [Bool.and_eq_true, decide_eq_true_eq] at h3
          have h4 : s ≤ 72057594037927935 := h3.1
          omega
        rw [hf]
        rfl
      · have i3 : ¬ (72057594037927935 : Int) < s := by omega
        rcases i with _ | i
        · have hc0 : wr.cell? ⟨b, off, none⟩ = some (.int .u64 (s : Nat)) := by simpa using hc
          go_wp2_with fail
          go_roundw
          case rel => exact ⟨1, by go_num, by omega, fun j hj => by
            obtain rfl : j = 0 := by omega
            rw [HLK.out]
            have h4 : s ≤ 72057594037927935 := by omega
            have h5 : s ≤ topN := h4
            simp [h5], HB.out⟩
          case measure => simp [intOf]; omega
        · obtain ⟨p, hkp⟩ : ∃ p, ks[i]? = some p := ⟨_, List.getElem?_eq_getElem (by have := HN.out; omega)⟩
          obtain ⟨⟨b', off', e', hc'⟩, hpb⟩ := (H.out.quiet HB.out) i p hkp
          cases e'
          have HLK2 := hide (show lkAt ks (i + 1) = (decide (s ≤ topN) && decide (p < s)) by
            rw [HLK.out]
            simp only [Nat.add_sub_cancel]
            rw [getD_at hkp]
            simp)
          clear hkp HLK
          have i4 : (0 : Int) < (i : Int) + 1 := by omega
          have i5 : (i : Int) < n := by omega
          by_cases hsp : s ≤ p
          · have i6 : (s : Int) ≤ p := by omega
            go_wp2_with fail
            go_ret
            refine ⟨?_, HB.out⟩
            have hf : looksOk ks = false := by
              rw [Bool.eq_false_iff]
              intro hh
              have h3 := looksOk_iff.1 hh (i + 1) (by have := HN.out; omega)
              rw [HLK2.out] at h3
              simp only [Bool.and_eq_true, decide_eq_true_eq] at h3
              have h4 := h3.2
              omega
            rw [hf]
            rfl
          · have i6 : ¬ (s : Int) ≤ p := by omega
            go_wp2_with fail
            go_roundw
            case rel => exact ⟨i + 2, by go_num, by omega, fun j hj => by
              rcases Nat.lt_or_ge j (i + 1) with hj2 | hj2
              · exact H1.out j hj2
              · obtain rfl : j = i + 1 := by omega
                rw [HLK2.out]
                have h4 : s ≤ 72057594037927935 := by omega
                have h5 : s ≤ topN := h4
                have h6 : p < s := by omega
                simp [h5, h6], HB.out⟩
            case measure => simp [intOf]; omega
    · have i2 : ¬ (i : Int) < n := by omega
      go_wp2_with fail
      go_ret
      refine ⟨?_, HB.out⟩
      have hf : looksOk ks = true := looksOk_iff.2 fun j hj => H1.out j (by have := HN.out; omega)
      rw [hf]
      rfl
theorem clip52 (a : Option Addr) (n c : Nat) (hn : n ≤ c) (w : World) : Calls Try.prog 52 #[.slice a n c] w fun e w' => e = .returned (.slice a n n) ∧ Turns (fun _ => False) w w' := by
  have i1 : (n : Int) ≤ c := by omega
  go_enter Try.func52, Try.ntmps52
  go_wp2_with fail
  go_ret
  first | exact ⟨rfl, Turns.refl _ _⟩ | skip
theorem checkTarget_any (t : Int) (w : World) : Calls Try.prog 28 #[.int .i64 t] w fun e w' => e = .returned (.int .i64 (ordB (decide (1 ≤ t) && decide (t ≤ 16777216)))) ∧ Turns (fun _ => False) w w' := by
  by_cases h1 : t < 1
  · have hf : (decide (1 ≤ t) && decide (t ≤ 16777216)) = false := by simp; omega
    rw [hf]
    clear hf
    go_enter Try.func28, Try.ntmps28
    go_wp2_with fail
    go_ret
    exact ⟨rfl, Turns.refl _ _⟩
  · by_cases h2 : 16777216 < t
    · have hf : (decide (1 ≤ t) && decide (t ≤ 16777216)) = false := by simp; omega
      rw [hf]
      clear hf
      go_enter Try.func28, Try.ntmps28
      go_wp2_with fail
      go_ret
      exact ⟨rfl, Turns.refl _ _⟩
    · have hf : (decide (1 ≤ t) && decide (t ≤ 16777216)) = true := by simp; omega
      rw [hf]
      clear hf
      go_enter Try.func28, Try.ntmps28
      go_wp2_with fail
      go_ret
      exact ⟨rfl, Turns.refl _ _⟩
end Go.Proofs.Ytpgligfolecieaa
