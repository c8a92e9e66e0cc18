import Derived.Test.YtefjljdgdoklmaaM20
/-
  Rows of texts of one's own, and one text that is put where it belongs.
-/
namespace Go.Proofs.Ytefjljdgdoklmaa
open Go.RowKit Go.Maps

theorem t9_size : Try.t9.size = 1 := by kernel_rfl
theorem t9_bytes : Try.t9.bytes = 16 := by kernel_rfl
theorem t9_info : Try.prog.info? 9 = some Try.t9 := by kernel_rfl
theorem t9_zero : Try.t9.zero = some (.string ⟨#[]⟩) := by kernel_rfl

/-- One text put before the first that is not smaller. -/
theorem ins_sorted (ks : List (List UInt8)) (s : List UInt8) (i : Nat) (l : List (List UInt8)) (hl : l = ks.mergeSort leB) (h1 : ∀ j x, j < i → l[j]? = some x → x < s) (h2 : ∀ x, l[i]? = some x → ¬ x < s) :
    l.take i ++ s :: l.drop i = (ks ++ [s]).mergeSort leB := by
  have tr : ∀ a b c : List UInt8, leB a b = true → leB b c = true → leB a c = true := fun a b c h1 h2 => by simp only [leB, decide_eq_true_eq] at *; exact List.le_trans h1 h2
  have tot : ∀ a b : List UInt8, (leB a b || leB b a) = true := fun a b => by simp only [leB, Bool.or_eq_true, decide_eq_true_eq]; exact List.le_total a b
  have hp : l.Pairwise (fun a b => leB a b = true) := by rw [hl]; exact List.pairwise_mergeSort tr tot ks
  have hpm : l.Perm ks := by rw [hl]; exact List.mergeSort_perm ks leB
  have hsplit := hp
  rw [← List.take_append_drop i l, List.pairwise_append] at hsplit
  obtain ⟨p1, p2, p3⟩ := hsplit
  have hd : ∀ x, x ∈ l.drop i → leB s x = true := by
    intro x hx
    cases e : l.drop i with
    | nil => rw [e] at hx; cases hx
    | cons y t =>
      have hy : l[i]? = some y := by
        have := List.getElem?_drop (xs := l) (i := i) (j := 0)
        rw [e] at this
        simpa using this.symm
      have hsy : leB s y = true := by
        simp only [leB, decide_eq_true_eq]
        exact List.not_lt.1 (h2 y hy)
      rw [e] at hx p2
      rcases List.mem_cons.1 hx with rfl | hx
      · exact hsy
      · exact tr _ _ _ hsy ((List.pairwise_cons.1 p2).1 x hx)
  have ht : ∀ x, x ∈ l.take i → leB x s = true := by
    intro x hx
    obtain ⟨j, hj, e⟩ := List.mem_iff_getElem.1 hx
    have hji : j < i := by
      rw [List.length_take] at hj; omega
    have hx' : l[j]? = some x := by
      rw [← e, List.getElem_take]
      exact List.getElem?_eq_getElem _
    simp only [leB, decide_eq_true_eq]
    exact List.le_of_lt (h1 j x hji hx')
  have hsrt : (l.take i ++ s :: l.drop i).Pairwise (fun a b => leB a b = true) := by
    rw [List.pairwise_append]
    refine ⟨p1, List.pairwise_cons.2 ⟨hd, p2⟩, fun a ha b hb => ?_⟩
    rcases List.mem_cons.1 hb with rfl | hb
    · exact ht a ha
    · exact p3 a ha b hb
  have hperm : (l.take i ++ s :: l.drop i).Perm (ks ++ [s]) := by
    refine List.perm_middle.trans ?_
    rw [List.take_append_drop]
    exact (hpm.cons s).trans (List.perm_append_singleton s ks).symm
  rw [← mergeSort_of_perm hperm]
  exact (List.mergeSort_of_pairwise hsrt).symm

def strCells (ss : List (List UInt8)) : List Value := ss.map encStr
/-- Append of texts. -/
theorem append_strs2 (w : World) (B : Nat) (base : Option Addr) (sLen sCap : Nat) (ss : List (List UInt8)) (hl : sLen = ss.length) (x : Value) (news : List (List UInt8)) (n : Nat) (hn : n = news.length) (hx : Src Try.prog Try.t9.size 30 x n (strCells news) w) (hB : B ≤ w.heap.size)
    (hbase : ∃ g, base = some ⟨g, 0, none⟩ ∧ B ≤ g ∧ sLen ≤ sCap ∧ RowC w g 9 sCap (strCells ss)) (hsm : sLen + n ≤ 1000000000) :
    ∃ g c w', (∀ ty, (Builtin.append_ #[30, 30] ty #[.slice base sLen sCap, x]).run Try.prog w = .ok (.slice (some ⟨g, 0, none⟩) (sLen + n) c) w') ∧ B ≤ g ∧ RowC w' g 9 c (strCells (ss ++ news)) ∧ Below B w w' ∧ sLen + n ≤ c ∧ Turns (fun k => base = some ⟨k, 0, none⟩) w w' ∧ (base = some ⟨g, 0, none⟩ ∨ w.heap.size ≤ g) := by
  obtain ⟨g, c, w', hr, hg, hrow, hb, hc, hin, hout, hk⟩ := append_gen2 (P := Try.prog) w B 30 9 Try.t9 _ Try.underlying30 t9_info t9_zero rfl base sLen sCap (strCells ss) (by rw [t9_size, hl]; simp [strCells]) x n (strCells news) hx hB (.inr (by
    obtain ⟨g, h1, h2, h3, h4⟩ := hbase
    exact ⟨g, h1, h2, h3, by rw [t9_size, Nat.mul_one]; exact h4⟩)) (by rw [t9_bytes]; omega) (by omega)
  rw [t9_size, Nat.mul_one] at hrow
  refine ⟨g, c, w', hr, hg, by rw [show strCells (ss ++ news) = strCells ss ++ strCells news by simp [strCells]]; exact hrow, hb, hc, ⟨hb.os, hb.tape, hb.output, hb.size, fun k hk' hn' => hk k hk' hn'⟩, ?_⟩
  rcases Nat.lt_or_ge sCap (sLen + n) with h | h
  · exact .inr (by rw [hout h]; exact Nat.le_refl _)
  · exact .inl (hin h).1
end Go.Proofs.Ytefjljdgdoklmaa

/-
  One text put into a row of texts: what the three appends answer, in each order.
-/
namespace Go.Proofs.Ytefjljdgdoklmaa
open Go.RowKit Go.Maps

/-- A row of texts of one's own, behind B. -/
def SRow (w : World) (B : Nat) (v : Value) (ss : List (List UInt8)) : Prop :=
  (ss = [] ∧ v = .slice none 0 0) ∨ ∃ g c n : Nat, v = .slice (some ⟨g, 0, none⟩) n c ∧ n = ss.length ∧ n ≤ c ∧ B ≤ g ∧ RowC w g 9 c (strCells ss)
theorem SRow.row {w : World} {B : Nat} {v : Value} {ss : List (List UInt8)} (h : SRow w B v ss) {k : Nat} (hk : inRow v k) : B ≤ k ∧ ∃ cs, w.heap[k]? = some (.cells cs 9 (0, 0)) := by
  obtain ⟨n', c', e⟩ := hk
  rcases h with ⟨_, rfl⟩ | ⟨g, c, n, rfl, _, _, hB, cs, h1, _⟩
  · cases e
  · cases e; exact ⟨hB, cs, h1⟩
theorem RowC.turn {S : Nat → Prop} {w w' : World} {g e room : Nat} {cells : List Value} (h : RowC w g e room cells) (t : Turns S w w') (hn : ¬ S g) : RowC w' g e room cells := by
  obtain ⟨cs, h1, h2, h3⟩ := h
  exact ⟨cs, t.heap h1 hn, h2, h3⟩
theorem SRow.keep {S : Nat → Prop} {w w' : World} {B : Nat} {v : Value} {ss : List (List UInt8)} (h : SRow w B v ss) (t : Turns S w w') (hn : ∀ k, inRow v k → ¬ S k) : SRow w' B v ss := by
  rcases h with h | ⟨g, c, n, h1, h2, h3, h4, h5⟩
  · exact .inl h
  · exact .inr ⟨g, c, n, h1, h2, h3, h4, h5.turn t (hn g ⟨n, c, h1⟩)⟩

abbrev SrcS (w : World) (x : Value) (n : Nat) (news : List (List UInt8)) : Prop := Src Try.prog Try.t9.size 30 x n (strCells news) w
theorem src_part {V : World} {g c : Nat} {ss : List (List UInt8)} (h : RowC V g 9 c (strCells ss)) (i m c' : Nat) (hm : i + m ≤ ss.length) : SrcS V (.slice (some ⟨g, i, none⟩) m c') m ((ss.drop i).take m) := by
  obtain ⟨cs, h1, _, h3⟩ := h
  refine Src.ofSlice V Try.underlying30 _ m c' _ (by rw [t9_size]; simp [strCells]; omega) (fun j u hu => ?_) (fun u hu => ?_)
  · have hj : j < m := by
      have := (List.getElem?_eq_some_iff.1 hu).1
      simp [strCells] at this
      omega
    rw [Go.WideShapes.add_plain, cell_of_row V g _ cs 9 (0, 0) h1, h3 _ (by simp [strCells]; omega), ← hu]
    simp [strCells, hj]
  · obtain ⟨b, _, rfl⟩ := List.mem_map.1 hu
    rfl
theorem src_none (V : World) (a : Addr) (c : Nat) : SrcS V (.slice (some a) 0 c) 0 [] :=
  Src.ofSlice V Try.underlying30 a 0 c [] (by simp) (fun j u hu => by cases hu) (fun u hu => by cases hu)
theorem src_one {V : World} {sb : Nat} {s : List UInt8} (h : V.cell? ⟨sb, 0, none⟩ = some (encStr s)) (c : Nat) : SrcS V (.slice (some ⟨sb, 0, none⟩) 1 c) 1 [s] :=
  Src.ofSlice V Try.underlying30 _ 1 c _ (by rw [t9_size]; rfl) (fun j u hu => by
    cases j with
    | zero => cases hu; exact h
    | succ j => cases hu) (fun u hu => by
    simp [strCells] at hu
    rw [hu]; rfl)

section
variable {B : Nat} {W : World} {l : List (List UInt8)} {s : List UInt8} {i : Nat} {x1 x3 : Value}
/-- What the last two appends answer. -/
def Rest (B : Nat) (W V : World) (l : List (List UInt8)) (s : List UInt8) (i g1 c1 sb : Nat) (x3 : Value) : Prop :=
  ∃ g2 c2 Wb g3 c3 Wc, (∀ ty, (Builtin.append_ #[30, 30] ty #[.slice (some ⟨g1, 0, none⟩) i c1, .slice (some ⟨sb, 0, none⟩) 1 1]).run Try.prog V = .ok (.slice (some ⟨g2, 0, none⟩) (i + 1) c2) Wb) ∧
    (∀ ty, (Builtin.append_ #[30, 30] ty #[.slice (some ⟨g2, 0, none⟩) (i + 1) c2, x3]).run Try.prog Wb = .ok (.slice (some ⟨g3, 0, none⟩) (i + 1 + (l.length - i)) c3) Wc) ∧
    SRow Wc B (.slice (some ⟨g3, 0, none⟩) (i + 1 + (l.length - i)) c3) (l.take i ++ s :: l.drop i) ∧ Turns (fun k => B ≤ k) W Wc
theorem ins_rest (V : World) (g1 c1 sb : Nat) (hi : i ≤ l.length) (hL : l.length ≤ 1000000) (hBW : B ≤ W.heap.size) (hV : Turns (fun k => B ≤ k) W V) (hg1 : B ≤ g1) (hc1 : i ≤ c1) (row : RowC V g1 9 c1 (strCells (l.take i))) (hs : V.cell? ⟨sb, 0, none⟩ = some (encStr s))
    (hx3 : ∀ V, Turns (fun k => B ≤ k) W V → SrcS V x3 (l.length - i) (l.drop i)) : Rest B W V l s i g1 c1 sb x3 := by
  have hl1 : i = (l.take i).length := by rw [List.length_take]; omega
  obtain ⟨g2, c2, Wb, q2, hg2, row2, b2, hc2, t2, _⟩ := append_strs2 V B (some ⟨g1, 0, none⟩) i c1 (l.take i) hl1 _ [s] 1 rfl (src_one hs 1) (Nat.le_trans hBW hV.size) ⟨g1, rfl, hg1, hc1, row⟩ (by omega)
  have tb : Turns (fun k => B ≤ k) W Wb := hV.trans (t2.mono fun k _ e => by cases e; exact hg1)
  obtain ⟨g3, c3, Wc, q3, hg3, row3, b3, hc3, t3, _⟩ := append_strs2 Wb B (some ⟨g2, 0, none⟩) (i + 1) c2 (l.take i ++ [s]) (by rw [List.length_append, ← hl1]; rfl) x3 (l.drop i) (l.length - i) (by rw [List.length_drop]) (hx3 Wb tb) (Nat.le_trans hBW tb.size) ⟨g2, rfl, hg2, hc2, row2⟩ (by omega)
  refine ⟨g2, c2, Wb, g3, c3, Wc, q2, q3, .inr ⟨g3, c3, _, rfl, ?_, hc3, hg3, ?_⟩, tb.trans (t3.mono fun k _ e => by cases e; exact hg2)⟩
  · simp; omega
  · rw [show l.take i ++ s :: l.drop i = l.take i ++ [s] ++ l.drop i by simp]
    exact row3
/-- What the first append answers, and the other two behind it. -/
theorem ins_first (V : World) (e : Nat) (hi : i ≤ l.length) (hL : l.length ≤ 1000000) (hBW : B ≤ W.heap.size) (hV : Turns (fun k => B ≤ k) W V) (hge : B ≤ e) (he : V.heap[e]? = some (.cells #[] 9 (0, 0))) (hx1 : SrcS V x1 i (l.take i)) :
    ∃ g1 c1 Wa, (∀ ty, (Builtin.append_ #[30, 30] ty #[.slice (some ⟨e, 0, none⟩) 0 0, x1]).run Try.prog V = .ok (.slice (some ⟨g1, 0, none⟩) i c1) Wa) ∧ B ≤ g1 ∧ i ≤ c1 ∧ RowC Wa g1 9 c1 (strCells (l.take i)) ∧ Turns (fun k => B ≤ k) W Wa ∧ Turns (fun k => k = e) V Wa := by
  obtain ⟨g1, c1, Wa, q1, hg1, row1, b1, hc1, t1, _⟩ := append_strs2 V B (some ⟨e, 0, none⟩) 0 0 [] rfl x1 (l.take i) i (by rw [List.length_take]; omega) hx1 (Nat.le_trans hBW hV.size) ⟨e, rfl, hge, Nat.le_refl _, #[], he, Nat.le_refl _, fun k hk => by simp [strCells] at hk⟩ (by omega)
  rw [Nat.zero_add] at q1 hc1
  exact ⟨g1, c1, Wa, q1, hg1, hc1, row1, hV.trans (t1.mono fun k _ e => by cases e; exact hge), t1.mono fun k _ e => by cases e; rfl⟩
/-- The three orders. -/
def Orders (B : Nat) (W : World) (l : List (List UInt8)) (s : List UInt8) (i : Nat) (x1 x3 : Value) (E S : Obj) : Prop :=
  (∃ g1 c1 Wa, (∀ ty, (Builtin.append_ #[30, 30] ty #[.slice (some ⟨W.heap.size, 0, none⟩) 0 0, x1]).run Try.prog (W.alloc E) = .ok (.slice (some ⟨g1, 0, none⟩) i c1) Wa) ∧ Rest B W (Wa.alloc S) l s i g1 c1 Wa.heap.size x3) ∧
  (∃ g1 c1 Wa, (∀ ty, (Builtin.append_ #[30, 30] ty #[.slice (some ⟨W.heap.size, 0, none⟩) 0 0, x1]).run Try.prog ((W.alloc E).alloc S) = .ok (.slice (some ⟨g1, 0, none⟩) i c1) Wa) ∧ Rest B W Wa l s i g1 c1 (W.heap.size + 1) x3) ∧
  (∃ g1 c1 Wa, (∀ ty, (Builtin.append_ #[30, 30] ty #[.slice (some ⟨W.heap.size + 1, 0, none⟩) 0 0, x1]).run Try.prog ((W.alloc S).alloc E) = .ok (.slice (some ⟨g1, 0, none⟩) i c1) Wa) ∧ Rest B W Wa l s i g1 c1 W.heap.size x3)
theorem ins_orders (hi : i ≤ l.length) (hL : l.length ≤ 1000000) (hBW : B ≤ W.heap.size) (hx1 : ∀ V, Turns (fun k => B ≤ k) W V → SrcS V x1 i (l.take i)) (hx3 : ∀ V, Turns (fun k => B ≤ k) W V → SrcS V x3 (l.length - i) (l.drop i)) :
    Orders B W l s i x1 x3 (.cells #[] 9) (.cells #[encStr s] 9) := by
  have nw := fun o => heap_alloc_new W o
  have t0 : ∀ o, Turns (fun k => B ≤ k) W (W.alloc o) := fun o => (Turns.refl _ W).alloc _
  refine ⟨?_, ?_, ?_⟩
  · obtain ⟨g1, c1, Wa, q1, hg1, hc1, row, ta, _⟩ := ins_first (W := W) _ W.heap.size hi hL hBW (t0 (.cells #[] 9)) hBW (nw _) (hx1 _ (t0 _))
    refine ⟨g1, c1, Wa, q1, ins_rest _ g1 c1 _ hi hL hBW (ta.alloc _) hg1 hc1 (row.turn ((Turns.refl (fun _ => False) Wa).alloc _) (fun x => x)) (cell_of_row _ _ 0 _ 9 (0, 0) (heap_alloc_new Wa _)) hx3⟩
  · have t1 : Turns (fun k => B ≤ k) W ((W.alloc (.cells #[] 9)).alloc (.cells #[encStr s] 9)) := (t0 _).alloc _
    have e1 : (W.alloc (.cells #[] 9)).heap.size = W.heap.size + 1 := by simp
    obtain ⟨g1, c1, Wa, q1, hg1, hc1, row, ta, tb⟩ := ins_first (W := W) _ W.heap.size hi hL hBW t1 hBW ((heap_alloc_old _ _ (by simp)).trans (nw _)) (hx1 _ t1)
    have hs := cell_of_row _ _ 0 _ 9 (0, 0) (heap_alloc_new (W.alloc (.cells #[] 9)) (.cells #[encStr s] 9))
    rw [e1] at hs
    exact ⟨g1, c1, Wa, q1, ins_rest _ g1 c1 _ hi hL hBW ta hg1 hc1 row (tb.cell hs (by show ¬ W.heap.size + 1 = W.heap.size; omega)) hx3⟩
  · have t1 : Turns (fun k => B ≤ k) W ((W.alloc (.cells #[encStr s] 9)).alloc (.cells #[] 9)) := (t0 _).alloc _
    have e1 : (W.alloc (.cells #[encStr s] 9)).heap.size = W.heap.size + 1 := by simp
    have hn := heap_alloc_new (W.alloc (.cells #[encStr s] 9)) (.cells #[] 9)
    rw [e1] at hn
    obtain ⟨g1, c1, Wa, q1, hg1, hc1, row, ta, tb⟩ := ins_first (W := W) _ (W.heap.size + 1) hi hL hBW t1 (by omega) hn (hx1 _ t1)
    have hs := cell_of_row _ W.heap.size 0 _ 9 (0, 0) ((heap_alloc_old (W.alloc (.cells #[encStr s] 9)) (.cells #[] 9) (by simp)).trans (nw (.cells #[encStr s] 9)))
    exact ⟨g1, c1, Wa, q1, ins_rest _ g1 c1 _ hi hL hBW ta hg1 hc1 row (tb.cell hs (by show ¬ W.heap.size = W.heap.size + 1; omega)) hx3⟩
end
end Go.Proofs.Ytefjljdgdoklmaa
