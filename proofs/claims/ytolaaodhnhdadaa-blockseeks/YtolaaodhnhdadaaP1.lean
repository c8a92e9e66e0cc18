/-
  One entry put into a row of entries: what the three appends answer, in each order.
-/
import Derived.Test.YtolaaodhnhdadaaK3
import Derived.Test.YtolaaodhnhdadaaEs
namespace Go.Proofs.Ytolaaodhnhdadaa
open Go.RowKit
set_option maxRecDepth 100000
/-- How many entries are ahead of one. -/
def pIdx (x : En) : List Tow → Nat
  | [] => 0
  | y :: r => if cmpE y.e.en x < 0 then pIdx x r + 1 else 0
def putL (x : Tow) (R : List Tow) : List Tow := R.take (pIdx x.e.en R) ++ x :: R.drop (pIdx x.e.en R)
theorem pIdx_le (x : En) : ∀ R : List Tow, pIdx x R ≤ R.length
  | [] => Nat.le_refl _
  | y :: r => by
    have := pIdx_le x r
    unfold pIdx
    rw [List.length_cons]
    split <;> omega
theorem pIdx_eq (x : En) : ∀ (R : List Tow) (k : Nat), k ≤ R.length → (∀ j y, j < k → R[j]? = some y → cmpE y.e.en x < 0) → (∀ y, R[k]? = some y → ¬ cmpE y.e.en x < 0) → pIdx x R = k
  | [], k, hk, _, _ => by simp at hk; simp [pIdx, hk]
  | y :: r, 0, _, _, h2 => by
    have := h2 y rfl
    simp [pIdx, this]
  | y :: r, k + 1, hk, h1, h2 => by
    have h0 := h1 0 y (by omega) rfl
    have := pIdx_eq x r k (by simpa using hk) (fun j z hj hz => h1 (j + 1) z (by omega) (by simpa using hz)) (fun z hz => h2 z (by simpa using hz))
    simp [pIdx, h0, this]
theorem putL_length (x : Tow) (R : List Tow) : (putL x R).length = R.length + 1 := by
  have := pIdx_le x.e.en R
  unfold putL
  rw [List.length_append, List.length_cons, List.length_take, List.length_drop]
  omega
theorem mem_putL {x y : Tow} {R : List Tow} : y ∈ putL x R ↔ y = x ∨ y ∈ R := by
  unfold putL
  rw [List.mem_append, List.mem_cons]
  constructor
  · rintro (h | h | h)
    · exact .inr (List.mem_of_mem_take h)
    · exact .inl h
    · exact .inr (List.mem_of_mem_drop h)
  · rintro (h | h)
    · exact .inr (.inl h)
    · have : y ∈ R.take (pIdx x.e.en R) ++ R.drop (pIdx x.e.en R) := by rw [List.take_append_drop]; exact h
      rcases List.mem_append.1 this with h | h
      · exact .inl h
      · exact .inr (.inr h)
theorem entCells_get : ∀ (R : List Tow) (j : Nat) (u : Value), (entCells R)[j]? = some u → ∃ x, R[j / 4]? = some x ∧ [x.kv, .int .u64 (x.e.seq : Nat), .int .i64 x.e.kind, x.vv][j % 4]? = some u
  | [], j, u, h => by simp [entCells] at h
  | y :: r, j, u, h => by
    have e : entCells (y :: r) = [y.kv, .int .u64 (y.e.seq : Nat), .int .i64 y.e.kind, y.vv] ++ entCells r := rfl
    rw [e] at h
    by_cases hj : j < 4
    · rw [List.getElem?_append_left (by simpa using hj)] at h
      refine ⟨y, by rw [Nat.div_eq_of_lt hj]; rfl, by rw [Nat.mod_eq_of_lt hj]; exact h⟩
    · rw [List.getElem?_append_right (by simp; omega)] at h
      obtain ⟨x, h1, h2⟩ := entCells_get r (j - 4) u (by simpa using h)
      refine ⟨x, ?_, ?_⟩
      · rw [show j / 4 = (j - 4) / 4 + 1 by omega]; exact h1
      · rw [show j % 4 = (j - 4) % 4 by omega]; exact h2
theorem entCells_one {R : List Tow} {u : Value} (h : u ∈ entCells R) : u.oneCell' = true := by
  obtain ⟨x, _, hu⟩ := List.mem_flatMap.1 h
  simp only [List.mem_cons, List.not_mem_nil, or_false] at hu
  rcases hu with rfl | rfl | rfl | rfl <;> rfl
abbrev SrcE (w : World) (x : Value) (n : Nat) (news : List Tow) : Prop := Src Try.prog Try.t28.size 30 x n (entCells news) w
theorem src_part {V : World} {b off : Nat} {R : List Tow} (h : Ents V (some ⟨b, off, none⟩) R) (i m c' : Nat) (hm : i + m ≤ R.length) : SrcE V (.slice (some ⟨b, off + i * 4, none⟩) m c') m ((R.drop i).take m) := by
  have hl : ((R.drop i).take m).length = m := by rw [List.length_take, List.length_drop]; omega
  refine Src.ofSlice V Try.underlying30 _ m c' _ (by rw [t29_size, entCells_length, hl]) (fun j u hu => ?_) (fun u hu => entCells_one hu)
  obtain ⟨x, h1, h2⟩ := entCells_get _ j u hu
  have hj : j / 4 < m := by have := (List.getElem?_eq_some_iff.1 h1).1; omega
  have h3 : R[i + j / 4]? = some x := by
    rw [List.getElem?_take_of_lt hj, List.getElem?_drop] at h1
    exact h1
  obtain ⟨⟨b', off', e, hc⟩, _⟩ := h (i + j / 4) x h3
  cases e
  rw [Go.WideShapes.add_plain, show off + i * 4 + j = off + (i + j / 4) * 4 + j % 4 by omega]
  exact hc _ _ h2
theorem src_none (V : World) (a : Option Addr) (c : Nat) : SrcE V (.slice a 0 c) 0 [] := by
  cases a with
  | none => exact Src.ofNil V Try.underlying30 c
  | some a => exact Src.ofSlice V Try.underlying30 a 0 c [] (by simp) (fun j u hu => by cases hu) (fun u hu => by cases hu)
theorem src_one {V : World} {sb : Nat} {x : Tow} (h : V.heap[sb]? = some (.cells x.ent 28 (0, 0))) (c : Nat) : SrcE V (.slice (some ⟨sb, 0, none⟩) 1 c) 1 [x] :=
  Src.ofSlice V Try.underlying30 _ 1 c _ (by rw [t29_size]; rfl) (fun j u hu => by
    rw [Go.WideShapes.add_plain, Nat.zero_add, cell_of_row V sb j _ 28 (0, 0) h]
    simpa [entCells, Tow.ent] using hu) (fun u hu => entCells_one hu)
/-- Append of entries. -/
theorem append_ents (w : World) (B : Nat) (g0 sLen sCap : Nat) (R : List Tow) (hl : sLen = R.length) (x : Value) (news : List Tow) (n : Nat) (hn : n = news.length) (hx : SrcE w x n news) (hB : B ≤ w.heap.size) (hg : B ≤ g0) (hc : sLen ≤ sCap) (hrow : RowC w g0 28 (sCap * 4) (entCells R)) (hsm : sLen + n ≤ 1000000) :
    ∃ g c w', (∀ ty, (Builtin.append_ #[30, 30] ty #[.slice (some ⟨g0, 0, none⟩) sLen sCap, x]).run Try.prog w = .ok (.slice (some ⟨g, 0, none⟩) (sLen + n) c) w') ∧ B ≤ g ∧ RowC w' g 28 (c * 4) (entCells (R ++ news)) ∧ sLen + n ≤ c ∧ Turns (fun k => k = g0) w w' := by
  obtain ⟨g', cp, w', hr, hg', hrow2, hb, hcp, hin, hnew, hkeep⟩ := append_gen2 (P := Try.prog) w B 30 28 Try.t28 _ Try.underlying30 t29_info t29_zero rfl (some ⟨g0, 0, none⟩) sLen sCap (entCells R) (by rw [t29_size, hl, entCells_length]) x n _ hx hB
    (.inr ⟨g0, rfl, hg, hc, by rw [t29_size]; exact hrow⟩) (by rw [t29_bytes]; omega) (by omega)
  refine ⟨g', cp, w', hr, hg', ?_, hcp, ⟨hb.os, hb.tape, hb.output, hb.size, fun k hk hn => hkeep k hk fun e => hn (by cases e; rfl)⟩⟩
  rw [t29_size] at hrow2
  rw [show entCells (R ++ news) = entCells R ++ entCells news by simp [entCells]]
  exact hrow2
section
variable {B : Nat} {W : World} {l : List Tow} {s : Tow} {i : Nat} {x1 x3 : Value}
/-- What the last two appends answer. -/
def Rest (B : Nat) (W V : World) (l : List Tow) (s : Tow) (i g1 c1 sb : Nat) (x3 : Value) : Prop :=
  ∃ g2 c2 Wb g3 c3 Wc, (∀ ty, (Builtin.append_ #[30, 30] ty #[.slice (some ⟨g1, 0, none⟩) i c1, .slice (some ⟨sb, 0, none⟩) 1 1]).run Try.prog V = .ok (.slice (some ⟨g2, 0, none⟩) (i + 1) c2) Wb) ∧
    (∀ ty, (Builtin.append_ #[30, 30] ty #[.slice (some ⟨g2, 0, none⟩) (i + 1) c2, x3]).run Try.prog Wb = .ok (.slice (some ⟨g3, 0, none⟩) (l.length + 1) c3) Wc) ∧
    RowC Wc g3 28 (c3 * 4) (entCells (l.take i ++ s :: l.drop i)) ∧ B ≤ g3 ∧ l.length + 1 ≤ c3 ∧ Turns (fun k => B ≤ k) W Wb ∧ Turns (fun k => B ≤ k) W Wc
theorem ins_rest (V : World) (g1 c1 sb : Nat) (hi : i ≤ l.length) (hL : l.length ≤ 100000) (hBW : B ≤ W.heap.size) (hV : Turns (fun k => B ≤ k) W V) (hg1 : B ≤ g1) (hc1 : i ≤ c1) (row : RowC V g1 28 (c1 * 4) (entCells (l.take i))) (hs : V.heap[sb]? = some (.cells s.ent 28 (0, 0)))
    (hx3 : ∀ V, Turns (fun k => B ≤ k) W V → SrcE V x3 (l.length - i) (l.drop i)) : Rest B W V l s i g1 c1 sb x3 := by
  have hl1 : i = (l.take i).length := by rw [List.length_take]; omega
  obtain ⟨g2, c2, Wb, q2, hg2, row2, hc2, t2⟩ := append_ents V B g1 i c1 (l.take i) hl1 _ [s] 1 rfl (src_one hs 1) (Nat.le_trans hBW hV.size) hg1 hc1 row (by omega)
  have tb : Turns (fun k => B ≤ k) W Wb := hV.trans (t2.mono fun k _ e => by rw [e]; exact hg1)
  obtain ⟨g3, c3, Wc, q3, hg3, row3, hc3, t3⟩ := append_ents Wb B g2 (i + 1) c2 (l.take i ++ [s]) (by rw [List.length_append, ← hl1]; rfl) x3 (l.drop i) (l.length - i) (by rw [List.length_drop]) (hx3 Wb tb) (Nat.le_trans hBW tb.size) hg2 hc2 row2 (by omega)
  rw [show i + 1 + (l.length - i) = l.length + 1 by omega] at q3 hc3
  refine ⟨g2, c2, Wb, g3, c3, Wc, q2, q3, ?_, hg3, hc3, tb, tb.trans (t3.mono fun k _ e => by rw [e]; exact hg2)⟩
  rw [show l.take i ++ s :: l.drop i = l.take i ++ [s] ++ l.drop i by simp]
  exact row3
theorem ins_first (V : World) (e : Nat) (hi : i ≤ l.length) (hL : l.length ≤ 100000) (hBW : B ≤ W.heap.size) (hV : Turns (fun k => B ≤ k) W V) (hge : B ≤ e) (he : V.heap[e]? = some (.cells #[] 28 (0, 0))) (hx1 : SrcE V x1 i (l.take i)) :
    ∃ g1 c1 Wa, (∀ ty, (Builtin.append_ #[30, 30] ty #[.slice (some ⟨e, 0, none⟩) 0 0, x1]).run Try.prog V = .ok (.slice (some ⟨g1, 0, none⟩) i c1) Wa) ∧ B ≤ g1 ∧ i ≤ c1 ∧ RowC Wa g1 28 (c1 * 4) (entCells (l.take i)) ∧ Turns (fun k => B ≤ k) W Wa ∧ Turns (fun k => k = e) V Wa := by
  obtain ⟨g1, c1, Wa, q1, hg1, row1, hc1, t1⟩ := append_ents V B e 0 0 [] rfl x1 (l.take i) i (by rw [List.length_take]; omega) hx1 (Nat.le_trans hBW hV.size) hge (Nat.le_refl _) ⟨#[], he, Nat.le_refl _, fun k hk => by simp [entCells] at hk⟩ (by omega)
  rw [Nat.zero_add] at q1 hc1
  exact ⟨g1, c1, Wa, q1, hg1, hc1, row1, hV.trans (t1.mono fun k _ e' => by rw [e']; exact hge), t1⟩
/-- The three orders. -/
def Orders (B : Nat) (W : World) (l : List Tow) (s : Tow) (i : Nat) (x1 x3 : Value) (E S : Obj) : Prop :=
  (∃ g1 c1 Wa, (∀ ty, (Builtin.append_ #[30, 30] ty #[.slice (some ⟨W.heap.size, 0, none⟩) 0 0, x1]).run Try.prog (W.alloc E) = .ok (.slice (some ⟨g1, 0, none⟩) i c1) Wa) ∧ W.heap.size < Wa.heap.size ∧ Turns (fun k => B ≤ k) W Wa ∧ Rest B W (Wa.alloc S) l s i g1 c1 Wa.heap.size x3) ∧
  (∃ g1 c1 Wa, (∀ ty, (Builtin.append_ #[30, 30] ty #[.slice (some ⟨W.heap.size, 0, none⟩) 0 0, x1]).run Try.prog ((W.alloc E).alloc S) = .ok (.slice (some ⟨g1, 0, none⟩) i c1) Wa) ∧ Turns (fun k => B ≤ k) W Wa ∧ Rest B W Wa l s i g1 c1 (W.heap.size + 1) x3) ∧
  (∃ g1 c1 Wa, (∀ ty, (Builtin.append_ #[30, 30] ty #[.slice (some ⟨W.heap.size + 1, 0, none⟩) 0 0, x1]).run Try.prog ((W.alloc S).alloc E) = .ok (.slice (some ⟨g1, 0, none⟩) i c1) Wa) ∧ Turns (fun k => B ≤ k) W Wa ∧ Rest B W Wa l s i g1 c1 W.heap.size x3)
theorem ins_orders (hi : i ≤ l.length) (hL : l.length ≤ 100000) (hBW : B ≤ W.heap.size) (hx1 : ∀ V, Turns (fun k => B ≤ k) W V → SrcE V x1 i (l.take i)) (hx3 : ∀ V, Turns (fun k => B ≤ k) W V → SrcE V x3 (l.length - i) (l.drop i)) :
    Orders B W l s i x1 x3 (.cells #[] 28) (.cells s.ent 28) := by
  have nw := fun o => heap_alloc_new W o
  have t0 : ∀ o, Turns (fun k => B ≤ k) W (W.alloc o) := fun o => (Turns.refl _ W).alloc _
  refine ⟨?_, ?_, ?_⟩
  · obtain ⟨g1, c1, Wa, q1, hg1, hc1, row, ta, tb⟩ := ins_first (W := W) _ W.heap.size hi hL hBW (t0 (.cells #[] 28)) hBW (nw _) (hx1 _ (t0 _))
    refine ⟨g1, c1, Wa, q1, by have := tb.size; simp at this; omega, ta, ins_rest _ g1 c1 _ hi hL hBW (ta.alloc _) hg1 hc1 (row.turns ((Turns.refl (fun _ => False) Wa).alloc _) (fun x => x)) (heap_alloc_new Wa _) hx3⟩
  · have t1 : Turns (fun k => B ≤ k) W ((W.alloc (.cells #[] 28)).alloc (.cells s.ent 28)) := (t0 _).alloc _
    have e1 : (W.alloc (.cells #[] 28)).heap.size = W.heap.size + 1 := by simp
    obtain ⟨g1, c1, Wa, q1, hg1, hc1, row, ta, tb⟩ := ins_first (W := W) _ W.heap.size hi hL hBW t1 hBW ((heap_alloc_old _ _ (by simp)).trans (nw _)) (hx1 _ t1)
    have hs := heap_alloc_new (W.alloc (.cells #[] 28)) (.cells s.ent 28)
    rw [e1] at hs
    exact ⟨g1, c1, Wa, q1, ta, ins_rest _ g1 c1 _ hi hL hBW ta hg1 hc1 row (tb.heap hs (by omega)) hx3⟩
  · have t1 : Turns (fun k => B ≤ k) W ((W.alloc (.cells s.ent 28)).alloc (.cells #[] 28)) := (t0 _).alloc _
    have e1 : (W.alloc (.cells s.ent 28)).heap.size = W.heap.size + 1 := by simp
    have hn := heap_alloc_new (W.alloc (.cells s.ent 28)) (.cells #[] 28)
    rw [e1] at hn
    obtain ⟨g1, c1, Wa, q1, hg1, hc1, row, ta, tb⟩ := ins_first (W := W) _ (W.heap.size + 1) hi hL hBW t1 (by omega) hn (hx1 _ t1)
    have hs := (heap_alloc_old (W.alloc (.cells s.ent 28)) (.cells #[] 28) (by simp)).trans (nw (.cells s.ent 28))
    exact ⟨g1, c1, Wa, q1, ta, ins_rest _ g1 c1 _ hi hL hBW ta hg1 hc1 row (tb.heap hs (by omega)) hx3⟩
end
/-- Where the second part of a row lies. -/
def dropV (a : Option Addr) (n c i : Nat) : Value := .slice (if c = i then a else Option.map (fun x => x.add (i * 4)) a) (n - i) (c - i)
/-- The two parts of a row, whatever it is. -/
theorem parts {w : World} {a : Option Addr} {n c : Nat} {R : List Tow} (h : Ents w a R) (hn : n = R.length) (hnc : n ≤ c) (hz : (a = none ∧ c = 0) ∨ ∃ b off, a = some ⟨b, off, none⟩ ∧ b < w.heap.size) (i : Nat) (hi : i ≤ n) :
    (∀ V, Turns (fun k => w.heap.size ≤ k) w V → SrcE V (.slice a i c) i (R.take i)) ∧ (∀ V, Turns (fun k => w.heap.size ≤ k) w V → SrcE V (dropV a n c i) (R.length - i) (R.drop i)) := by
  rcases hz with ⟨rfl, rfl⟩ | ⟨b, off, rfl, hbl⟩
  · obtain rfl : n = 0 := by omega
    obtain rfl : i = 0 := by omega
    have hR : R = [] := by simpa using hn.symm
    subst hR
    exact ⟨fun V _ => src_none V none 0, fun V _ => src_none V none 0⟩
  · have hE : ∀ V, Turns (fun k => w.heap.size ≤ k) w V → Ents V (some ⟨b, off, none⟩) R := fun V t => by
      intro k x hx
      obtain ⟨⟨b', off', e, hc⟩, h1, h2⟩ := h k x hx
      cases e
      refine ⟨⟨b, off, rfl, fun j u hu => t.cell (hc j u hu) (by show ¬ w.heap.size ≤ b; omega)⟩, ?_, ?_⟩
      · exact h1.quiet ⟨t.os, t.tape, t.output, t.size, fun k hk _ => t.block k hk (by omega)⟩
      · exact h2.quiet ⟨t.os, t.tape, t.output, t.size, fun k hk _ => t.block k hk (by omega)⟩
    refine ⟨fun V t => ?_, fun V t => ?_⟩
    · have := src_part (hE V t) 0 i c (by omega)
      rw [List.drop_zero] at this
      simpa using this
    · unfold dropV
      by_cases hic : c = i
      · subst hic
        obtain rfl : n = c := by omega
        rw [if_pos rfl, ← hn, Nat.sub_self, List.drop_of_length_le (by omega)]
        exact src_none V _ 0
      · rw [if_neg hic]
        have := src_part (hE V t) i (n - i) (c - i) (by omega)
        rw [List.take_of_length_le (by rw [List.length_drop]; omega)] at this
        rw [← hn, Option.map_some, Go.WideShapes.add_plain]
        exact this
end Go.Proofs.Ytolaaodhnhdadaa
