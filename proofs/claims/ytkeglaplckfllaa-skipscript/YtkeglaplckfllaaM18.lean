import Derived.Test.YtkeglaplckfllaaM17
import Derived.Test.YtkeglaplckfllaaM09
import Derived.Test.YtkeglaplckfllaaM02
/-
  Three appends in whatever order the parts are made: entries.
-/
namespace Go.Proofs.Ytkeglaplckfllaa
open Go.RowKit
set_option maxRecDepth 100000
theorem entCells_get : ∀ (R : List Tow) (j : Nat) (u : Value), (entCells R)[j]? = some u → ∃ x, R[j / 4]? = some x ∧ [x.kv, .int .u64 (x.e.seq : Nat), .int .i64 x.e.kind, x.vv][j % 4]? = some u
  | [], j, u, h => by simp [entCells] at h
  | y :: r, j, u, h => by
    have e : entCells (y :: r) = [y.kv, .int .u64 (y.e.seq : Nat), .int .i64 y.e.kind, y.vv] ++ entCells r := rfl
    rw [e] at h
    by_cases hj : j < 4
    · rw [List.getElem?_append_left (by simpa using hj)] at h
      refine ⟨y, by rw [Nat.div_eq_of_lt hj]; rfl, by rw [Nat.mod_eq_of_lt hj]; exact h⟩
    · rw [List.getElem?_append_right (by simp; omega)] at h
      obtain ⟨x, h1, h2⟩ := entCells_get r (j - 4) u (by simpa using h)
      refine ⟨x, ?_, ?_⟩
      · rw [show j / 4 = (j - 4) / 4 + 1 by omega]; exact h1
      · rw [show j % 4 = (j - 4) % 4 by omega]; exact h2
theorem entCells_one {R : List Tow} {u : Value} (h : u ∈ entCells R) : u.oneCell' = true := by
  obtain ⟨x, _, hu⟩ := List.mem_flatMap.1 h
  simp only [List.mem_cons, List.not_mem_nil, or_false] at hu
  rcases hu with rfl | rfl | rfl | rfl <;> rfl
abbrev SrcE (w : World) (x : Value) (n : Nat) (news : List Tow) : Prop := Src Try.prog Try.t29.size 33 x n (entCells news) w
theorem src_part {V : World} {b off : Nat} {R : List Tow} (h : Ents V (some ⟨b, off, none⟩) R) (i m c' : Nat) (hm : i + m ≤ R.length) : SrcE V (.slice (some ⟨b, off + i * 4, none⟩) m c') m ((R.drop i).take m) := by
  have hl : ((R.drop i).take m).length = m := by rw [List.length_take, List.length_drop]; omega
  refine Src.ofSlice V Try.underlying33 _ m c' _ (by rw [t29_size, entCells_length, hl]) (fun j u hu => ?_) (fun u hu => entCells_one hu)
  obtain ⟨x, h1, h2⟩ := entCells_get _ j u hu
  have hj : j / 4 < m := by have := (List.getElem?_eq_some_iff.1 h1).1; omega
  have h3 : R[i + j / 4]? = some x := by
    rw [List.getElem?_take_of_lt hj, List.getElem?_drop] at h1
    exact h1
  obtain ⟨⟨b', off', e, hc⟩, _⟩ := h (i + j / 4) x h3
  cases e
  rw [Go.WideShapes.add_plain, show off + i * 4 + j = off + (i + j / 4) * 4 + j % 4 by omega]
  exact hc _ _ h2
theorem src_none (V : World) (a : Option Addr) (c : Nat) : SrcE V (.slice a 0 c) 0 [] := by
  cases a with
  | none => exact Src.ofNil V Try.underlying33 c
  | some a => exact Src.ofSlice V Try.underlying33 a 0 c [] (by simp) (fun j u hu => by cases hu) (fun u hu => by cases hu)
theorem src_one {V : World} {sb : Nat} {x : Tow} (h : V.heap[sb]? = some (.cells x.ent 29 (0, 0))) (c : Nat) : SrcE V (.slice (some ⟨sb, 0, none⟩) 1 c) 1 [x] :=
  Src.ofSlice V Try.underlying33 _ 1 c _ (by rw [t29_size]; rfl) (fun j u hu => by
    rw [Go.WideShapes.add_plain, Nat.zero_add, cell_of_row V sb j _ 29 (0, 0) h]
    simpa [entCells, Tow.ent] using hu) (fun u hu => entCells_one hu)
/-- Append of entries. -/
theorem append_ents (w : World) (B : Nat) (g0 sLen sCap : Nat) (R : List Tow) (hl : sLen = R.length) (x : Value) (news : List Tow) (n : Nat) (hn : n = news.length) (hx : SrcE w x n news) (hB : B ≤ w.heap.size) (hg : B ≤ g0) (hc : sLen ≤ sCap) (hrow : RowC w g0 29 (sCap * 4) (entCells R)) (hsm : sLen + n ≤ 1000000) :
    ∃ g c w', (∀ ty, (Builtin.append_ #[33, 33] ty #[.slice (some ⟨g0, 0, none⟩) sLen sCap, x]).run Try.prog w = .ok (.slice (some ⟨g, 0, none⟩) (sLen + n) c) w') ∧ B ≤ g ∧ RowC w' g 29 (c * 4) (entCells (R ++ news)) ∧ sLen + n ≤ c ∧ Turns (fun k => k = g0) w w' := by
  obtain ⟨g', cp, w', hr, hg', hrow2, hb, hcp, hin, hnew, hkeep⟩ := append_gen2 (P := Try.prog) w B 33 29 Try.t29 _ Try.underlying33 t29_info t29_zero rfl (some ⟨g0, 0, none⟩) sLen sCap (entCells R) (by rw [t29_size, hl, entCells_length]) x n _ hx hB
    (.inr ⟨g0, rfl, hg, hc, by rw [t29_size]; exact hrow⟩) (by rw [t29_bytes]; omega) (by omega)
  refine ⟨g', cp, w', hr, hg', ?_, hcp, ⟨hb.os, hb.tape, hb.output, hb.size, fun k hk hn => hkeep k hk fun e => hn (by cases e; rfl)⟩⟩
  rw [t29_size] at hrow2
  rw [show entCells (R ++ news) = entCells R ++ entCells news by simp [entCells]]
  exact hrow2
section
variable {B : Nat} {W : World} {l : List Tow} {s : Tow} {i : Nat} {x1 x3 : Value}
/-- What the last two appends answer. -/
def Rest (B : Nat) (W V : World) (l : List Tow) (s : Tow) (i g1 c1 sb : Nat) (x3 : Value) : Prop :=
  ∃ g2 c2 Wb g3 c3 Wc, (∀ ty, (Builtin.append_ #[33, 33] ty #[.slice (some ⟨g1, 0, none⟩) i c1, .slice (some ⟨sb, 0, none⟩) 1 1]).run Try.prog V = .ok (.slice (some ⟨g2, 0, none⟩) (i + 1) c2) Wb) ∧
    (∀ ty, (Builtin.append_ #[33, 33] ty #[.slice (some ⟨g2, 0, none⟩) (i + 1) c2, x3]).run Try.prog Wb = .ok (.slice (some ⟨g3, 0, none⟩) (l.length + 1) c3) Wc) ∧
    RowC Wc g3 29 (c3 * 4) (entCells (l.take i ++ s :: l.drop i)) ∧ B ≤ g3 ∧ l.length + 1 ≤ c3 ∧ Turns (fun k => B ≤ k) W Wb ∧ Turns (fun k => B ≤ k) W Wc
theorem ins_rest (V : World) (g1 c1 sb : Nat) (hi : i ≤ l.length) (hL : l.length ≤ 100000) (hBW : B ≤ W.heap.size) (hV : Turns (fun k => B ≤ k) W V) (hg1 : B ≤ g1) (hc1 : i ≤ c1) (row : RowC V g1 29 (c1 * 4) (entCells (l.take i))) (hs : V.heap[sb]? = some (.cells s.ent 29 (0, 0)))
    (hx3 : ∀ V, Turns (fun k => B ≤ k) W V → SrcE V x3 (l.length - i) (l.drop i)) : Rest B W V l s i g1 c1 sb x3 := by
  have hl1 : i = (l.take i).length := by rw [List.length_take]; omega
  obtain ⟨g2, c2, Wb, q2, hg2, row2, hc2, t2⟩ := append_ents V B g1 i c1 (l.take i) hl1 _ [s] 1 rfl (src_one hs 1) (Nat.le_trans hBW hV.size) hg1 hc1 row (by omega)
  have tb : Turns (fun k => B ≤ k) W Wb := hV.trans (t2.mono fun k _ e => by rw [e]; exact hg1)
  obtain ⟨g3, c3, Wc, q3, hg3, row3, hc3, t3⟩ := append_ents Wb B g2 (i + 1) c2 (l.take i ++ [s]) (by rw [List.length_append, ← hl1]; rfl) x3 (l.drop i) (l.length - i) (by rw [List.length_drop]) (hx3 Wb tb) (Nat.le_trans hBW tb.size) hg2 hc2 row2 (by omega)
  rw [show i + 1 + (l.length - i) = l.length + 1 by omega] at q3 hc3
  refine ⟨g2, c2, Wb, g3, c3, Wc, q2, q3, ?_, hg3, hc3, tb, tb.trans (t3.mono fun k _ e => by rw [e]; exact hg2)⟩
  rw [show l.take i ++ s :: l.drop i = l.take i ++ [s] ++ l.drop i by simp]
  exact row3
theorem ins_first (V : World) (e : Nat) (hi : i ≤ l.length) (hL : l.length ≤ 100000) (hBW : B ≤ W.heap.size) (hV : Turns (fun k => B ≤ k) W V) (hge : B ≤ e) (he : V.heap[e]? = some (.cells #[] 29 (0, 0))) (hx1 : SrcE V x1 i (l.take i)) :
    ∃ g1 c1 Wa, (∀ ty, (Builtin.append_ #[33, 33] ty #[.slice (some ⟨e, 0, none⟩) 0 0, x1]).run Try.prog V = .ok (.slice (some ⟨g1, 0, none⟩) i c1) Wa) ∧ B ≤ g1 ∧ i ≤ c1 ∧ RowC Wa g1 29 (c1 * 4) (entCells (l.take i)) ∧ Turns (fun k => B ≤ k) W Wa ∧ Turns (fun k => k = e) V Wa := by
  obtain ⟨g1, c1, Wa, q1, hg1, row1, hc1, t1⟩ := append_ents V B e 0 0 [] rfl x1 (l.take i) i (by rw [List.length_take]; omega) hx1 (Nat.le_trans hBW hV.size) hge (Nat.le_refl _) ⟨#[], he, Nat.le_refl _, fun k hk => by simp [entCells] at hk⟩ (by omega)
  rw [Nat.zero_add] at q1 hc1
  exact ⟨g1, c1, Wa, q1, hg1, hc1, row1, hV.trans (t1.mono fun k _ e' => by rw [e']; exact hge), t1⟩
/-- The three orders. -/
def Orders (B : Nat) (W : World) (l : List Tow) (s : Tow) (i : Nat) (x1 x3 : Value) (E S : Obj) : Prop :=
  (∃ g1 c1 Wa, (∀ ty, (Builtin.append_ #[33, 33] ty #[.slice (some ⟨W.heap.size, 0, none⟩) 0 0, x1]).run Try.prog (W.alloc E) = .ok (.slice (some ⟨g1, 0, none⟩) i c1) Wa) ∧ W.heap.size < Wa.heap.size ∧ Turns (fun k => B ≤ k) W Wa ∧ Rest B W (Wa.alloc S) l s i g1 c1 Wa.heap.size x3) ∧
  (∃ g1 c1 Wa, (∀ ty, (Builtin.append_ #[33, 33] ty #[.slice (some ⟨W.heap.size, 0, none⟩) 0 0, x1]).run Try.prog ((W.alloc E).alloc S) = .ok (.slice (some ⟨g1, 0, none⟩) i c1) Wa) ∧ Turns (fun k => B ≤ k) W Wa ∧ Rest B W Wa l s i g1 c1 (W.heap.size + 1) x3) ∧
  (∃ g1 c1 Wa, (∀ ty, (Builtin.append_ #[33, 33] ty #[.slice (some ⟨W.heap.size + 1, 0, none⟩) 0 0, x1]).run Try.prog ((W.alloc S).alloc E) = .ok (.slice (some ⟨g1, 0, none⟩) i c1) Wa) ∧ Turns (fun k => B ≤ k) W Wa ∧ Rest B W Wa l s i g1 c1 W.heap.size x3)
theorem ins_orders (hi : i ≤ l.length) (hL : l.length ≤ 100000) (hBW : B ≤ W.heap.size) (hx1 : ∀ V, Turns (fun k => B ≤ k) W V → SrcE V x1 i (l.take i)) (hx3 : ∀ V, Turns (fun k => B ≤ k) W V → SrcE V x3 (l.length - i) (l.drop i)) :
    Orders B W l s i x1 x3 (.cells #[] 29) (.cells s.ent 29) := by
  have nw := fun o => heap_alloc_new W o
  have t0 : ∀ o, Turns (fun k => B ≤ k) W (W.alloc o) := fun o => (Turns.refl _ W).alloc _
  refine ⟨?_, ?_, ?_⟩
  · obtain ⟨g1, c1, Wa, q1, hg1, hc1, row, ta, tb⟩ := ins_first (W := W) _ W.heap.size hi hL hBW (t0 (.cells #[] 29)) hBW (nw _) (hx1 _ (t0 _))
    refine ⟨g1, c1, Wa, q1, by have := tb.size; simp at this; omega, ta, ins_rest _ g1 c1 _ hi hL hBW (ta.alloc _) hg1 hc1 (row.turns ((Turns.refl (fun _ => False) Wa).alloc _) (fun x => x)) (heap_alloc_new Wa _) hx3⟩
  · have t1 : Turns (fun k => B ≤ k) W ((W.alloc (.cells #[] 29)).alloc (.cells s.ent 29)) := (t0 _).alloc _
    have e1 : (W.alloc (.cells #[] 29)).heap.size = W.heap.size + 1 := by simp
    obtain ⟨g1, c1, Wa, q1, hg1, hc1, row, ta, tb⟩ := ins_first (W := W) _ W.heap.size hi hL hBW t1 hBW ((heap_alloc_old _ _ (by simp)).trans (nw _)) (hx1 _ t1)
    have hs := heap_alloc_new (W.alloc (.cells #[] 29)) (.cells s.ent 29)
    rw [e1] at hs
    exact ⟨g1, c1, Wa, q1, ta, ins_rest _ g1 c1 _ hi hL hBW ta hg1 hc1 row (tb.heap hs (by omega)) hx3⟩
  · have t1 : Turns (fun k => B ≤ k) W ((W.alloc (.cells s.ent 29)).alloc (.cells #[] 29)) := (t0 _).alloc _
    have e1 : (W.alloc (.cells s.ent 29)).heap.size = W.heap.size + 1 := by simp
    have hn := heap_alloc_new (W.alloc (.cells s.ent 29)) (.cells #[] 29)
    rw [e1] at hn
    obtain ⟨g1, c1, Wa, q1, hg1, hc1, row, ta, tb⟩ := ins_first (W := W) _ (W.heap.size + 1) hi hL hBW t1 (by omega) hn (hx1 _ t1)
    have hs := (heap_alloc_old (W.alloc (.cells s.ent 29)) (.cells #[] 29) (by simp)).trans (nw (.cells s.ent 29))
    exact ⟨g1, c1, Wa, q1, ta, ins_rest _ g1 c1 _ hi hL hBW ta hg1 hc1 row (tb.heap hs (by omega)) hx3⟩
end
/-- Where the second part of a row lies. -/
def dropV (a : Option Addr) (n c i : Nat) : Value := .slice (if c = i then a else Option.map (fun x => x.add (i * 4)) a) (n - i) (c - i)
/-- The two parts of a row, whatever it is. -/
theorem parts {w : World} {a : Option Addr} {n c : Nat} {R : List Tow} (h : Ents w a R) (hn : n = R.length) (hnc : n ≤ c) (hz : (a = none ∧ c = 0) ∨ ∃ b off, a = some ⟨b, off, none⟩ ∧ b < w.heap.size) (i : Nat) (hi : i ≤ n) :
    (∀ V, Turns (fun k => w.heap.size ≤ k) w V → SrcE V (.slice a i c) i (R.take i)) ∧ (∀ V, Turns (fun k => w.heap.size ≤ k) w V → SrcE V (dropV a n c i) (R.length - i) (R.drop i)) := by
  rcases hz with ⟨rfl, rfl⟩ | ⟨b, off, rfl, hbl⟩
  · obtain rfl : n = 0 := by omega
    obtain rfl : i = 0 := by omega
    have hR : R = [] := by simpa using hn.symm
    subst hR
    exact ⟨fun V _ => src_none V none 0, fun V _ => src_none V none 0⟩
  · have hE : ∀ V, Turns (fun k => w.heap.size ≤ k) w V → Ents V (some ⟨b, off, none⟩) R := fun V t => by
      intro k x hx
      obtain ⟨⟨b', off', e, hc⟩, h1, h2⟩ := h k x hx
      cases e
      refine ⟨⟨b, off, rfl, fun j u hu => t.cell (hc j u hu) (by show ¬ w.heap.size ≤ b; omega)⟩, ?_, ?_⟩
      · exact h1.quiet ⟨t.os, t.tape, t.output, t.size, fun k hk _ => t.block k hk (by omega)⟩
      · exact h2.quiet ⟨t.os, t.tape, t.output, t.size, fun k hk _ => t.block k hk (by omega)⟩
    refine ⟨fun V t => ?_, fun V t => ?_⟩
    · have := src_part (hE V t) 0 i c (by omega)
      rw [List.drop_zero] at this
      simpa using this
    · unfold dropV
      by_cases hic : c = i
      · subst hic
        obtain rfl : n = c := by omega
        rw [if_pos rfl, ← hn, Nat.sub_self, List.drop_of_length_le (by omega)]
        exact src_none V _ 0
      · rw [if_neg hic]
        have := src_part (hE V t) i (n - i) (c - i) (by omega)
        rw [List.take_of_length_le (by rw [List.length_drop]; omega)] at this
        rw [← hn, Option.map_some, Go.WideShapes.add_plain]
        exact this
end Go.Proofs.Ytkeglaplckfllaa

/-
  Three appends in whatever order the parts are made: heights.
-/
namespace Go.Proofs.Ytkeglaplckfllaa
open Go.RowKit
set_option maxRecDepth 100000
theorem h3_size : Try.t3.size = 1 := by kernel_rfl
theorem h3_info : Try.prog.info? 3 = some Try.t3 := by kernel_rfl
theorem h3_zero : Try.t3.zero = some (.int .i64 0) := by kernel_rfl
theorem h3_bytes : Try.t3.bytes = 8 := by kernel_rfl
def htCells (R : List Tow) : List Value := R.map fun x => .int .i64 (x.h : Nat)
theorem htCells_length (R : List Tow) : (htCells R).length = R.length := by simp [htCells]
theorem htCells_one {R : List Tow} {u : Value} (h : u ∈ htCells R) : u.oneCell' = true := by
  obtain ⟨x, _, rfl⟩ := List.mem_map.1 h
  rfl
abbrev SrcH (w : World) (x : Value) (n : Nat) (news : List Tow) : Prop := Src Try.prog Try.t3.size 47 x n (htCells news) w
theorem srcH_part {V : World} {b off : Nat} {R : List Tow} (h : Hts V (some ⟨b, off, none⟩) R) (i m c' : Nat) (hm : i + m ≤ R.length) : SrcH V (.slice (some ⟨b, off + i, none⟩) m c') m ((R.drop i).take m) := by
  have hl : ((R.drop i).take m).length = m := by rw [List.length_take, List.length_drop]; omega
  refine Src.ofSlice V Try.underlying47 _ m c' _ (by rw [h3_size, htCells_length, hl, Nat.mul_one]) (fun j u hu => ?_) (fun u hu => htCells_one hu)
  have hj : j < m := by have := (List.getElem?_eq_some_iff.1 hu).1; rw [htCells_length, hl] at this; exact this
  unfold htCells at hu
  rw [List.getElem?_map, Option.map_eq_some_iff] at hu
  obtain ⟨x, h1, rfl⟩ := hu
  have h3 : R[i + j]? = some x := by
    rw [List.getElem?_take_of_lt hj, List.getElem?_drop] at h1
    exact h1
  obtain ⟨b', off', e, hc⟩ := h (i + j) x h3
  cases e
  rw [Go.WideShapes.add_plain, show off + i + j = off + (i + j) by omega]
  exact hc
theorem srcH_none (V : World) (a : Option Addr) (c : Nat) : SrcH V (.slice a 0 c) 0 [] := by
  cases a with
  | none => exact Src.ofNil V Try.underlying47 c
  | some a => exact Src.ofSlice V Try.underlying47 a 0 c [] (by simp) (fun j u hu => by cases hu) (fun u hu => by cases hu)
theorem srcH_one {V : World} {sb : Nat} {x : Tow} (h : V.heap[sb]? = some (.cells #[.int .i64 (x.h : Nat)] 3 (0, 0))) (c : Nat) : SrcH V (.slice (some ⟨sb, 0, none⟩) 1 c) 1 [x] :=
  Src.ofSlice V Try.underlying47 _ 1 c _ (by rw [h3_size]; rfl) (fun j u hu => by
    rw [Go.WideShapes.add_plain, Nat.zero_add, cell_of_row V sb j _ 3 (0, 0) h]
    simpa [htCells] using hu) (fun u hu => htCells_one hu)
theorem append_hts (w : World) (B : Nat) (g0 sLen sCap : Nat) (R : List Tow) (hl : sLen = R.length) (x : Value) (news : List Tow) (n : Nat) (hn : n = news.length) (hx : SrcH w x n news) (hB : B ≤ w.heap.size) (hg : B ≤ g0) (hc : sLen ≤ sCap) (hrow : RowC w g0 3 sCap (htCells R)) (hsm : sLen + n ≤ 1000000) :
    ∃ g c w', (∀ ty, (Builtin.append_ #[47, 47] ty #[.slice (some ⟨g0, 0, none⟩) sLen sCap, x]).run Try.prog w = .ok (.slice (some ⟨g, 0, none⟩) (sLen + n) c) w') ∧ B ≤ g ∧ RowC w' g 3 c (htCells (R ++ news)) ∧ sLen + n ≤ c ∧ Turns (fun k => k = g0) w w' := by
  obtain ⟨g', cp, w', hr, hg', hrow2, hb, hcp, hin, hnew, hkeep⟩ := append_gen2 (P := Try.prog) w B 47 3 Try.t3 _ Try.underlying47 h3_info h3_zero rfl (some ⟨g0, 0, none⟩) sLen sCap (htCells R) (by rw [h3_size, hl, htCells_length, Nat.mul_one]) x n _ hx hB
    (.inr ⟨g0, rfl, hg, hc, by rw [h3_size, Nat.mul_one]; exact hrow⟩) (by rw [h3_bytes]; omega) (by omega)
  refine ⟨g', cp, w', hr, hg', ?_, hcp, ⟨hb.os, hb.tape, hb.output, hb.size, fun k hk hn => hkeep k hk fun e => hn (by cases e; rfl)⟩⟩
  rw [h3_size, Nat.mul_one] at hrow2
  rw [show htCells (R ++ news) = htCells R ++ htCells news by simp [htCells]]
  exact hrow2
section
variable {B : Nat} {W : World} {l : List Tow} {s : Tow} {i : Nat} {x1 x3 : Value}
/-- What the last two appends answer. -/
def RestH (B : Nat) (W V : World) (l : List Tow) (s : Tow) (i g1 c1 sb : Nat) (x3 : Value) : Prop :=
  ∃ g2 c2 Wb g3 c3 Wc, (∀ ty, (Builtin.append_ #[47, 47] ty #[.slice (some ⟨g1, 0, none⟩) i c1, .slice (some ⟨sb, 0, none⟩) 1 1]).run Try.prog V = .ok (.slice (some ⟨g2, 0, none⟩) (i + 1) c2) Wb) ∧
    (∀ ty, (Builtin.append_ #[47, 47] ty #[.slice (some ⟨g2, 0, none⟩) (i + 1) c2, x3]).run Try.prog Wb = .ok (.slice (some ⟨g3, 0, none⟩) (l.length + 1) c3) Wc) ∧
    RowC Wc g3 3 c3 (htCells (l.take i ++ s :: l.drop i)) ∧ B ≤ g3 ∧ l.length + 1 ≤ c3 ∧ Turns (fun k => B ≤ k) W Wb ∧ Turns (fun k => B ≤ k) W Wc
theorem insH_rest (V : World) (g1 c1 sb : Nat) (hi : i ≤ l.length) (hL : l.length ≤ 100000) (hBW : B ≤ W.heap.size) (hV : Turns (fun k => B ≤ k) W V) (hg1 : B ≤ g1) (hc1 : i ≤ c1) (row : RowC V g1 3 c1 (htCells (l.take i))) (hs : V.heap[sb]? = some (.cells #[.int .i64 (s.h : Nat)] 3 (0, 0)))
    (hx3 : ∀ V, Turns (fun k => B ≤ k) W V → SrcH V x3 (l.length - i) (l.drop i)) : RestH B W V l s i g1 c1 sb x3 := by
  have hl1 : i = (l.take i).length := by rw [List.length_take]; omega
  obtain ⟨g2, c2, Wb, q2, hg2, row2, hc2, t2⟩ := append_hts V B g1 i c1 (l.take i) hl1 _ [s] 1 rfl (srcH_one hs 1) (Nat.le_trans hBW hV.size) hg1 hc1 row (by omega)
  have tb : Turns (fun k => B ≤ k) W Wb := hV.trans (t2.mono fun k _ e => by rw [e]; exact hg1)
  obtain ⟨g3, c3, Wc, q3, hg3, row3, hc3, t3⟩ := append_hts Wb B g2 (i + 1) c2 (l.take i ++ [s]) (by rw [List.length_append, ← hl1]; rfl) x3 (l.drop i) (l.length - i) (by rw [List.length_drop]) (hx3 Wb tb) (Nat.le_trans hBW tb.size) hg2 hc2 row2 (by omega)
  rw [show i + 1 + (l.length - i) = l.length + 1 by omega] at q3 hc3
  refine ⟨g2, c2, Wb, g3, c3, Wc, q2, q3, ?_, hg3, hc3, tb, tb.trans (t3.mono fun k _ e => by rw [e]; exact hg2)⟩
  rw [show l.take i ++ s :: l.drop i = l.take i ++ [s] ++ l.drop i by simp]
  exact row3
theorem insH_first (V : World) (e : Nat) (hi : i ≤ l.length) (hL : l.length ≤ 100000) (hBW : B ≤ W.heap.size) (hV : Turns (fun k => B ≤ k) W V) (hge : B ≤ e) (he : V.heap[e]? = some (.cells #[] 3 (0, 0))) (hx1 : SrcH V x1 i (l.take i)) :
    ∃ g1 c1 Wa, (∀ ty, (Builtin.append_ #[47, 47] ty #[.slice (some ⟨e, 0, none⟩) 0 0, x1]).run Try.prog V = .ok (.slice (some ⟨g1, 0, none⟩) i c1) Wa) ∧ B ≤ g1 ∧ i ≤ c1 ∧ RowC Wa g1 3 c1 (htCells (l.take i)) ∧ Turns (fun k => B ≤ k) W Wa ∧ Turns (fun k => k = e) V Wa := by
  obtain ⟨g1, c1, Wa, q1, hg1, row1, hc1, t1⟩ := append_hts V B e 0 0 [] rfl x1 (l.take i) i (by rw [List.length_take]; omega) hx1 (Nat.le_trans hBW hV.size) hge (Nat.le_refl _) ⟨#[], he, Nat.le_refl _, fun k hk => by simp [htCells] at hk⟩ (by omega)
  rw [Nat.zero_add] at q1 hc1
  exact ⟨g1, c1, Wa, q1, hg1, hc1, row1, hV.trans (t1.mono fun k _ e' => by rw [e']; exact hge), t1⟩
/-- The three orders. -/
def OrdersH (B : Nat) (W : World) (l : List Tow) (s : Tow) (i : Nat) (x1 x3 : Value) (E S : Obj) : Prop :=
  (∃ g1 c1 Wa, (∀ ty, (Builtin.append_ #[47, 47] ty #[.slice (some ⟨W.heap.size, 0, none⟩) 0 0, x1]).run Try.prog (W.alloc E) = .ok (.slice (some ⟨g1, 0, none⟩) i c1) Wa) ∧ W.heap.size < Wa.heap.size ∧ Turns (fun k => B ≤ k) W Wa ∧ RestH B W (Wa.alloc S) l s i g1 c1 Wa.heap.size x3) ∧
  (∃ g1 c1 Wa, (∀ ty, (Builtin.append_ #[47, 47] ty #[.slice (some ⟨W.heap.size, 0, none⟩) 0 0, x1]).run Try.prog ((W.alloc E).alloc S) = .ok (.slice (some ⟨g1, 0, none⟩) i c1) Wa) ∧ Turns (fun k => B ≤ k) W Wa ∧ RestH B W Wa l s i g1 c1 (W.heap.size + 1) x3) ∧
  (∃ g1 c1 Wa, (∀ ty, (Builtin.append_ #[47, 47] ty #[.slice (some ⟨W.heap.size + 1, 0, none⟩) 0 0, x1]).run Try.prog ((W.alloc S).alloc E) = .ok (.slice (some ⟨g1, 0, none⟩) i c1) Wa) ∧ Turns (fun k => B ≤ k) W Wa ∧ RestH B W Wa l s i g1 c1 W.heap.size x3)
theorem insH_orders (hi : i ≤ l.length) (hL : l.length ≤ 100000) (hBW : B ≤ W.heap.size) (hx1 : ∀ V, Turns (fun k => B ≤ k) W V → SrcH V x1 i (l.take i)) (hx3 : ∀ V, Turns (fun k => B ≤ k) W V → SrcH V x3 (l.length - i) (l.drop i)) :
    OrdersH B W l s i x1 x3 (.cells #[] 3) (.cells #[.int .i64 (s.h : Nat)] 3) := by
  have nw := fun o => heap_alloc_new W o
  have t0 : ∀ o, Turns (fun k => B ≤ k) W (W.alloc o) := fun o => (Turns.refl _ W).alloc _
  refine ⟨?_, ?_, ?_⟩
  · obtain ⟨g1, c1, Wa, q1, hg1, hc1, row, ta, tb⟩ := insH_first (W := W) _ W.heap.size hi hL hBW (t0 (.cells #[] 3)) hBW (nw _) (hx1 _ (t0 _))
    refine ⟨g1, c1, Wa, q1, by have := tb.size; simp at this; omega, ta, insH_rest _ g1 c1 _ hi hL hBW (ta.alloc _) hg1 hc1 (row.turns ((Turns.refl (fun _ => False) Wa).alloc _) (fun x => x)) (heap_alloc_new Wa _) hx3⟩
  · have t1 : Turns (fun k => B ≤ k) W ((W.alloc (.cells #[] 3)).alloc (.cells #[.int .i64 (s.h : Nat)] 3)) := (t0 _).alloc _
    have e1 : (W.alloc (.cells #[] 3)).heap.size = W.heap.size + 1 := by simp
    obtain ⟨g1, c1, Wa, q1, hg1, hc1, row, ta, tb⟩ := insH_first (W := W) _ W.heap.size hi hL hBW t1 hBW ((heap_alloc_old _ _ (by simp)).trans (nw _)) (hx1 _ t1)
    have hs := heap_alloc_new (W.alloc (.cells #[] 3)) (.cells #[.int .i64 (s.h : Nat)] 3)
    rw [e1] at hs
    exact ⟨g1, c1, Wa, q1, ta, insH_rest _ g1 c1 _ hi hL hBW ta hg1 hc1 row (tb.heap hs (by omega)) hx3⟩
  · have t1 : Turns (fun k => B ≤ k) W ((W.alloc (.cells #[.int .i64 (s.h : Nat)] 3)).alloc (.cells #[] 3)) := (t0 _).alloc _
    have e1 : (W.alloc (.cells #[.int .i64 (s.h : Nat)] 3)).heap.size = W.heap.size + 1 := by simp
    have hn := heap_alloc_new (W.alloc (.cells #[.int .i64 (s.h : Nat)] 3)) (.cells #[] 3)
    rw [e1] at hn
    obtain ⟨g1, c1, Wa, q1, hg1, hc1, row, ta, tb⟩ := insH_first (W := W) _ (W.heap.size + 1) hi hL hBW t1 (by omega) hn (hx1 _ t1)
    have hs := (heap_alloc_old (W.alloc (.cells #[.int .i64 (s.h : Nat)] 3)) (.cells #[] 3) (by simp)).trans (nw (.cells #[.int .i64 (s.h : Nat)] 3))
    exact ⟨g1, c1, Wa, q1, ta, insH_rest _ g1 c1 _ hi hL hBW ta hg1 hc1 row (tb.heap hs (by omega)) hx3⟩
end
/-- Where the second part of a row lies. -/
def dropH (a : Option Addr) (n c i : Nat) : Value := .slice (if c = i then a else Option.map (fun x => x.add i) a) (n - i) (c - i)
/-- The two parts of a row, whatever it is. -/
theorem partsH {w : World} {a : Option Addr} {n c : Nat} {R : List Tow} (h : Hts w a R) (hn : n = R.length) (hnc : n ≤ c) (hz : (a = none ∧ c = 0) ∨ ∃ b off, a = some ⟨b, off, none⟩ ∧ b < w.heap.size) (i : Nat) (hi : i ≤ n) :
    (∀ V, Turns (fun k => w.heap.size ≤ k) w V → SrcH V (.slice a i c) i (R.take i)) ∧ (∀ V, Turns (fun k => w.heap.size ≤ k) w V → SrcH V (dropH a n c i) (R.length - i) (R.drop i)) := by
  rcases hz with ⟨rfl, rfl⟩ | ⟨b, off, rfl, hbl⟩
  · obtain rfl : n = 0 := by omega
    obtain rfl : i = 0 := by omega
    have hR : R = [] := by simpa using hn.symm
    subst hR
    exact ⟨fun V _ => srcH_none V none 0, fun V _ => srcH_none V none 0⟩
  · have hE : ∀ V, Turns (fun k => w.heap.size ≤ k) w V → Hts V (some ⟨b, off, none⟩) R := fun V t => by
      intro k x hx
      obtain ⟨b', off', e, hc⟩ := h k x hx
      cases e
      exact ⟨b, off, rfl, t.cell hc (by show ¬ w.heap.size ≤ b; omega)⟩
    refine ⟨fun V t => ?_, fun V t => ?_⟩
    · have := srcH_part (hE V t) 0 i c (by omega)
      rw [List.drop_zero] at this
      simpa using this
    · unfold dropH
      by_cases hic : c = i
      · subst hic
        obtain rfl : n = c := by omega
        rw [if_pos rfl, ← hn, Nat.sub_self, List.drop_of_length_le (by omega)]
        exact srcH_none V _ 0
      · rw [if_neg hic]
        have := srcH_part (hE V t) i (n - i) (c - i) (by omega)
        rw [List.take_of_length_le (by rw [List.length_drop]; omega)] at this
        rw [← hn, Option.map_some, Go.WideShapes.add_plain]
        exact this
end Go.Proofs.Ytkeglaplckfllaa

/-
  The document's table with memory of its own; Insert where it refuses.
-/
namespace Go.Proofs.Ytkeglaplckfllaa
open Go.RowKit
set_option maxRecDepth 100000
set_option maxHeartbeats 4000000
/-- A row that nobody else has. -/
def Own1 (Q : Nat → Prop) (w : World) (a : Option Addr) (c : Nat) : Prop := (a = none ∧ c = 0) ∨ ∃ b off, a = some ⟨b, off, none⟩ ∧ b < w.heap.size ∧ Q b
/-- The document's table, with memory of its own: its blocks are among Q. -/
def RO (Q : Nat → Prop) (w : World) (r : Nat) (l : List Tow) : Prop :=
  ∃ (La Ha : Option Addr) (Lc Hc : Nat), w.heap[r]? = some (.cells #[.slice La l.length Lc, .slice Ha l.length Hc] 49 (0, 0)) ∧ Ents w La l ∧ Hts w Ha l ∧ l.length ≤ Lc ∧ l.length ≤ Hc ∧ Own1 Q w La Lc ∧ Own1 Q w Ha Hc ∧ Q r ∧ ∀ x, x ∈ l → ∀ q, x.bytesIn q → Q q
theorem RO.rt {Q : Nat → Prop} {w : World} {r : Nat} {l : List Tow} (h : RO Q w r l) : RT w r l := by
  obtain ⟨La, Ha, Lc, Hc, h1, h2, h3, _⟩ := h
  exact ⟨La, Ha, Lc, Hc, h1, h2, h3⟩
theorem Own1.turns {Q S : Nat → Prop} {w w' : World} {a : Option Addr} {c : Nat} (h : Own1 Q w a c) (t : Turns S w w') : Own1 Q w' a c := by
  rcases h with h | ⟨b, off, h1, h2, h3⟩
  · exact .inl h
  · exact .inr ⟨b, off, h1, Nat.lt_of_lt_of_le h2 t.size, h3⟩
theorem Ents.turns {Q S : Nat → Prop} {w w' : World} {a : Option Addr} {c : Nat} {l : List Tow} (h : Ents w a l) (ho : Own1 Q w a c) (hb : ∀ x, x ∈ l → ∀ q, x.bytesIn q → Q q) (t : Turns S w w') (hS : ∀ k, Q k → ¬ S k) : Ents w' a l := fun k x hx => by
  obtain ⟨⟨b, off, h1, h2⟩, h3, h4⟩ := h k x hx
  have hQ : Q b := by
    rcases ho with ⟨e, _⟩ | ⟨b', off', e, _, hq⟩
    · rw [e] at h1; cases h1
    · rw [e] at h1; cases h1; exact hq
  have hx' := List.mem_of_getElem? hx
  refine ⟨⟨b, off, h1, fun j u hu => t.cell (h2 j u hu) (hS b hQ)⟩, h3.turns t fun a n c e => hS _ (hb x hx' _ (.inl ⟨a, ?_, rfl⟩)), h4.turns t fun a n c e => hS _ (hb x hx' _ (.inr ⟨a, ?_, rfl⟩))⟩
  · simp only [Tow.kv, Value.slice.injEq] at e
    exact e.1
  · simp only [Tow.vv, Value.slice.injEq] at e
    exact e.1
theorem Hts.turns {Q S : Nat → Prop} {w w' : World} {a : Option Addr} {c : Nat} {l : List Tow} (h : Hts w a l) (ho : Own1 Q w a c) (t : Turns S w w') (hS : ∀ k, Q k → ¬ S k) : Hts w' a l := fun k x hx => by
  obtain ⟨b, off, h1, h2⟩ := h k x hx
  have hQ : Q b := by
    rcases ho with ⟨e, _⟩ | ⟨b', off', e, _, hq⟩
    · rw [e] at h1; cases h1
    · rw [e] at h1; cases h1; exact hq
  exact ⟨b, off, h1, t.cell h2 (hS b hQ)⟩
theorem RO.turns {Q S : Nat → Prop} {w w' : World} {r : Nat} {l : List Tow} (h : RO Q w r l) (t : Turns S w w') (hS : ∀ k, Q k → ¬ S k) : RO Q w' r l := by
  obtain ⟨La, Ha, Lc, Hc, h1, h2, h3, h4, h5, h6, h7, h8, h9⟩ := h
  exact ⟨La, Ha, Lc, Hc, t.heap h1 (hS r h8), h2.turns h6 h9 t hS, h3.turns h7 t hS, h4, h5, h6.turns t, h7.turns t, h8, h9⟩
theorem RO.quiet {Q : Nat → Prop} {w w' : World} {r : Nat} {l : List Tow} (h : RO Q w r l) (t : Turns (fun _ => False) w w') : RO Q w' r l := h.turns t fun _ _ x => x
theorem rinsert_bad (r : Nat) (w : World) (ka va : Option Addr) (kc vc : Nat) (e : Ent) (hg : Int) (hc : chk1 e ≠ 0) :
    Calls Try.prog 17 #[.pointer (some ⟨r, 0, none⟩), .agg #[.slice ka e.key.length kc, .int .u64 (e.seq : Nat), .int .i64 e.kind, .slice va e.val.length vc], .int .i64 hg] w fun x w' => x = .returned (.int .i64 (chk1 e)) ∧ Below w.heap.size w w' := by
  have b0 := (Below.refl w.heap.size w).alloc (Nat.le_refl _) (.cells #[.slice ka e.key.length kc, .int .u64 (e.seq : Nat), .int .i64 e.kind, .slice va e.val.length vc] 29)
  have B0 := hide b0
  have HC := hide (rcheck_any ⟨0, ka, kc, va, vc, e, 0⟩ (w.alloc (.cells #[.slice ka e.key.length kc, .int .u64 (e.seq : Nat), .int .i64 e.kind, .slice va e.val.length vc] 29)))
  change Hid (Calls Try.prog 43 #[.agg #[.slice ka e.key.length kc, .int .u64 (e.seq : Nat), .int .i64 e.kind, .slice va e.val.length vc]] _ fun r w' => r = .returned (.int .i64 (chk1 e)) ∧ _) at HC
  have hc' : (chk1 e == 0) = false := by simpa using hc
  clear b0
  generalize chk1 e = z at *
  go_enter Try.func17, Try.ntmps17
  go_wp2_with fail
  refine HC.out.mono ?_
  rintro x w1 ⟨rfl, b1⟩
  have B1 := hide (B0.out.trans (b1.mono B0.out.size))
  clear b1 B0 HC
  go_wp2_with fail
  go_ret
  exact ⟨rfl, B1.out⟩
theorem rinsert_high (r : Nat) (w : World) (ka va : Option Addr) (kc vc : Nat) (e : Ent) (hg : Int) (hc : chk1 e = 0) (hh : hg < 1 ∨ 12 < hg) :
    Calls Try.prog 17 #[.pointer (some ⟨r, 0, none⟩), .agg #[.slice ka e.key.length kc, .int .u64 (e.seq : Nat), .int .i64 e.kind, .slice va e.val.length vc], .int .i64 hg] w fun x w' => x = .returned (.int .i64 2) ∧ Below w.heap.size w w' := by
  have b0 := (Below.refl w.heap.size w).alloc (Nat.le_refl _) (.cells #[.slice ka e.key.length kc, .int .u64 (e.seq : Nat), .int .i64 e.kind, .slice va e.val.length vc] 29)
  have B0 := hide b0
  have HC := hide (rcheck_any ⟨0, ka, kc, va, vc, e, 0⟩ (w.alloc (.cells #[.slice ka e.key.length kc, .int .u64 (e.seq : Nat), .int .i64 e.kind, .slice va e.val.length vc] 29)))
  change Hid (Calls Try.prog 43 #[.agg #[.slice ka e.key.length kc, .int .u64 (e.seq : Nat), .int .i64 e.kind, .slice va e.val.length vc]] _ fun r w' => r = .returned (.int .i64 (chk1 e)) ∧ _) at HC
  rw [hc] at HC
  clear b0 hc
  go_enter Try.func17, Try.ntmps17
  go_wp2_with fail
  refine HC.out.mono ?_
  rintro x w1 ⟨rfl, b1⟩
  have B1 := hide (B0.out.trans (b1.mono B0.out.size))
  clear b1 B0 HC
  by_cases h1 : hg < 1
  · go_wp2_with fail
    go_ret
    exact ⟨rfl, B1.out⟩
  · have h2 : 12 < hg := by omega
    go_wp2_with fail
    go_ret
    exact ⟨rfl, B1.out⟩
end Go.Proofs.Ytkeglaplckfllaa

/-
  The document's New with memory of its own; Insert of what is there; what From tells, in a list in order.
-/
namespace Go.Proofs.Ytkeglaplckfllaa
open Go.RowKit
set_option maxRecDepth 100000
set_option maxHeartbeats 4000000
theorem rnew_own (w : World) : Calls Try.prog 15 #[] w fun e w' => e = .returned (.pointer (some ⟨w.heap.size, 0, none⟩)) ∧ RO (fun k => k = w.heap.size) w' w.heap.size [] ∧ Below w.heap.size w w' ∧ w.heap.size < w'.heap.size := by
  go_enter Try.func15, Try.ntmps15
  go_wp2_with fail
  go_ret
  exact ⟨rfl, ⟨none, none, 0, 0, heap_alloc_new w _, fun k x hx => by simp at hx, fun k x hx => by simp at hx, Nat.le_refl _, Nat.le_refl _, .inl ⟨rfl, rfl⟩, .inl ⟨rfl, rfl⟩, rfl, fun x hx => by cases hx⟩, (Below.refl _ _).alloc (Nat.le_refl _) _, by simp⟩
theorem rinsert_there (r : Nat) (l : List Tow) (w : World) (h : RT w r l) (ka va : Option Addr) (kc vc : Nat) (e : Ent) (hg : Int) (hk : Bytes w (.slice ka e.key.length kc) e.key) (hkn : e.key.length ≤ 1000000) (hkb : ∀ y, y ∈ l → y.e.key.length ≤ 1000000) (hl : l.length ≤ 100000) (hc : chk1 e = 0) (hh : 1 ≤ hg ∧ hg ≤ 12) (y : Tow) (hat : atT l (place (e.key, e.seq) l) (e.key, e.seq) = some y) :
    Calls Try.prog 17 #[.pointer (some ⟨r, 0, none⟩), .agg #[.slice ka e.key.length kc, .int .u64 (e.seq : Nat), .int .i64 e.kind, .slice va e.val.length vc], .int .i64 hg] w fun x w' => x = .returned (.int .i64 5) ∧ Below w.heap.size w w' := by
  have b0 := (Below.refl w.heap.size w).alloc (Nat.le_refl _) (.cells #[.slice ka e.key.length kc, .int .u64 (e.seq : Nat), .int .i64 e.kind, .slice va e.val.length vc] 29)
  have B0 := hide b0
  have n0 := heap_alloc_new w (.cells #[.slice ka e.key.length kc, .int .u64 (e.seq : Nat), .int .i64 e.kind, .slice va e.val.length vc] 29)
  have HC := hide (rcheck_any ⟨0, ka, kc, va, vc, e, 0⟩ (w.alloc (.cells #[.slice ka e.key.length kc, .int .u64 (e.seq : Nat), .int .i64 e.kind, .slice va e.val.length vc] 29)))
  change Hid (Calls Try.prog 43 #[.agg #[.slice ka e.key.length kc, .int .u64 (e.seq : Nat), .int .i64 e.kind, .slice va e.val.length vc]] _ fun r w' => r = .returned (.int .i64 (chk1 e)) ∧ _) at HC
  rw [hc] at HC
  have t0 := Turns.of_below b0 (fun _ => False)
  have HT := hide (h.quiet t0)
  have HK := hide (hk.quiet t0)
  have HKB := hide hkb
  have HAT := hide hat
  have N0 := hide n0
  obtain ⟨hh1, hh2⟩ := hh
  have h1 : ¬ hg < 1 := by omega
  have h2 : ¬ 12 < hg := by omega
  clear b0 hc h hk hkb hat n0 t0 hh1 hh2
  go_enter Try.func17, Try.ntmps17
  go_wp2_with fail
  refine HC.out.mono ?_
  rintro x w1 ⟨rfl, b1⟩
  have t1 := Turns.of_below b1 (fun _ => False)
  have B1 := hide (B0.out.trans (b1.mono B0.out.size))
  have HT := hide (HT.out.quiet t1)
  have HK := hide (HK.out.quiet t1)
  have N1 := hide (t1.heap N0.out (fun x => x))
  have c0 := cell_of_row w1 w.heap.size 0 _ 29 (0, 0) N1.out
  have c1 := cell_of_row w1 w.heap.size 1 _ 29 (0, 0) N1.out
  clear b1 t1 B0 HC N0
  go_wp2_with fail
  refine (rplace_any r l w1 HT.out ka e.key.length kc e.seq e.key HK.out hkn HKB.out hl).mono ?_
  rintro x w2 ⟨rfl, b2⟩
  have t2 := Turns.of_below b2 (fun _ => False)
  have B2 := hide (B1.out.trans (b2.mono B1.out.size))
  have HT := hide (HT.out.quiet t2)
  have HK := hide (HK.out.quiet t2)
  have N2 := hide (t2.heap N1.out (fun x => x))
  clear b2 t2 B1 c0 c1 N1
  have c0 := cell_of_row w2 w.heap.size 0 _ 29 (0, 0) N2.out
  have c1 := cell_of_row w2 w.heap.size 1 _ 29 (0, 0) N2.out
  generalize place (e.key, e.seq) l = i at *
  go_wp2_with fail
  refine (ris_any r l w2 HT.out ka e.key.length kc e.seq i e.key HK.out hkn HKB.out).mono ?_
  rintro x w3 ⟨rfl, b3⟩
  have B3 := hide (B2.out.trans (b3.mono B2.out.size))
  rw [HAT.out]
  clear b3 B2 c0 c1
  go_wp2_with fail
  go_ret
  exact ⟨rfl, B3.out⟩
/-- In order, what is not below a key is what is behind its place. -/
theorem filter_drop (key : List (BitVec 8)) (l : List Tow) (hs : l.Pairwise (fun x y => cmpE x.e.en y.e.en < 0)) (hq : ∀ x, x ∈ l → x.e.seq < 18446744073709551616) : l.filter (notB key) = l.drop (place (key, 18446744073709551615) l) := by
  have hlt : ∀ x, x ∈ l → (notB key x = true ↔ ¬ cmpE x.e.en (key, 18446744073709551615) < 0) := fun x hx => by
    have h1 := hq x hx
    have h2 := cmpB_vals x.e.key key
    unfold notB cmpE
    simp only [Bool.not_eq_true', decide_eq_false_iff_not]
    show ¬ cmpB x.e.key key < 0 ↔ ¬ (if cmpB x.e.key key ≠ 0 then cmpB x.e.key key else _) < 0
    by_cases h0 : cmpB x.e.key key = 0
    · rw [if_neg (by simp [h0]), h0]
      refine ⟨fun _ => ?_, fun _ => by omega⟩
      split
      · exfalso; rename_i h; simp [Ent.en] at h; omega
      · split <;> omega
    · rw [if_pos h0]
  induction l with
  | nil => rfl
  | cons x r ih =>
    obtain ⟨h1, h2⟩ := List.pairwise_cons.1 hs
    have ih' := ih h2 (fun y hy => hq y (by simp [hy])) (fun y hy => hlt y (by simp [hy]))
    unfold place
    by_cases hx : cmpE x.e.en (key, 18446744073709551615) < 0
    · rw [if_pos hx, List.drop_succ_cons, ← ih', List.filter_cons_of_neg (fun h => (hlt x (by simp)).1 h hx)]
    · rw [if_neg hx, List.drop_zero]
      refine List.filter_eq_self.2 fun y hy => ?_
      rcases List.mem_cons.1 hy with rfl | hy'
      · exact (hlt _ (by simp)).2 hx
      · exact (hlt y hy).2 fun h => hx (cmpE_lt (h1 y hy') h)
end Go.Proofs.Ytkeglaplckfllaa

/-
  The document's table behind Insert of what is new: what the two last statements leave.
-/
namespace Go.Proofs.Ytkeglaplckfllaa
open Go.RowKit
set_option maxRecDepth 100000
section
variable {w w' : World} {r n m Lc Hc : Nat} {La Ha : Option Addr}
theorem not_r {b k : Nat} {z : Value} (hr : w.heap[r]? = some (.cells #[.slice La n Lc, .slice Ha m Hc] 49 (0, 0))) (hc : w.cell? ⟨b, k, none⟩ = some z) (hz : ∀ a n c, z ≠ .slice a n c) : b ≠ r := by
  rintro rfl
  rw [cell_of_row w b k _ 49 (0, 0) hr] at hc
  rcases k with _ | _ | k
  · exact hz _ _ _ (by simpa using hc.symm)
  · exact hz _ _ _ (by simpa using hc.symm)
  · simp at hc
theorem Bytes.byR {v : Value} {bs : List (BitVec 8)} (h : Bytes w v bs) (hr : w.heap[r]? = some (.cells #[.slice La n Lc, .slice Ha m Hc] 49 (0, 0))) (t : Turns (fun k => k = r) w w') : Bytes w' v bs := by
  obtain ⟨a, c, rfl, hc⟩ := h
  refine ⟨a, c, rfl, fun k hk => ?_⟩
  obtain ⟨b, off, rfl, hcell⟩ := hc k hk
  exact ⟨b, off, rfl, t.cell hcell (not_r hr hcell (fun _ _ _ h => by cases h))⟩
theorem Hts.byR {a : Option Addr} {l : List Tow} (h : Hts w a l) (hr : w.heap[r]? = some (.cells #[.slice La n Lc, .slice Ha m Hc] 49 (0, 0))) (t : Turns (fun k => k = r) w w') : Hts w' a l := fun k x hx => by
  obtain ⟨b, off, h1, h2⟩ := h k x hx
  exact ⟨b, off, h1, t.cell h2 (not_r hr h2 (fun _ _ _ h => by cases h))⟩
end
def Meet10 (w4 wx : World) (r : Nat) (R : List Tow) (n : Nat) (Ha : Option Addr) (Hc : Nat) : Prop :=
  ∃ g3 c3 : Nat, wx.heap[r]? = some (.cells #[.slice (some ⟨g3, 0, none⟩) (n + 1) c3, .slice Ha n Hc] 49 (0, 0)) ∧ w4.heap.size ≤ g3 ∧ n + 1 ≤ c3 ∧ RowC wx g3 29 (c3 * 4) (entCells R) ∧ Turns (fun k => k = r) w4 wx
theorem meet_turns {w4 V U : World} {r : Nat} (t : Turns (fun k => w4.heap.size ≤ k) w4.drew V) (tt : Turns (fun k => k = r) V U) : Turns (fun k => k = r) w4 U :=
  Turns.trans ⟨t.os, t.tape, t.output, t.size, fun k hk _ => t.block k hk (Nat.not_le.2 hk)⟩ tt
theorem meet10 {w4 V : World} {r n g3 c3 Lc Hc : Nat} {La Ha : Option Addr} {R : List Tow} (t : Turns (fun k => w4.heap.size ≤ k) w4.drew V) (hbr : V.heap[r]? = some (.cells #[.slice La n Lc, .slice Ha n Hc] 49 (0, 0))) (row : RowC V g3 29 (c3 * 4) (entCells R)) (hg : w4.heap.size ≤ g3) (hc : n + 1 ≤ c3) (hr : r < w4.heap.size) : Meet10 w4 (V.setCell ⟨r, 0, none⟩ (.slice (some ⟨g3, 0, none⟩) (n + 1) c3)) r R n Ha Hc := by
  have hT := (Tick.refl hbr).set 0 (.slice (some ⟨g3, 0, none⟩) (n + 1) c3)
  exact ⟨g3, c3, hT.1, hg, hc, row.turns (Turns.of_tick hT) (by omega), meet_turns t (Turns.of_tick hT)⟩
def Meet11 (w5 wx : World) (r : Nat) (R : List Tow) (n : Nat) (La : Option Addr) (Lc : Nat) : Prop :=
  ∃ g3 c3 : Nat, wx.heap[r]? = some (.cells #[.slice La (n + 1) Lc, .slice (some ⟨g3, 0, none⟩) (n + 1) c3] 49 (0, 0)) ∧ w5.heap.size ≤ g3 ∧ n + 1 ≤ c3 ∧ RowC wx g3 3 c3 (htCells R) ∧ Turns (fun k => k = r) w5 wx
theorem meet11 {w5 V : World} {r n g3 c3 Lc Hc : Nat} {La Ha : Option Addr} {R : List Tow} (t : Turns (fun k => w5.heap.size ≤ k) w5.drew V) (hbr : V.heap[r]? = some (.cells #[.slice La (n + 1) Lc, .slice Ha n Hc] 49 (0, 0))) (row : RowC V g3 3 c3 (htCells R)) (hg : w5.heap.size ≤ g3) (hc : n + 1 ≤ c3) (hr : r < w5.heap.size) : Meet11 w5 (V.setCell ⟨r, 1, none⟩ (.slice (some ⟨g3, 0, none⟩) (n + 1) c3)) r R n La Lc := by
  have hT := (Tick.refl hbr).set 1 (.slice (some ⟨g3, 0, none⟩) (n + 1) c3)
  exact ⟨g3, c3, hT.1, hg, hc, row.turns (Turns.of_tick hT) (by omega), meet_turns t (Turns.of_tick hT)⟩
theorem RowC.cells {w : World} {g e room : Nat} {cells : List Value} (h : RowC w g e room cells) {j : Nat} {u : Value} (hu : cells[j]? = some u) : w.cell? ⟨g, j, none⟩ = some u := by
  obtain ⟨cs, h1, h2, h3⟩ := h
  obtain ⟨hj, hj2⟩ := List.getElem?_eq_some_iff.1 hu
  rw [cell_of_row w g j _ e (0, 0) h1, h3 j hj, hu]
theorem entCells_j : ∀ (R : List Tow) (k : Nat) (x : Tow), R[k]? = some x → ∀ j u, [x.kv, .int .u64 (x.e.seq : Nat), .int .i64 x.e.kind, x.vv][j]? = some u → (entCells R)[k * 4 + j]? = some u
  | [], k, x, h, j, u, hu => by simp at h
  | y :: s, 0, x, h, j, u, hu => by
    obtain rfl : y = x := by simpa using h
    have e : entCells (y :: s) = [y.kv, .int .u64 (y.e.seq : Nat), .int .i64 y.e.kind, y.vv] ++ entCells s := rfl
    rw [e, Nat.zero_mul, Nat.zero_add, List.getElem?_append_left (List.getElem?_eq_some_iff.1 hu).1]
    exact hu
  | y :: s, k + 1, x, h, j, u, hu => by
    have e : entCells (y :: s) = [y.kv, .int .u64 (y.e.seq : Nat), .int .i64 y.e.kind, y.vv] ++ entCells s := rfl
    rw [e, List.getElem?_append_right (by simp; omega)]
    have := entCells_j s k x (by simpa using h) j u hu
    rw [← this]
    congr 1
    simp
    omega
theorem ro_done {Q : Nat → Prop} {w w4 w5 w6 : World} {r i g3 c3 n : Nat} {l : List Tow} {x : Tow} {La Ha : Option Addr} {Lc Hc : Nat} (hn : n = l.length) (hi : i ≤ l.length) (h4 : w.heap.size ≤ w4.heap.size)
    (hr4 : w4.heap[r]? = some (.cells #[.slice La n Lc, .slice Ha n Hc] 49 (0, 0))) (hb : ∀ y, y ∈ l → Bytes w4 y.kv y.e.key ∧ Bytes w4 y.vv y.e.val) (hx : Bytes w4 x.kv x.e.key ∧ Bytes w4 x.vv x.e.val)
    (hxb : ∀ q, x.bytesIn q → w.heap.size ≤ q ∧ q < w4.heap.size) (hQr : Q r) (hQb : ∀ y, y ∈ l → ∀ q, y.bytesIn q → Q q)
    (hr5 : w5.heap[r]? = some (.cells #[.slice (some ⟨g3, 0, none⟩) (n + 1) c3, .slice Ha n Hc] 49 (0, 0))) (hg3 : w4.heap.size ≤ g3) (hc3 : n + 1 ≤ c3) (row : RowC w5 g3 29 (c3 * 4) (entCells (ins l i x))) (t5 : Turns (fun k => k = r) w4 w5)
    (h6 : Meet11 w5 w6 r (ins l i x) n (some ⟨g3, 0, none⟩) c3) : RO (fun k => Q k ∨ (w.heap.size ≤ k ∧ k < w6.heap.size)) w6 r (ins l i x) ∧ Turns (fun k => k = r) w4 w6 := by
  obtain ⟨g4, c4, hr6, hg4, hc4, row4, t6⟩ := h6
  have hl : (ins l i x).length = n + 1 := by rw [ins_length hi, hn]
  have hr4l := lt_of_heap hr4
  have s5 := t5.size
  have s6 := t6.size
  have row6 := row.turns t6 (show ¬ g3 = r by omega)
  have h3l : g3 < w6.heap.size := by obtain ⟨cs, h1, _⟩ := row6; exact lt_of_heap h1
  have h4l : g4 < w6.heap.size := by obtain ⟨cs, h1, _⟩ := row4; exact lt_of_heap h1
  have hB : ∀ y, y ∈ ins l i x → Bytes w6 y.kv y.e.key ∧ Bytes w6 y.vv y.e.val := fun y hy => by
    have : Bytes w4 y.kv y.e.key ∧ Bytes w4 y.vv y.e.val := by
      rcases ins_mem.1 hy with rfl | hy
      · exact hx
      · exact hb y hy
    exact ⟨(this.1.byR hr4 t5).byR hr5 t6, (this.2.byR hr4 t5).byR hr5 t6⟩
  refine ⟨⟨some ⟨g3, 0, none⟩, some ⟨g4, 0, none⟩, c3, c4, by rw [hl]; exact hr6, fun k y hy => ⟨⟨g3, 0, rfl, fun j u hu => ?_⟩, hB y (List.mem_of_getElem? hy)⟩, fun k y hy => ⟨g4, 0, rfl, ?_⟩, by omega, by omega, .inr ⟨g3, 0, rfl, h3l, .inr ⟨by omega, h3l⟩⟩, .inr ⟨g4, 0, rfl, h4l, .inr ⟨by omega, h4l⟩⟩, .inl hQr, fun y hy q hq => ?_⟩, t5.trans t6⟩
  · rw [Nat.zero_add]
    exact row6.cells (entCells_j _ k y hy j u hu)
  · rw [Nat.zero_add]
    refine row4.cells ?_
    rw [htCells, List.getElem?_map, hy]
    rfl
  · rcases ins_mem.1 hy with rfl | hy
    · have := hxb q hq
      exact .inr ⟨this.1, by omega⟩
    · exact .inl (hQb y hy q hq)
end Go.Proofs.Ytkeglaplckfllaa

/-
  Two rows of towers that tell the same entries with the same heights: plain mathematics.
-/
namespace Go.Proofs.Ytkeglaplckfllaa
set_option maxRecDepth 100000
structure Alike (ts rs : List Tow) : Prop where
  e : ts.map (·.e) = rs.map (·.e)
  h : ts.map (·.h) = rs.map (·.h)
section
variable {ts rs : List Tow}
theorem Alike.nil : Alike [] [] := ⟨rfl, rfl⟩
theorem Alike.len (a : Alike ts rs) : ts.length = rs.length := by simpa using congrArg List.length a.e
theorem place_map (q : En) : ∀ {ts rs : List Tow}, ts.map (·.e) = rs.map (·.e) → place q ts = place q rs
  | [], [], _ => rfl
  | [], _ :: _, h => by simp at h
  | _ :: _, [], h => by simp at h
  | x :: r, y :: s, h => by
    simp only [List.map_cons, List.cons.injEq] at h
    unfold place
    rw [h.1, place_map q h.2]
theorem Alike.place (a : Alike ts rs) (q : En) : place q ts = place q rs := place_map q a.e
theorem Alike.get (a : Alike ts rs) (i : Nat) : (ts[i]? = none ∧ rs[i]? = none) ∨ ∃ x y, ts[i]? = some x ∧ rs[i]? = some y ∧ x.e = y.e ∧ x.h = y.h := by
  have h1 := congrArg (fun l => l[i]?) a.e
  have h2 := congrArg (fun l => l[i]?) a.h
  simp only [List.getElem?_map] at h1 h2
  cases hx : ts[i]? with
  | none =>
    cases hy : rs[i]? with
    | none => exact .inl ⟨rfl, rfl⟩
    | some y => rw [hx, hy] at h1; cases h1
  | some x =>
    cases hy : rs[i]? with
    | none => rw [hx, hy] at h1; cases h1
    | some y =>
      rw [hx, hy] at h1 h2
      simp only [Option.map_some, Option.some.injEq] at h1 h2
      exact .inr ⟨x, y, rfl, rfl, h1, h2⟩
theorem Alike.atH (a : Alike ts rs) (i : Nat) (q : En) : ((atT ts i q).map (·.h)) = ((atT rs i q).map (·.h)) := by
  unfold atT
  rcases a.get i with ⟨h1, h2⟩ | ⟨x, y, h1, h2, h3, h4⟩
  · rw [h1, h2]
  · rw [h1, h2]
    simp only [h3]
    split
    · simp [h4]
    · rfl
theorem Alike.at_none (a : Alike ts rs) (i : Nat) (q : En) : atT ts i q = none ↔ atT rs i q = none := by
  have := a.atH i q
  constructor
  · intro h; rw [h] at this; simpa using this.symm
  · intro h; rw [h] at this; simpa using this
theorem Alike.seg (a : Alike ts rs) (n p : Nat) : seg ts n p = seg rs n p := by
  unfold Go.Proofs.Ytkeglaplckfllaa.seg
  rw [List.map_drop, List.map_take, a.h, ← List.map_take, ← List.map_drop]
theorem Alike.size (a : Alike ts rs) : sizeT ts = sizeT rs := by
  unfold sizeT
  have : ∀ l : List Tow, (l.map fun x => x.e.key.length + x.e.val.length + 32) = (l.map (·.e)).map fun e => e.key.length + e.val.length + 32 := fun l => by rw [List.map_map]; rfl
  rw [this, this, a.e]
theorem Alike.ins (a : Alike ts rs) (n : Nat) {x y : Tow} (he : x.e = y.e) (hh : x.h = y.h) : Alike (ins ts n x) (ins rs n y) := by
  unfold Go.Proofs.Ytkeglaplckfllaa.ins
  constructor
  · simp only [List.map_append, List.map_cons, List.map_take, List.map_drop, a.e, he]
  · simp only [List.map_append, List.map_cons, List.map_take, List.map_drop, a.h, hh]
theorem Alike.hit (a : Alike ts rs) (i : Nat) (key : List (BitVec 8)) : (hitK ts i key = none ∧ hitK rs i key = none) ∨ ∃ x y, hitK ts i key = some x ∧ hitK rs i key = some y ∧ ts[i]? = some x ∧ rs[i]? = some y ∧ x.e = y.e ∧ x.e.key = key := by
  unfold hitK
  rcases a.get i with ⟨h1, h2⟩ | ⟨x, y, h1, h2, h3, h4⟩
  · rw [h1, h2]; exact .inl ⟨rfl, rfl⟩
  · rw [h1, h2]
    simp only [h3]
    by_cases hk : y.e.key = key
    · rw [if_pos hk, if_pos hk]
      exact .inr ⟨x, y, rfl, rfl, rfl, rfl, h3, by rw [h3]; exact hk⟩
    · rw [if_neg hk, if_neg hk]
      exact .inl ⟨rfl, rfl⟩
theorem Alike.sorted (a : Alike ts rs) (hs : ts.Pairwise (fun x y => cmpE x.e.en y.e.en < 0)) : rs.Pairwise (fun x y => cmpE x.e.en y.e.en < 0) := by
  have h1 : (ts.map (·.e)).Pairwise (fun x y => cmpE x.en y.en < 0) := List.pairwise_map.2 hs
  rw [a.e] at h1
  exact List.pairwise_map.1 h1
theorem Alike.memE (a : Alike ts rs) {y : Tow} (hy : y ∈ rs) : ∃ x, x ∈ ts ∧ x.e = y.e := by
  have : y.e ∈ ts.map (·.e) := by rw [a.e]; exact List.mem_map_of_mem hy
  obtain ⟨x, h1, h2⟩ := List.mem_map.1 this
  exact ⟨x, h1, h2⟩
theorem Alike.memH (a : Alike ts rs) {y : Tow} (hy : y ∈ rs) : ∃ x, x ∈ ts ∧ x.h = y.h := by
  have : y.h ∈ ts.map (·.h) := by rw [a.h]; exact List.mem_map_of_mem hy
  obtain ⟨x, h1, h2⟩ := List.mem_map.1 this
  exact ⟨x, h1, h2⟩
theorem Alike.from (a : Alike ts rs) (hs : ts.Pairwise (fun x y => cmpE x.e.en y.e.en < 0)) (hq : ∀ x, x ∈ ts → x.e.seq < 18446744073709551616) (key : List (BitVec 8)) (n : Nat) :
    ((ts.drop (Go.Proofs.Ytkeglaplckfllaa.place (key, 18446744073709551615) ts)).map (·.e)).take n = ((rs.filter (notB key)).take n).map (·.e) := by
  rw [filter_drop key rs (a.sorted hs) (fun y hy => by obtain ⟨x, h1, h2⟩ := a.memE hy; rw [← h2]; exact hq x h1), ← a.place, List.map_take, List.map_drop, List.map_drop, a.e]
end
end Go.Proofs.Ytkeglaplckfllaa
