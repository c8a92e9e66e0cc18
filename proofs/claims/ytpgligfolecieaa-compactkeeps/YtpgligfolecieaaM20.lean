import Derived.Test.YtpgligfolecieaaM19
import Derived.Deep.RegionHeld
import Derived.Deep.Light
/-
  One entry put among others, in order; entries put into order, one by one.
-/
namespace Go.Proofs.Ytpgligfolecieaa
open Go.RowKit
set_option maxRecDepth 100000
/-- How many entries are ahead of one. -/
def pIdx (x : En) : List Tow → Nat
  | [] => 0
  | y :: r => if cmpE y.e.en x < 0 then pIdx x r + 1 else 0
def putL (x : Tow) (R : List Tow) : List Tow := R.take (pIdx x.e.en R) ++ x :: R.drop (pIdx x.e.en R)
theorem pIdx_le (x : En) : ∀ R : List Tow, pIdx x R ≤ R.length
  | [] => Nat.le_refl _
  | y :: r => by
    have := pIdx_le x r
    unfold pIdx
    rw [List.length_cons]
    split <;> omega
theorem pIdx_eq (x : En) : ∀ (R : List Tow) (k : Nat), k ≤ R.length → (∀ j y, j < k → R[j]? = some y → cmpE y.e.en x < 0) → (∀ y, R[k]? = some y → ¬ cmpE y.e.en x < 0) → pIdx x R = k
  | [], k, hk, _, _ => by simp at hk; simp [pIdx, hk]
  | y :: r, 0, _, _, h2 => by
    have := h2 y rfl
    simp [pIdx, this]
  | y :: r, k + 1, hk, h1, h2 => by
    have h0 := h1 0 y (by omega) rfl
    have := pIdx_eq x r k (by simpa using hk) (fun j z hj hz => h1 (j + 1) z (by omega) (by simpa using hz)) (fun z hz => h2 z (by simpa using hz))
    simp [pIdx, h0, this]
theorem putL_length (x : Tow) (R : List Tow) : (putL x R).length = R.length + 1 := by
  have := pIdx_le x.e.en R
  unfold putL
  rw [List.length_append, List.length_cons, List.length_take, List.length_drop]
  omega
theorem mem_putL {x y : Tow} {R : List Tow} : y ∈ putL x R ↔ y = x ∨ y ∈ R := by
  unfold putL
  rw [List.mem_append, List.mem_cons]
  constructor
  · rintro (h | h | h)
    · exact .inr (List.mem_of_mem_take h)
    · exact .inl h
    · exact .inr (List.mem_of_mem_drop h)
  · rintro (h | h)
    · exact .inr (.inl h)
    · have : y ∈ R.take (pIdx x.e.en R) ++ R.drop (pIdx x.e.en R) := by rw [List.take_append_drop]; exact h
      rcases List.mem_append.1 this with h | h
      · exact .inl h
      · exact .inr (.inr h)
theorem entCells_get : ∀ (R : List Tow) (j : Nat) (u : Value), (entCells R)[j]? = some u → ∃ x, R[j / 4]? = some x ∧ [x.kv, .int .u64 (x.e.seq : Nat), .int .i64 x.e.kind, x.vv][j % 4]? = some u
  | [], j, u, h => by simp [entCells] at h
  | y :: r, j, u, h => by
    have e : entCells (y :: r) = [y.kv, .int .u64 (y.e.seq : Nat), .int .i64 y.e.kind, y.vv] ++ entCells r := rfl
    rw [e] at h
    by_cases hj : j < 4
    · rw [List.getElem?_append_left (by simpa using hj)] at h
      refine ⟨y, by rw [Nat.div_eq_of_lt hj]; rfl, by rw [Nat.mod_eq_of_lt hj]; exact h⟩
    · rw [List.getElem?_append_right (by simp; omega)] at h
      obtain ⟨x, h1, h2⟩ := entCells_get r (j - 4) u (by simpa using h)
      refine ⟨x, ?_, ?_⟩
      · rw [show j / 4 = (j - 4) / 4 + 1 by omega]; exact h1
      · rw [show j % 4 = (j - 4) % 4 by omega]; exact h2
theorem entCells_one {R : List Tow} {u : Value} (h : u ∈ entCells R) : u.oneCell' = true := by
  obtain ⟨x, _, hu⟩ := List.mem_flatMap.1 h
  simp only [List.mem_cons, List.not_mem_nil, or_false] at hu
  rcases hu with rfl | rfl | rfl | rfl <;> rfl
abbrev SrcE (w : World) (x : Value) (n : Nat) (news : List Tow) : Prop := Src Try.prog Try.t29.size 31 x n (entCells news) w
theorem src_part {V : World} {b off : Nat} {R : List Tow} (h : Ents V (some ⟨b, off, none⟩) R) (i m c' : Nat) (hm : i + m ≤ R.length) : SrcE V (.slice (some ⟨b, off + i * 4, none⟩) m c') m ((R.drop i).take m) := by
  have hl : ((R.drop i).take m).length = m := by rw [List.length_take, List.length_drop]; omega
  refine Src.ofSlice V Try.underlying31 _ m c' _ (by rw [t29_size, entCells_length, hl]) (fun j u hu => ?_) (fun u hu => entCells_one hu)
  obtain ⟨x, h1, h2⟩ := entCells_get _ j u hu
  have hj : j / 4 < m := by have := (List.getElem?_eq_some_iff.1 h1).1; omega
  have h3 : R[i + j / 4]? = some x := by
    rw [List.getElem?_take_of_lt hj, List.getElem?_drop] at h1
    exact h1
  obtain ⟨⟨b', off', e, hc⟩, _⟩ := h (i + j / 4) x h3
  cases e
  rw [Go.WideShapes.add_plain, show off + i * 4 + j = off + (i + j / 4) * 4 + j % 4 by omega]
  exact hc _ _ h2
theorem src_none (V : World) (a : Option Addr) (c : Nat) : SrcE V (.slice a 0 c) 0 [] := by
  cases a with
  | none => exact Src.ofNil V Try.underlying31 c
  | some a => exact Src.ofSlice V Try.underlying31 a 0 c [] (by simp) (fun j u hu => by cases hu) (fun u hu => by cases hu)
theorem src_one {V : World} {sb : Nat} {x : Tow} (h : V.heap[sb]? = some (.cells x.ent 29 (0, 0))) (c : Nat) : SrcE V (.slice (some ⟨sb, 0, none⟩) 1 c) 1 [x] :=
  Src.ofSlice V Try.underlying31 _ 1 c _ (by rw [t29_size]; rfl) (fun j u hu => by
    rw [Go.WideShapes.add_plain, Nat.zero_add, cell_of_row V sb j _ 29 (0, 0) h]
    simpa [entCells, Tow.ent] using hu) (fun u hu => entCells_one hu)
/-- Append of entries. -/
theorem append_ents (w : World) (B : Nat) (g0 sLen sCap : Nat) (R : List Tow) (hl : sLen = R.length) (x : Value) (news : List Tow) (n : Nat) (hn : n = news.length) (hx : SrcE w x n news) (hB : B ≤ w.heap.size) (hg : B ≤ g0) (hc : sLen ≤ sCap) (hrow : RowC w g0 29 (sCap * 4) (entCells R)) (hsm : sLen + n ≤ 1000000) :
    ∃ g c w', (∀ ty, (Builtin.append_ #[31, 31] ty #[.slice (some ⟨g0, 0, none⟩) sLen sCap, x]).run Try.prog w = .ok (.slice (some ⟨g, 0, none⟩) (sLen + n) c) w') ∧ B ≤ g ∧ RowC w' g 29 (c * 4) (entCells (R ++ news)) ∧ sLen + n ≤ c ∧ Turns (fun k => k = g0) w w' := by
  obtain ⟨g', cp, w', hr, hg', hrow2, hb, hcp, hin, hnew, hkeep⟩ := append_gen2 (P := Try.prog) w B 31 29 Try.t29 _ Try.underlying31 t29_info t29_zero rfl (some ⟨g0, 0, none⟩) sLen sCap (entCells R) (by rw [t29_size, hl, entCells_length]) x n _ hx hB
    (.inr ⟨g0, rfl, hg, hc, by rw [t29_size]; exact hrow⟩) (by rw [t29_bytes]; omega) (by omega)
  refine ⟨g', cp, w', hr, hg', ?_, hcp, ⟨hb.os, hb.tape, hb.output, hb.size, fun k hk hn => hkeep k hk fun e => hn (by cases e; rfl)⟩⟩
  rw [t29_size] at hrow2
  rw [show entCells (R ++ news) = entCells R ++ entCells news by simp [entCells]]
  exact hrow2
section
variable {B : Nat} {W : World} {l : List Tow} {s : Tow} {i : Nat} {x1 x3 : Value}
/-- What the last two appends answer. -/
def Rest (B : Nat) (W V : World) (l : List Tow) (s : Tow) (i g1 c1 sb : Nat) (x3 : Value) : Prop :=
  ∃ g2 c2 Wb g3 c3 Wc, (∀ ty, (Builtin.append_ #[31, 31] ty #[.slice (some ⟨g1, 0, none⟩) i c1, .slice (some ⟨sb, 0, none⟩) 1 1]).run Try.prog V = .ok (.slice (some ⟨g2, 0, none⟩) (i + 1) c2) Wb) ∧
    (∀ ty, (Builtin.append_ #[31, 31] ty #[.slice (some ⟨g2, 0, none⟩) (i + 1) c2, x3]).run Try.prog Wb = .ok (.slice (some ⟨g3, 0, none⟩) (l.length + 1) c3) Wc) ∧
    RowC Wc g3 29 (c3 * 4) (entCells (l.take i ++ s :: l.drop i)) ∧ B ≤ g3 ∧ l.length + 1 ≤ c3 ∧ Turns (fun k => B ≤ k) W Wb ∧ Turns (fun k => B ≤ k) W Wc
theorem ins_rest (V : World) (g1 c1 sb : Nat) (hi : i ≤ l.length) (hL : l.length ≤ 100000) (hBW : B ≤ W.heap.size) (hV : Turns (fun k => B ≤ k) W V) (hg1 : B ≤ g1) (hc1 : i ≤ c1) (row : RowC V g1 29 (c1 * 4) (entCells (l.take i))) (hs : V.heap[sb]? = some (.cells s.ent 29 (0, 0)))
    (hx3 : ∀ V, Turns (fun k => B ≤ k) W V → SrcE V x3 (l.length - i) (l.drop i)) : Rest B W V l s i g1 c1 sb x3 := by
  have hl1 : i = (l.take i).length := by rw [List.length_take]; omega
  obtain ⟨g2, c2, Wb, q2, hg2, row2, hc2, t2⟩ := append_ents V B g1 i c1 (l.take i) hl1 _ [s] 1 rfl (src_one hs 1) (Nat.le_trans hBW hV.size) hg1 hc1 row (by omega)
  have tb : Turns (fun k => B ≤ k) W Wb := hV.trans (t2.mono fun k _ e => by rw [e]; exact hg1)
  obtain ⟨g3, c3, Wc, q3, hg3, row3, hc3, t3⟩ := append_ents Wb B g2 (i + 1) c2 (l.take i ++ [s]) (by rw [List.length_append, ← hl1]; rfl) x3 (l.drop i) (l.length - i) (by rw [List.length_drop]) (hx3 Wb tb) (Nat.le_trans hBW tb.size) hg2 hc2 row2 (by omega)
  rw [show i + 1 + (l.length - i) = l.length + 1 by omega] at q3 hc3
  refine ⟨g2, c2, Wb, g3, c3, Wc, q2, q3, ?_, hg3, hc3, tb, tb.trans (t3.mono fun k _ e => by rw [e]; exact hg2)⟩
  rw [show l.take i ++ s :: l.drop i = l.take i ++ [s] ++ l.drop i by simp]
  exact row3
theorem ins_first (V : World) (e : Nat) (hi : i ≤ l.length) (hL : l.length ≤ 100000) (hBW : B ≤ W.heap.size) (hV : Turns (fun k => B ≤ k) W V) (hge : B ≤ e) (he : V.heap[e]? = some (.cells #[] 29 (0, 0))) (hx1 : SrcE V x1 i (l.take i)) :
    ∃ g1 c1 Wa, (∀ ty, (Builtin.append_ #[31, 31] ty #[.slice (some ⟨e, 0, none⟩) 0 0, x1]).run Try.prog V = .ok (.slice (some ⟨g1, 0, none⟩) i c1) Wa) ∧ B ≤ g1 ∧ i ≤ c1 ∧ RowC Wa g1 29 (c1 * 4) (entCells (l.take i)) ∧ Turns (fun k => B ≤ k) W Wa ∧ Turns (fun k => k = e) V Wa := by
  obtain ⟨g1, c1, Wa, q1, hg1, row1, hc1, t1⟩ := append_ents V B e 0 0 [] rfl x1 (l.take i) i (by rw [List.length_take]; omega) hx1 (Nat.le_trans hBW hV.size) hge (Nat.le_refl _) ⟨#[], he, Nat.le_refl _, fun k hk => by simp [entCells] at hk⟩ (by omega)
  rw [Nat.zero_add] at q1 hc1
  exact ⟨g1, c1, Wa, q1, hg1, hc1, row1, hV.trans (t1.mono fun k _ e' => by rw [e']; exact hge), t1⟩
/-- The three orders. -/
def Orders (B : Nat) (W : World) (l : List Tow) (s : Tow) (i : Nat) (x1 x3 : Value) (E S : Obj) : Prop :=
  (∃ g1 c1 Wa, (∀ ty, (Builtin.append_ #[31, 31] ty #[.slice (some ⟨W.heap.size, 0, none⟩) 0 0, x1]).run Try.prog (W.alloc E) = .ok (.slice (some ⟨g1, 0, none⟩) i c1) Wa) ∧ W.heap.size < Wa.heap.size ∧ Turns (fun k => B ≤ k) W Wa ∧ Rest B W (Wa.alloc S) l s i g1 c1 Wa.heap.size x3) ∧
  (∃ g1 c1 Wa, (∀ ty, (Builtin.append_ #[31, 31] ty #[.slice (some ⟨W.heap.size, 0, none⟩) 0 0, x1]).run Try.prog ((W.alloc E).alloc S) = .ok (.slice (some ⟨g1, 0, none⟩) i c1) Wa) ∧ Turns (fun k => B ≤ k) W Wa ∧ Rest B W Wa l s i g1 c1 (W.heap.size + 1) x3) ∧
  (∃ g1 c1 Wa, (∀ ty, (Builtin.append_ #[31, 31] ty #[.slice (some ⟨W.heap.size + 1, 0, none⟩) 0 0, x1]).run Try.prog ((W.alloc S).alloc E) = .ok (.slice (some ⟨g1, 0, none⟩) i c1) Wa) ∧ Turns (fun k => B ≤ k) W Wa ∧ Rest B W Wa l s i g1 c1 W.heap.size x3)
theorem ins_orders (hi : i ≤ l.length) (hL : l.length ≤ 100000) (hBW : B ≤ W.heap.size) (hx1 : ∀ V, Turns (fun k => B ≤ k) W V → SrcE V x1 i (l.take i)) (hx3 : ∀ V, Turns (fun k => B ≤ k) W V → SrcE V x3 (l.length - i) (l.drop i)) :
    Orders B W l s i x1 x3 (.cells #[] 29) (.cells s.ent 29) := by
  have nw := fun o => heap_alloc_new W o
  have t0 : ∀ o, Turns (fun k => B ≤ k) W (W.alloc o) := fun o => (Turns.refl _ W).alloc _
  refine ⟨?_, ?_, ?_⟩
  · obtain ⟨g1, c1, Wa, q1, hg1, hc1, row, ta, tb⟩ := ins_first (W := W) _ W.heap.size hi hL hBW (t0 (.cells #[] 29)) hBW (nw _) (hx1 _ (t0 _))
    refine ⟨g1, c1, Wa, q1, by have := tb.size; simp at this; omega, ta, ins_rest _ g1 c1 _ hi hL hBW (ta.alloc _) hg1 hc1 (row.turns ((Turns.refl (fun _ => False) Wa).alloc _) (fun x => x)) (heap_alloc_new Wa _) hx3⟩
  · have t1 : Turns (fun k => B ≤ k) W ((W.alloc (.cells #[] 29)).alloc (.cells s.ent 29)) := (t0 _).alloc _
    have e1 : (W.alloc (.cells #[] 29)).heap.size = W.heap.size + 1 := by simp
    obtain ⟨g1, c1, Wa, q1, hg1, hc1, row, ta, tb⟩ := ins_first (W := W) _ W.heap.size hi hL hBW t1 hBW ((heap_alloc_old _ _ (by simp)).trans (nw _)) (hx1 _ t1)
    have hs := heap_alloc_new (W.alloc (.cells #[] 29)) (.cells s.ent 29)
    rw [e1] at hs
    exact ⟨g1, c1, Wa, q1, ta, ins_rest _ g1 c1 _ hi hL hBW ta hg1 hc1 row (tb.heap hs (by omega)) hx3⟩
  · have t1 : Turns (fun k => B ≤ k) W ((W.alloc (.cells s.ent 29)).alloc (.cells #[] 29)) := (t0 _).alloc _
    have e1 : (W.alloc (.cells s.ent 29)).heap.size = W.heap.size + 1 := by simp
    have hn := heap_alloc_new (W.alloc (.cells s.ent 29)) (.cells #[] 29)
    rw [e1] at hn
    obtain ⟨g1, c1, Wa, q1, hg1, hc1, row, ta, tb⟩ := ins_first (W := W) _ (W.heap.size + 1) hi hL hBW t1 (by omega) hn (hx1 _ t1)
    have hs := (heap_alloc_old (W.alloc (.cells s.ent 29)) (.cells #[] 29) (by simp)).trans (nw (.cells s.ent 29))
    exact ⟨g1, c1, Wa, q1, ta, ins_rest _ g1 c1 _ hi hL hBW ta hg1 hc1 row (tb.heap hs (by omega)) hx3⟩
end
/-- Where the second part of a row lies. -/
def dropV (a : Option Addr) (n c i : Nat) : Value := .slice (if c = i then a else Option.map (fun x => x.add (i * 4)) a) (n - i) (c - i)
/-- The two parts of a row, whatever it is. -/
theorem parts {w : World} {a : Option Addr} {n c : Nat} {R : List Tow} (h : Ents w a R) (hn : n = R.length) (hnc : n ≤ c) (hz : (a = none ∧ c = 0) ∨ ∃ b off, a = some ⟨b, off, none⟩ ∧ b < w.heap.size) (i : Nat) (hi : i ≤ n) :
    (∀ V, Turns (fun k => w.heap.size ≤ k) w V → SrcE V (.slice a i c) i (R.take i)) ∧ (∀ V, Turns (fun k => w.heap.size ≤ k) w V → SrcE V (dropV a n c i) (R.length - i) (R.drop i)) := by
  rcases hz with ⟨rfl, rfl⟩ | ⟨b, off, rfl, hbl⟩
  · obtain rfl : n = 0 := by omega
    obtain rfl : i = 0 := by omega
    have hR : R = [] := by simpa using hn.symm
    subst hR
    exact ⟨fun V _ => src_none V none 0, fun V _ => src_none V none 0⟩
  · have hE : ∀ V, Turns (fun k => w.heap.size ≤ k) w V → Ents V (some ⟨b, off, none⟩) R := fun V t => by
      intro k x hx
      obtain ⟨⟨b', off', e, hc⟩, h1, h2⟩ := h k x hx
      cases e
      refine ⟨⟨b, off, rfl, fun j u hu => t.cell (hc j u hu) (by show ¬ w.heap.size ≤ b; omega)⟩, ?_, ?_⟩
      · exact h1.quiet ⟨t.os, t.tape, t.output, t.size, fun k hk _ => t.block k hk (by omega)⟩
      · exact h2.quiet ⟨t.os, t.tape, t.output, t.size, fun k hk _ => t.block k hk (by omega)⟩
    refine ⟨fun V t => ?_, fun V t => ?_⟩
    · have := src_part (hE V t) 0 i c (by omega)
      rw [List.drop_zero] at this
      simpa using this
    · unfold dropV
      by_cases hic : c = i
      · subst hic
        obtain rfl : n = c := by omega
        rw [if_pos rfl, ← hn, Nat.sub_self, List.drop_of_length_le (by omega)]
        exact src_none V _ 0
      · rw [if_neg hic]
        have := src_part (hE V t) i (n - i) (c - i) (by omega)
        rw [List.take_of_length_le (by rw [List.length_drop]; omega)] at this
        rw [← hn, Option.map_some, Go.WideShapes.add_plain]
        exact this
end Go.Proofs.Ytpgligfolecieaa

namespace Go.Proofs.Ytpgligfolecieaa
open Go.RowKit
set_option maxRecDepth 100000
set_option maxHeartbeats 8000000
/-- What Put answers. -/
def PutOk (w : World) (x : Tow) (R : List Tow) (e : Ending) (w' : World) : Prop :=
  ∃ g c, e = .returned (.slice (some ⟨g, 0, none⟩) (R.length + 1) c) ∧ w.heap.size ≤ g ∧ R.length + 1 ≤ c ∧ RowC w' g 29 (c * 4) (entCells (putL x R)) ∧ Below w.heap.size w w'
/-- The box of the entry, wherever the walk stands. -/
def Boxd (w : World) (ka va : Option Addr) (kc vc : Nat) (e : Ent) (w' : World) : Prop :=
  w'.cell? ⟨w.heap.size, 0, none⟩ = some (.slice ka e.key.length kc) ∧ w'.cell? ⟨w.heap.size, 1, none⟩ = some (.int .u64 (e.seq : Nat)) ∧ w'.cell? ⟨w.heap.size, 2, none⟩ = some (.int .i64 e.kind) ∧ w'.cell? ⟨w.heap.size, 3, none⟩ = some (.slice va e.val.length vc)
theorem boxd_of {w w' : World} {ka va : Option Addr} {kc vc : Nat} {e : Ent} (h : w'.heap[w.heap.size]? = some (.cells #[.slice ka e.key.length kc, .int .u64 (e.seq : Nat), .int .i64 e.kind, .slice va e.val.length vc] 29 (0, 0))) : Boxd w ka va kc vc e w' :=
  ⟨cell_of_row w' _ 0 _ 29 (0, 0) h, cell_of_row w' _ 1 _ 29 (0, 0) h, cell_of_row w' _ 2 _ 29 (0, 0) h, cell_of_row w' _ 3 _ 29 (0, 0) h⟩
theorem Boxd.keep {w wz V : World} {ka va : Option Addr} {kc vc : Nat} {e : Ent} (h : Boxd w ka va kc vc e wz) (t : Turns (fun j => wz.heap.size ≤ j) wz.drew V) (hl : w.heap.size < wz.heap.size) : Boxd w ka va kc vc e V :=
  ⟨t.cell (p := ⟨w.heap.size, 0, none⟩) h.1 (by show ¬ wz.heap.size ≤ w.heap.size; omega), t.cell (p := ⟨w.heap.size, 1, none⟩) h.2.1 (by show ¬ wz.heap.size ≤ w.heap.size; omega), t.cell (p := ⟨w.heap.size, 2, none⟩) h.2.2.1 (by show ¬ wz.heap.size ≤ w.heap.size; omega), t.cell (p := ⟨w.heap.size, 3, none⟩) h.2.2.2 (by show ¬ wz.heap.size ≤ w.heap.size; omega)⟩
/-- The end of Put, from a place on. -/
theorem rput_fin {w wr : World} {x : Tow} {R : List Tow} {k : Nat} (hp : pIdx x.e.en R = k) (hb : Below w.heap.size w wr) {g c : Nat} {Wc : World} (hrow : RowC Wc g 29 (c * 4) (entCells (R.take k ++ x :: R.drop k))) (hg : wr.heap.size ≤ g) (hc : R.length + 1 ≤ c) (t : Turns (fun j => wr.heap.size ≤ j) wr.drew Wc) :
    PutOk w x R (.returned (.slice (some ⟨g, 0, none⟩) (R.length + 1) c)) Wc := by
  have hs := hb.size
  have tt : Turns (fun j => wr.heap.size ≤ j) wr Wc := (Turns.refl _ wr).drew.trans t
  refine ⟨g, c, rfl, by omega, hc, ?_, hb.trans (tt.below (by omega) (fun j hj => by omega))⟩
  unfold putL
  rw [hp]
  exact hrow
theorem rput_any (a : Option Addr) (n c : Nat) (R : List Tow) (x : Tow) (w : World) (h : Ents w a R) (hn : n = R.length) (hnc : n ≤ c) (hz : (a = none ∧ c = 0) ∨ ∃ b off, a = some ⟨b, off, none⟩ ∧ b < w.heap.size) (hmx : n ≤ 1000) (hk : Bytes w x.kv x.e.key) (hkx : x.e.key.length ≤ 1000000) (hkb : ∀ y, y ∈ R → y.e.key.length ≤ 1000000) :
    Calls Try.prog 21 #[.slice a n c, .agg x.ent] w (PutOk w x R) := by
  obtain ⟨ka, kc, va, vc, e⟩ := x
  have HL := hide hn
  have HA := hide h
  have HK := hide hk
  have HKB := hide hkb
  have HZ := hide hz
  have b0 := (Below.refl w.heap.size w).alloc (Nat.le_refl _) (.cells #[.slice ka e.key.length kc, .int .u64 (e.seq : Nat), .int .i64 e.kind, .slice va e.val.length vc] 29)
  have n0 := heap_alloc_new w (.cells #[.slice ka e.key.length kc, .int .u64 (e.seq : Nat), .int .i64 e.kind, .slice va e.val.length vc] 29)
  have N0 := hide n0
  have B0 := hide b0
  clear h hn hk hkb hz n0 b0
  show Calls Try.prog 21 #[.slice a n c, .agg #[.slice ka e.key.length kc, .int .u64 (e.seq : Nat), .int .i64 e.kind, .slice va e.val.length vc]] w _
  go_enter Try.func21, Try.ntmps21
  go_wp2_with fail
  go_loopw [5] (fun iv wr => ∃ k : Nat, iv = .int .i64 (k : Nat) ∧ k ≤ n ∧ (∀ j y, j < k → R[j]? = some y → cmpE y.e.en e.en < 0) ∧ wr.heap[w.heap.size]? = some (.cells #[.slice ka e.key.length kc, .int .u64 (e.seq : Nat), .int .i64 e.kind, .slice va e.val.length vc] 29 (0, 0)) ∧ Below w.heap.size w wr) (fun iv _ => n - (intOf iv).toNat)
  case atStart => exact ⟨0, rfl, Nat.zero_le _, fun j y h => by omega, N0.out, B0.out⟩
  case round =>
    obtain ⟨k, rfl, hkn, hbef, hbox, hbw⟩ := hrel
    have HBE := hide hbef
    have HBX := hide hbox
    have BW := hide hbw
    have hsz := hbw.size
    have hszb := lt_of_heap hbox
    clear hbef N0 B0
    have hboxd := boxd_of (w := w) hbox
    by_cases hkl : k < n
    · have i1 : (k : Int) < (n : Int) := by omega
      have i0 : (0 : Int) ≤ (k : Int) := by omega
      obtain ⟨y, hy⟩ : ∃ y, R[k]? = some y := ⟨_, List.getElem?_eq_getElem (by have := HL.out; omega)⟩
      have tt := Turns.of_below hbw (fun _ => False)
      obtain ⟨⟨b, off, rfl, hc⟩, k1, k2⟩ := (HA.out.quiet tt) k y hy
      have hyk := HKB.out y (List.mem_of_getElem? hy)
      have HST : Hid (cmpE y.e.en e.en < 0 → ∀ j z, j < k + 1 → R[j]? = some z → cmpE z.e.en e.en < 0) := hide fun hlt j z hj hz => by
        by_cases hjk : j < k
        · exact HBE.out j z hjk hz
        · obtain rfl : j = k := by omega
          rw [hy] at hz
          cases hz
          exact hlt
      have HPIF : Hid (¬ cmpE y.e.en e.en < 0 → pIdx e.en R = k) := hide fun hn => pIdx_eq e.en R k (by have := HL.out; omega) HBE.out (fun z hz => by rw [hy] at hz; cases hz; exact hn)
      obtain ⟨ya, yc, yva, yvc, ye⟩ := y
      have c0 : wr.cell? ⟨b, off + k * 4, none⟩ = some (.slice ya ye.key.length yc) := hc 0 _ rfl
      have c1 : wr.cell? ⟨b, off + k * 4 + 1, none⟩ = some (.int .u64 (ye.seq : Nat)) := hc 1 _ rfl
      have c2 : wr.cell? ⟨b, off + k * 4 + 2, none⟩ = some (.int .i64 ye.kind) := hc 2 _ rfl
      have c3 : wr.cell? ⟨b, off + k * 4 + 3, none⟩ = some (.slice yva ye.val.length yvc) := hc 3 _ rfl
      have t0 : Turns (fun _ => False) wr wr.drew := (Turns.refl _ _).drew
      have HQ := hide (rcompare_any ya ka yva va ye.key.length yc ye.val.length yvc e.key.length kc e.val.length vc ye.kind e.kind ye.seq e.seq ye.key e.key wr.drew (Bytes.quiet k1 t0) (Bytes.quiet (HK.out.quiet tt) t0) (show ye.key.length ≤ 1000000000 from Nat.le_trans hyk (by decide)) (show e.key.length ≤ 1000000000 from Nat.le_trans hkx (by decide)))
      obtain ⟨d0, d1, d2, d3⟩ := hboxd
      change Hid (cmpE (ye.key, ye.seq) (e.key, e.seq) < 0 → _) at HST
      change Hid (¬ cmpE (ye.key, ye.seq) (e.key, e.seq) < 0 → _) at HPIF
      generalize cmpE (ye.key, ye.seq) (e.key, e.seq) = cv at *
      generalize ye.key.length = ky at *
      generalize ye.val.length = yv at *
      generalize ye.seq = ys at *
      generalize ye.kind = yk at *
      clear hc k1 k2 tt hbw t0 hbox hy hyk
      go_wp2_with fail
      go_region_held (fun w' => (w'.cell? ⟨b, off + k * 4, none⟩ = some (.slice ya ky yc) ∧ w'.cell? ⟨b, off + k * 4 + 1, none⟩ = some (.int .u64 (ys : Nat)) ∧ w'.cell? ⟨b, off + k * 4 + 2, none⟩ = some (.int .i64 yk) ∧ w'.cell? ⟨b, off + k * 4 + 3, none⟩ = some (.slice yva yv yvc)) ∧ w'.cell? ⟨w.heap.size, 0, none⟩ = some (.slice ka e.key.length kc) ∧ w'.cell? ⟨w.heap.size, 1, none⟩ = some (.int .u64 (e.seq : Nat)) ∧ w'.cell? ⟨w.heap.size, 2, none⟩ = some (.int .i64 e.kind) ∧ w'.cell? ⟨w.heap.size, 3, none⟩ = some (.slice va e.val.length vc)) (first | (with_reducible exact ⟨⟨f0, f1, f2, f3⟩, g0, g1, g2, g3⟩) | (simp only [World.cell?_drew]; with_reducible exact ⟨⟨c0, c1, c2, c3⟩, d0, d1, d2, d3⟩)) (first
        | (go_at_call 44; refine HQ.out.mono ?_; rintro x w2 ⟨rfl, b2⟩; have t2 := (Turns.refl (fun _ => False) wr).drew.trans (Turns.of_below b2 (fun _ => False)); have f0 := t2.cell c0 (fun x => x); have f1 := t2.cell c1 (fun x => x); have f2 := t2.cell c2 (fun x => x); have f3 := t2.cell c3 (fun x => x); have g0 := t2.cell d0 (fun x => x); have g1 := t2.cell d1 (fun x => x); have g2 := t2.cell d2 (fun x => x); have g3 := t2.cell d3 (fun x => x); have T2 := hide t2; clear t2 b2))
      clear f0 f1 f2 f3 g0 g1 g2 g3
      have BXZ := hide (T2.out.heap HBX.out (fun x => x))
      have BZ := hide (BW.out.trans (T2.out.below hsz (fun _ h => h.elim)))
      clear c0 c1 c2 c3 d0 d1 d2 d3
      by_cases hlt : cv < 0
      · have HST2 := hide (HST.out hlt)
        go_wp2_with fail
        go_roundw
        case rel => exact ⟨k + 1, by go_num, by omega, HST2.out, BXZ.out, BZ.out⟩
        case measure => simp [intOf]; omega
      · have HPI := hide (HPIF.out (by omega))
        have hlt' : ¬ cv < 0 := hlt
        go_wp2_with fail
        generalize w2 = wz at *
        generalize (some (⟨b, off, none⟩ : Addr)) = a at *
        clear HQ HST HPIF hlt hlt'
        have hszz : w.heap.size < wz.heap.size := lt_of_heap BXZ.out
        have hbz := boxd_of (w := w) BXZ.out
        have HEZ : Ents wz a R := HA.out.quiet (Turns.of_below BZ.out (fun _ => False))
        obtain ⟨sr1, sr3⟩ := parts HEZ HL.out hnc (by rcases HZ.out with h | ⟨b, off, h, hl⟩; exact .inl h; exact .inr ⟨b, off, h, by omega⟩) k hkn
        obtain ⟨⟨gX1, cX1, WX1, qX1, hX1, tX1, gX2, cX2, WX2, gX3, cX3, WX3, qX2, qX3, rowX, hgX, hcX, tX2, tX3⟩, ⟨gY1, cY1, WY1, qY1, tY1, gY2, cY2, WY2, gY3, cY3, WY3, qY2, qY3, rowY, hgY, hcY, tY2, tY3⟩, ⟨gZ1, cZ1, WZ1, qZ1, tZ1, gZ2, cZ2, WZ2, gZ3, cZ3, WZ3, qZ2, qZ3, rowZ, hgZ, hcZ, tZ2, tZ3⟩⟩ := ins_orders (B := wz.heap.size) (W := wz.drew) (l := R) (s := (⟨ka, kc, va, vc, e⟩ : Tow)) (i := k) (x1 := .slice a k c) (x3 := dropV a n c k) (by have := HL.out; omega) (by have := HL.out; omega) (Nat.le_refl _) (fun V t => sr1 V ((Turns.refl _ wz).drew.trans t)) (fun V t => sr3 V ((Turns.refl _ wz).drew.trans t))
        have Fx := hide (rput_fin (x := ⟨ka, kc, va, vc, e⟩) HPI.out BZ.out rowX hgX hcX tX3)
        have Fy := hide (rput_fin (x := ⟨ka, kc, va, vc, e⟩) HPI.out BZ.out rowY hgY hcY tY3)
        have Fz := hide (rput_fin (x := ⟨ka, kc, va, vc, e⟩) HPI.out BZ.out rowZ hgZ hcZ tZ3)
        have tr : Turns (fun j => wz.heap.size ≤ j) wz.drew wz.drew := Turns.refl _ _
        have SE := hide (hbz.keep (tr.alloc (.cells #[] 29)) hszz)
        have SES := hide (hbz.keep ((tr.alloc (.cells #[] 29)).alloc (.cells #[.slice ka e.key.length kc, .int .u64 (e.seq : Nat), .int .i64 e.kind, .slice va e.val.length vc] 29)) hszz)
        have SS := hide (hbz.keep (tr.alloc (.cells #[.slice ka e.key.length kc, .int .u64 (e.seq : Nat), .int .i64 e.kind, .slice va e.val.length vc] 29)) hszz)
        have SSE := hide (hbz.keep ((tr.alloc (.cells #[.slice ka e.key.length kc, .int .u64 (e.seq : Nat), .int .i64 e.kind, .slice va e.val.length vc] 29)).alloc (.cells #[] 29)) hszz)
        have Sx1 := hide (hbz.keep tX1 hszz)
        have Sx1s := hide (hbz.keep (tX1.alloc (.cells #[.slice ka e.key.length kc, .int .u64 (e.seq : Nat), .int .i64 e.kind, .slice va e.val.length vc] 29)) hszz)
        have Sx2 := hide (hbz.keep tX2 hszz)
        have Sx3 := hide (hbz.keep tX3 hszz)
        have Sy1 := hide (hbz.keep tY1 hszz)
        have Sy2 := hide (hbz.keep tY2 hszz)
        have Sy3 := hide (hbz.keep tY3 hszz)
        have Sz1 := hide (hbz.keep tZ1 hszz)
        have Sz2 := hide (hbz.keep tZ2 hszz)
        have Sz3 := hide (hbz.keep tZ3 hszz)
        have s1 : Boxd w ka va kc vc e wz.drew := hbz
        have qx1 := qX1 31
        have qx2 := qX2 31
        have qx3 := qX3 31
        have qy1 := qY1 31
        have qy2 := qY2 31
        have qy3 := qY3 31
        have qz1 := qZ1 31
        have qz2 := qZ2 31
        have qz3 := qZ3 31
        rw [← HL.out] at qx3 qy3 qz3 Fx Fy Fz
        clear qX1 qX2 qX3 qY1 qY2 qY3 qZ1 qZ2 qZ3 hX1 tX1 tX2 tX3 tY1 tY2 tY3 tZ1 tZ2 tZ3 rowX rowY rowZ hgX hgY hgZ hcX hcY hcZ sr1 sr3 tr hbz HEZ
        have y0 : (0 : Int) ≤ (k : Int) := by omega
        have y1 : (k : Int) ≤ (n : Int) := by omega
        have y2 : (k : Int) ≤ (c : Int) := by omega
        refine wp_region_held_drew (S := fun w' => Boxd w ka va kc vc e w') (by kernel_rfl) s1 (fun _ => ?_)
        change wpAnyH _ _ _ _ _ 13 (Array.replicate 13 false) _ _
        refine wpAnyH_take (i := 1) (oi := { dst := some 22, op := Op.move (Operand.tmp 0), type := 31, pos := "ref.go:137", after := #[], guard := none }) (v := .slice a n c) rfl (by kernel_rfl) (by kernel_rfl) (by kernel_rfl) (fun _ _ _ h => h) (Or.inl ⟨by rfl, ?_⟩) s1 ?_
        · rintro w ⟨d0, d1, d2, d3⟩
          go_simp
        simp only [Act.put, List.setIfInBounds_toArray, List.set_cons_zero, List.set_cons_succ]
        refine wpAnyH_take (i := 2) (oi := { dst := some 23, op := Op.move (Operand.tmp 5), type := 3, pos := "ref.go:137", after := #[], guard := none }) (v := .int .i64 (k : Nat)) rfl (by kernel_rfl) (by kernel_rfl) (by kernel_rfl) (fun _ _ _ h => h) (Or.inl ⟨by rfl, ?_⟩) s1 ?_
        · rintro w ⟨d0, d1, d2, d3⟩
          go_simp
        simp only [Act.put, List.setIfInBounds_toArray, List.set_cons_zero, List.set_cons_succ]
        refine wpAnyH_take (i := 3) (oi := { dst := some 24, op := Op.slice 31 (Operand.tmp 22) none (some (Operand.tmp 23)) none, type := 31, pos := "ref.go:137", after := #[{ on := 1, ground := Ground.data }, { on := 2, ground := Ground.data }], guard := none }) (v := .slice a k c) rfl (by kernel_rfl) (by kernel_rfl) (by kernel_rfl) (fun _ _ _ h => h) (Or.inl ⟨by rfl, ?_⟩) s1 ?_
        · rintro w ⟨d0, d1, d2, d3⟩
          go_simp
        simp only [Act.put, List.setIfInBounds_toArray, List.set_cons_zero, List.set_cons_succ]
        refine wpAnyH_take (i := 5) (oi := { dst := some 26, op := Op.load 29 (Operand.tmp 3), type := 29, pos := "ref.go:137", after := #[], guard := none }) (v := .agg #[.slice ka e.key.length kc, .int .u64 (e.seq : Nat), .int .i64 e.kind, .slice va e.val.length vc]) rfl (by kernel_rfl) (by kernel_rfl) (by kernel_rfl) (fun _ _ _ h => h) (Or.inl ⟨by rfl, ?_⟩) s1 ?_
        · rintro w ⟨d0, d1, d2, d3⟩
          go_simp
        simp only [Act.put, List.setIfInBounds_toArray, List.set_cons_zero, List.set_cons_succ]
        refine wpAnyH_take (i := 8) (oi := { dst := some 29, op := Op.move (Operand.tmp 0), type := 31, pos := "ref.go:137", after := #[], guard := none }) (v := .slice a n c) rfl (by kernel_rfl) (by kernel_rfl) (by kernel_rfl) (fun _ _ _ h => h) (Or.inl ⟨by rfl, ?_⟩) s1 ?_
        · rintro w ⟨d0, d1, d2, d3⟩
          go_simp
        simp only [Act.put, List.setIfInBounds_toArray, List.set_cons_zero, List.set_cons_succ]
        refine wpAnyH_take (i := 9) (oi := { dst := some 30, op := Op.move (Operand.tmp 5), type := 3, pos := "ref.go:137", after := #[], guard := none }) (v := .int .i64 (k : Nat)) rfl (by kernel_rfl) (by kernel_rfl) (by kernel_rfl) (fun _ _ _ h => h) (Or.inl ⟨by rfl, ?_⟩) s1 ?_
        · rintro w ⟨d0, d1, d2, d3⟩
          go_simp
        simp only [Act.put, List.setIfInBounds_toArray, List.set_cons_zero, List.set_cons_succ]
        refine wpAnyH_take (i := 10) (oi := { dst := some 31, op := Op.slice 31 (Operand.tmp 29) (some (Operand.tmp 30)) none none, type := 31, pos := "ref.go:137", after := #[{ on := 8, ground := Ground.data }, { on := 9, ground := Ground.data }], guard := none }) (v := dropV a n c k) rfl (by kernel_rfl) (by kernel_rfl) (by kernel_rfl) (fun _ _ _ h => h) (Or.inl ⟨by rfl, ?_⟩) s1 ?_
        · rintro w ⟨d0, d1, d2, d3⟩
          unfold dropV
          go_simp
        simp only [Act.put, List.setIfInBounds_toArray, List.set_cons_zero, List.set_cons_succ]
        refine wpAnyH_ready (rs := [0, 6]) (by kernel_rfl) (by simp) ?_
        refine AllReadyH.cons rfl (fun K hK => ?_) (AllReadyH.cons rfl (fun K hK => ?_) AllReadyH.nil)
        · skip
          go_simp
          refine hK.out _ _ SE.out (fun _ => ?_)
          clear hK K
          refine wpAnyH_ready (rs := [4, 6]) (by kernel_rfl) (by simp) ?_
          refine AllReadyH.cons rfl (fun K hK => ?_) (AllReadyH.cons rfl (fun K hK => ?_) AllReadyH.nil)
          · skip
            refine step_append_run rfl (.tmp 21) (.tmp 24) 31 rfl _ _ rfl rfl _ _ qx1 25 rfl ?_
            simp only [Act.put, List.setIfInBounds_toArray, List.set_cons_zero, List.set_cons_succ]
            refine hK.out _ _ Sx1.out (fun _ => ?_)
            clear hK K
            refine wpAnyH_ready (rs := [6]) (by kernel_rfl) (by simp) ?_
            refine AllReadyH.cons rfl (fun K hK => ?_) AllReadyH.nil
            go_simp
            refine hK.out _ _ Sx1s.out (fun _ => ?_)
            clear hK K
            refine wpAnyH_ready (rs := [7]) (by kernel_rfl) (by simp) ?_
            refine AllReadyH.cons rfl (fun K hK => ?_) AllReadyH.nil
            refine step_append_run rfl (.tmp 25) (.tmp 27) 31 rfl _ _ rfl rfl _ _ qx2 28 rfl ?_
            simp only [Act.put, List.setIfInBounds_toArray, List.set_cons_zero, List.set_cons_succ]
            refine hK.out _ _ Sx2.out (fun _ => ?_)
            clear hK K
            refine wpAnyH_ready (rs := [11]) (by kernel_rfl) (by simp) ?_
            refine AllReadyH.cons rfl (fun K hK => ?_) AllReadyH.nil
            refine step_append_run rfl (.tmp 28) (.tmp 31) 31 rfl _ _ rfl rfl _ _ qx3 32 rfl ?_
            simp only [Act.put, List.setIfInBounds_toArray, List.set_cons_zero, List.set_cons_succ]
            refine hK.out _ _ Sx3.out (fun _ => ?_)
            clear hK K
            refine wpAnyH_ready (rs := [12]) (by kernel_rfl) (by simp) ?_
            refine AllReadyH.cons rfl (fun K hK => ?_) AllReadyH.nil
            go_simp
            refine hK.out _ _ Sx3.out (fun _ => ?_)
            clear hK K
            refine wpAnyH_done (by kernel_rfl) ?_ _
            go_wp2_with fail
            go_ret
            exact Fx.out
          · skip
            go_simp
            refine hK.out _ _ SES.out (fun _ => ?_)
            clear hK K
            refine wpAnyH_ready (rs := [4]) (by kernel_rfl) (by simp) ?_
            refine AllReadyH.cons rfl (fun K hK => ?_) AllReadyH.nil
            refine step_append_run rfl (.tmp 21) (.tmp 24) 31 rfl _ _ rfl rfl _ _ qy1 25 rfl ?_
            simp only [Act.put, List.setIfInBounds_toArray, List.set_cons_zero, List.set_cons_succ]
            refine hK.out _ _ Sy1.out (fun _ => ?_)
            clear hK K
            refine wpAnyH_ready (rs := [7]) (by kernel_rfl) (by simp) ?_
            refine AllReadyH.cons rfl (fun K hK => ?_) AllReadyH.nil
            refine step_append_run rfl (.tmp 25) (.tmp 27) 31 rfl _ _ rfl rfl _ _ qy2 28 rfl ?_
            simp only [Act.put, List.setIfInBounds_toArray, List.set_cons_zero, List.set_cons_succ]
            refine hK.out _ _ Sy2.out (fun _ => ?_)
            clear hK K
            refine wpAnyH_ready (rs := [11]) (by kernel_rfl) (by simp) ?_
            refine AllReadyH.cons rfl (fun K hK => ?_) AllReadyH.nil
            refine step_append_run rfl (.tmp 28) (.tmp 31) 31 rfl _ _ rfl rfl _ _ qy3 32 rfl ?_
            simp only [Act.put, List.setIfInBounds_toArray, List.set_cons_zero, List.set_cons_succ]
            refine hK.out _ _ Sy3.out (fun _ => ?_)
            clear hK K
            refine wpAnyH_ready (rs := [12]) (by kernel_rfl) (by simp) ?_
            refine AllReadyH.cons rfl (fun K hK => ?_) AllReadyH.nil
            go_simp
            refine hK.out _ _ Sy3.out (fun _ => ?_)
            clear hK K
            refine wpAnyH_done (by kernel_rfl) ?_ _
            go_wp2_with fail
            go_ret
            exact Fy.out
        · skip
          go_simp
          refine hK.out _ _ SS.out (fun _ => ?_)
          clear hK K
          refine wpAnyH_ready (rs := [0]) (by kernel_rfl) (by simp) ?_
          refine AllReadyH.cons rfl (fun K hK => ?_) AllReadyH.nil
          go_simp
          refine hK.out _ _ SSE.out (fun _ => ?_)
          clear hK K
          refine wpAnyH_ready (rs := [4]) (by kernel_rfl) (by simp) ?_
          refine AllReadyH.cons rfl (fun K hK => ?_) AllReadyH.nil
          refine step_append_run rfl (.tmp 21) (.tmp 24) 31 rfl _ _ rfl rfl _ _ qz1 25 rfl ?_
          simp only [Act.put, List.setIfInBounds_toArray, List.set_cons_zero, List.set_cons_succ]
          refine hK.out _ _ Sz1.out (fun _ => ?_)
          clear hK K
          refine wpAnyH_ready (rs := [7]) (by kernel_rfl) (by simp) ?_
          refine AllReadyH.cons rfl (fun K hK => ?_) AllReadyH.nil
          refine step_append_run rfl (.tmp 25) (.tmp 27) 31 rfl _ _ rfl rfl _ _ qz2 28 rfl ?_
          simp only [Act.put, List.setIfInBounds_toArray, List.set_cons_zero, List.set_cons_succ]
          refine hK.out _ _ Sz2.out (fun _ => ?_)
          clear hK K
          refine wpAnyH_ready (rs := [11]) (by kernel_rfl) (by simp) ?_
          refine AllReadyH.cons rfl (fun K hK => ?_) AllReadyH.nil
          refine step_append_run rfl (.tmp 28) (.tmp 31) 31 rfl _ _ rfl rfl _ _ qz3 32 rfl ?_
          simp only [Act.put, List.setIfInBounds_toArray, List.set_cons_zero, List.set_cons_succ]
          refine hK.out _ _ Sz3.out (fun _ => ?_)
          clear hK K
          refine wpAnyH_ready (rs := [12]) (by kernel_rfl) (by simp) ?_
          refine AllReadyH.cons rfl (fun K hK => ?_) AllReadyH.nil
          go_simp
          refine hK.out _ _ Sz3.out (fun _ => ?_)
          clear hK K
          refine wpAnyH_done (by kernel_rfl) ?_ _
          go_wp2_with fail
          go_ret
          exact Fz.out

    · have hd : decide ((k : Int) < (n : Int)) = false := decide_eq_false (by omega)
      have HPI := hide (pIdx_eq e.en R k (by have := HL.out; omega) HBE.out (fun y hy => by
        rw [List.getElem?_eq_none (by have := HL.out; omega)] at hy
        cases hy))
      clear hbox hbw hboxd
      go_wp2_with fail
      go_quiet (fail)
      go_wp2_with fail
      have BXZ := hide (show (wr.drewN nq).heap[w.heap.size]? = _ from HBX.out)
      have BZ : Hid (Below w.heap.size w (wr.drewN nq)) := hide ⟨BW.out.os, BW.out.tape, BW.out.output, BW.out.size, BW.out.block⟩
      generalize wr.drewN nq = wz at *
      have hszz : w.heap.size < wz.heap.size := lt_of_heap BXZ.out
      have hbz := boxd_of (w := w) BXZ.out
      have HEZ : Ents wz a R := HA.out.quiet (Turns.of_below BZ.out (fun _ => False))
      obtain ⟨sr1, sr3⟩ := parts HEZ HL.out hnc (by rcases HZ.out with h | ⟨b, off, h, hl⟩; exact .inl h; exact .inr ⟨b, off, h, by omega⟩) k hkn
      obtain ⟨⟨gX1, cX1, WX1, qX1, hX1, tX1, gX2, cX2, WX2, gX3, cX3, WX3, qX2, qX3, rowX, hgX, hcX, tX2, tX3⟩, ⟨gY1, cY1, WY1, qY1, tY1, gY2, cY2, WY2, gY3, cY3, WY3, qY2, qY3, rowY, hgY, hcY, tY2, tY3⟩, ⟨gZ1, cZ1, WZ1, qZ1, tZ1, gZ2, cZ2, WZ2, gZ3, cZ3, WZ3, qZ2, qZ3, rowZ, hgZ, hcZ, tZ2, tZ3⟩⟩ := ins_orders (B := wz.heap.size) (W := wz.drew) (l := R) (s := (⟨ka, kc, va, vc, e⟩ : Tow)) (i := k) (x1 := .slice a k c) (x3 := dropV a n c k) (by have := HL.out; omega) (by have := HL.out; omega) (Nat.le_refl _) (fun V t => sr1 V ((Turns.refl _ wz).drew.trans t)) (fun V t => sr3 V ((Turns.refl _ wz).drew.trans t))
      have Fx := hide (rput_fin (x := ⟨ka, kc, va, vc, e⟩) HPI.out BZ.out rowX hgX hcX tX3)
      have Fy := hide (rput_fin (x := ⟨ka, kc, va, vc, e⟩) HPI.out BZ.out rowY hgY hcY tY3)
      have Fz := hide (rput_fin (x := ⟨ka, kc, va, vc, e⟩) HPI.out BZ.out rowZ hgZ hcZ tZ3)
      have tr : Turns (fun j => wz.heap.size ≤ j) wz.drew wz.drew := Turns.refl _ _
      have SE := hide (hbz.keep (tr.alloc (.cells #[] 29)) hszz)
      have SES := hide (hbz.keep ((tr.alloc (.cells #[] 29)).alloc (.cells #[.slice ka e.key.length kc, .int .u64 (e.seq : Nat), .int .i64 e.kind, .slice va e.val.length vc] 29)) hszz)
      have SS := hide (hbz.keep (tr.alloc (.cells #[.slice ka e.key.length kc, .int .u64 (e.seq : Nat), .int .i64 e.kind, .slice va e.val.length vc] 29)) hszz)
      have SSE := hide (hbz.keep ((tr.alloc (.cells #[.slice ka e.key.length kc, .int .u64 (e.seq : Nat), .int .i64 e.kind, .slice va e.val.length vc] 29)).alloc (.cells #[] 29)) hszz)
      have Sx1 := hide (hbz.keep tX1 hszz)
      have Sx1s := hide (hbz.keep (tX1.alloc (.cells #[.slice ka e.key.length kc, .int .u64 (e.seq : Nat), .int .i64 e.kind, .slice va e.val.length vc] 29)) hszz)
      have Sx2 := hide (hbz.keep tX2 hszz)
      have Sx3 := hide (hbz.keep tX3 hszz)
      have Sy1 := hide (hbz.keep tY1 hszz)
      have Sy2 := hide (hbz.keep tY2 hszz)
      have Sy3 := hide (hbz.keep tY3 hszz)
      have Sz1 := hide (hbz.keep tZ1 hszz)
      have Sz2 := hide (hbz.keep tZ2 hszz)
      have Sz3 := hide (hbz.keep tZ3 hszz)
      have s1 : Boxd w ka va kc vc e wz.drew := hbz
      have qx1 := qX1 31
      have qx2 := qX2 31
      have qx3 := qX3 31
      have qy1 := qY1 31
      have qy2 := qY2 31
      have qy3 := qY3 31
      have qz1 := qZ1 31
      have qz2 := qZ2 31
      have qz3 := qZ3 31
      rw [← HL.out] at qx3 qy3 qz3 Fx Fy Fz
      clear qX1 qX2 qX3 qY1 qY2 qY3 qZ1 qZ2 qZ3 hX1 tX1 tX2 tX3 tY1 tY2 tY3 tZ1 tZ2 tZ3 rowX rowY rowZ hgX hgY hgZ hcX hcY hcZ sr1 sr3 tr hbz HEZ
      have y0 : (0 : Int) ≤ (k : Int) := by omega
      have y1 : (k : Int) ≤ (n : Int) := by omega
      have y2 : (k : Int) ≤ (c : Int) := by omega
      refine wp_region_held_drew (S := fun w' => Boxd w ka va kc vc e w') (by kernel_rfl) s1 (fun _ => ?_)
      change wpAnyH _ _ _ _ _ 13 (Array.replicate 13 false) _ _
      refine wpAnyH_take (i := 1) (oi := { dst := some 22, op := Op.move (Operand.tmp 0), type := 31, pos := "ref.go:137", after := #[], guard := none }) (v := .slice a n c) rfl (by kernel_rfl) (by kernel_rfl) (by kernel_rfl) (fun _ _ _ h => h) (Or.inl ⟨by rfl, ?_⟩) s1 ?_
      · rintro w ⟨d0, d1, d2, d3⟩
        go_simp
      simp only [Act.put, List.setIfInBounds_toArray, List.set_cons_zero, List.set_cons_succ]
      refine wpAnyH_take (i := 2) (oi := { dst := some 23, op := Op.move (Operand.tmp 5), type := 3, pos := "ref.go:137", after := #[], guard := none }) (v := .int .i64 (k : Nat)) rfl (by kernel_rfl) (by kernel_rfl) (by kernel_rfl) (fun _ _ _ h => h) (Or.inl ⟨by rfl, ?_⟩) s1 ?_
      · rintro w ⟨d0, d1, d2, d3⟩
        go_simp
      simp only [Act.put, List.setIfInBounds_toArray, List.set_cons_zero, List.set_cons_succ]
      refine wpAnyH_take (i := 3) (oi := { dst := some 24, op := Op.slice 31 (Operand.tmp 22) none (some (Operand.tmp 23)) none, type := 31, pos := "ref.go:137", after := #[{ on := 1, ground := Ground.data }, { on := 2, ground := Ground.data }], guard := none }) (v := .slice a k c) rfl (by kernel_rfl) (by kernel_rfl) (by kernel_rfl) (fun _ _ _ h => h) (Or.inl ⟨by rfl, ?_⟩) s1 ?_
      · rintro w ⟨d0, d1, d2, d3⟩
        go_simp
      simp only [Act.put, List.setIfInBounds_toArray, List.set_cons_zero, List.set_cons_succ]
      refine wpAnyH_take (i := 5) (oi := { dst := some 26, op := Op.load 29 (Operand.tmp 3), type := 29, pos := "ref.go:137", after := #[], guard := none }) (v := .agg #[.slice ka e.key.length kc, .int .u64 (e.seq : Nat), .int .i64 e.kind, .slice va e.val.length vc]) rfl (by kernel_rfl) (by kernel_rfl) (by kernel_rfl) (fun _ _ _ h => h) (Or.inl ⟨by rfl, ?_⟩) s1 ?_
      · rintro w ⟨d0, d1, d2, d3⟩
        go_simp
      simp only [Act.put, List.setIfInBounds_toArray, List.set_cons_zero, List.set_cons_succ]
      refine wpAnyH_take (i := 8) (oi := { dst := some 29, op := Op.move (Operand.tmp 0), type := 31, pos := "ref.go:137", after := #[], guard := none }) (v := .slice a n c) rfl (by kernel_rfl) (by kernel_rfl) (by kernel_rfl) (fun _ _ _ h => h) (Or.inl ⟨by rfl, ?_⟩) s1 ?_
      · rintro w ⟨d0, d1, d2, d3⟩
        go_simp
      simp only [Act.put, List.setIfInBounds_toArray, List.set_cons_zero, List.set_cons_succ]
      refine wpAnyH_take (i := 9) (oi := { dst := some 30, op := Op.move (Operand.tmp 5), type := 3, pos := "ref.go:137", after := #[], guard := none }) (v := .int .i64 (k : Nat)) rfl (by kernel_rfl) (by kernel_rfl) (by kernel_rfl) (fun _ _ _ h => h) (Or.inl ⟨by rfl, ?_⟩) s1 ?_
      · rintro w ⟨d0, d1, d2, d3⟩
        go_simp
      simp only [Act.put, List.setIfInBounds_toArray, List.set_cons_zero, List.set_cons_succ]
      refine wpAnyH_take (i := 10) (oi := { dst := some 31, op := Op.slice 31 (Operand.tmp 29) (some (Operand.tmp 30)) none none, type := 31, pos := "ref.go:137", after := #[{ on := 8, ground := Ground.data }, { on := 9, ground := Ground.data }], guard := none }) (v := dropV a n c k) rfl (by kernel_rfl) (by kernel_rfl) (by kernel_rfl) (fun _ _ _ h => h) (Or.inl ⟨by rfl, ?_⟩) s1 ?_
      · rintro w ⟨d0, d1, d2, d3⟩
        unfold dropV
        go_simp
      simp only [Act.put, List.setIfInBounds_toArray, List.set_cons_zero, List.set_cons_succ]
      refine wpAnyH_ready (rs := [0, 6]) (by kernel_rfl) (by simp) ?_
      refine AllReadyH.cons rfl (fun K hK => ?_) (AllReadyH.cons rfl (fun K hK => ?_) AllReadyH.nil)
      · skip
        go_simp
        refine hK.out _ _ SE.out (fun _ => ?_)
        clear hK K
        refine wpAnyH_ready (rs := [4, 6]) (by kernel_rfl) (by simp) ?_
        refine AllReadyH.cons rfl (fun K hK => ?_) (AllReadyH.cons rfl (fun K hK => ?_) AllReadyH.nil)
        · skip
          refine step_append_run rfl (.tmp 21) (.tmp 24) 31 rfl _ _ rfl rfl _ _ qx1 25 rfl ?_
          simp only [Act.put, List.setIfInBounds_toArray, List.set_cons_zero, List.set_cons_succ]
          refine hK.out _ _ Sx1.out (fun _ => ?_)
          clear hK K
          refine wpAnyH_ready (rs := [6]) (by kernel_rfl) (by simp) ?_
          refine AllReadyH.cons rfl (fun K hK => ?_) AllReadyH.nil
          go_simp
          refine hK.out _ _ Sx1s.out (fun _ => ?_)
          clear hK K
          refine wpAnyH_ready (rs := [7]) (by kernel_rfl) (by simp) ?_
          refine AllReadyH.cons rfl (fun K hK => ?_) AllReadyH.nil
          refine step_append_run rfl (.tmp 25) (.tmp 27) 31 rfl _ _ rfl rfl _ _ qx2 28 rfl ?_
          simp only [Act.put, List.setIfInBounds_toArray, List.set_cons_zero, List.set_cons_succ]
          refine hK.out _ _ Sx2.out (fun _ => ?_)
          clear hK K
          refine wpAnyH_ready (rs := [11]) (by kernel_rfl) (by simp) ?_
          refine AllReadyH.cons rfl (fun K hK => ?_) AllReadyH.nil
          refine step_append_run rfl (.tmp 28) (.tmp 31) 31 rfl _ _ rfl rfl _ _ qx3 32 rfl ?_
          simp only [Act.put, List.setIfInBounds_toArray, List.set_cons_zero, List.set_cons_succ]
          refine hK.out _ _ Sx3.out (fun _ => ?_)
          clear hK K
          refine wpAnyH_ready (rs := [12]) (by kernel_rfl) (by simp) ?_
          refine AllReadyH.cons rfl (fun K hK => ?_) AllReadyH.nil
          go_simp
          refine hK.out _ _ Sx3.out (fun _ => ?_)
          clear hK K
          refine wpAnyH_done (by kernel_rfl) ?_ _
          go_wp2_with fail
          go_ret
          exact Fx.out
        · skip
          go_simp
          refine hK.out _ _ SES.out (fun _ => ?_)
          clear hK K
          refine wpAnyH_ready (rs := [4]) (by kernel_rfl) (by simp) ?_
          refine AllReadyH.cons rfl (fun K hK => ?_) AllReadyH.nil
          refine step_append_run rfl (.tmp 21) (.tmp 24) 31 rfl _ _ rfl rfl _ _ qy1 25 rfl ?_
          simp only [Act.put, List.setIfInBounds_toArray, List.set_cons_zero, List.set_cons_succ]
          refine hK.out _ _ Sy1.out (fun _ => ?_)
          clear hK K
          refine wpAnyH_ready (rs := [7]) (by kernel_rfl) (by simp) ?_
          refine AllReadyH.cons rfl (fun K hK => ?_) AllReadyH.nil
          refine step_append_run rfl (.tmp 25) (.tmp 27) 31 rfl _ _ rfl rfl _ _ qy2 28 rfl ?_
          simp only [Act.put, List.setIfInBounds_toArray, List.set_cons_zero, List.set_cons_succ]
          refine hK.out _ _ Sy2.out (fun _ => ?_)
          clear hK K
          refine wpAnyH_ready (rs := [11]) (by kernel_rfl) (by simp) ?_
          refine AllReadyH.cons rfl (fun K hK => ?_) AllReadyH.nil
          refine step_append_run rfl (.tmp 28) (.tmp 31) 31 rfl _ _ rfl rfl _ _ qy3 32 rfl ?_
          simp only [Act.put, List.setIfInBounds_toArray, List.set_cons_zero, List.set_cons_succ]
          refine hK.out _ _ Sy3.out (fun _ => ?_)
          clear hK K
          refine wpAnyH_ready (rs := [12]) (by kernel_rfl) (by simp) ?_
          refine AllReadyH.cons rfl (fun K hK => ?_) AllReadyH.nil
          go_simp
          refine hK.out _ _ Sy3.out (fun _ => ?_)
          clear hK K
          refine wpAnyH_done (by kernel_rfl) ?_ _
          go_wp2_with fail
          go_ret
          exact Fy.out
      · skip
        go_simp
        refine hK.out _ _ SS.out (fun _ => ?_)
        clear hK K
        refine wpAnyH_ready (rs := [0]) (by kernel_rfl) (by simp) ?_
        refine AllReadyH.cons rfl (fun K hK => ?_) AllReadyH.nil
        go_simp
        refine hK.out _ _ SSE.out (fun _ => ?_)
        clear hK K
        refine wpAnyH_ready (rs := [4]) (by kernel_rfl) (by simp) ?_
        refine AllReadyH.cons rfl (fun K hK => ?_) AllReadyH.nil
        refine step_append_run rfl (.tmp 21) (.tmp 24) 31 rfl _ _ rfl rfl _ _ qz1 25 rfl ?_
        simp only [Act.put, List.setIfInBounds_toArray, List.set_cons_zero, List.set_cons_succ]
        refine hK.out _ _ Sz1.out (fun _ => ?_)
        clear hK K
        refine wpAnyH_ready (rs := [7]) (by kernel_rfl) (by simp) ?_
        refine AllReadyH.cons rfl (fun K hK => ?_) AllReadyH.nil
        refine step_append_run rfl (.tmp 25) (.tmp 27) 31 rfl _ _ rfl rfl _ _ qz2 28 rfl ?_
        simp only [Act.put, List.setIfInBounds_toArray, List.set_cons_zero, List.set_cons_succ]
        refine hK.out _ _ Sz2.out (fun _ => ?_)
        clear hK K
        refine wpAnyH_ready (rs := [11]) (by kernel_rfl) (by simp) ?_
        refine AllReadyH.cons rfl (fun K hK => ?_) AllReadyH.nil
        refine step_append_run rfl (.tmp 28) (.tmp 31) 31 rfl _ _ rfl rfl _ _ qz3 32 rfl ?_
        simp only [Act.put, List.setIfInBounds_toArray, List.set_cons_zero, List.set_cons_succ]
        refine hK.out _ _ Sz3.out (fun _ => ?_)
        clear hK K
        refine wpAnyH_ready (rs := [12]) (by kernel_rfl) (by simp) ?_
        refine AllReadyH.cons rfl (fun K hK => ?_) AllReadyH.nil
        go_simp
        refine hK.out _ _ Sz3.out (fun _ => ?_)
        clear hK K
        refine wpAnyH_done (by kernel_rfl) ?_ _
        go_wp2_with fail
        go_ret
        exact Fz.out
end Go.Proofs.Ytpgligfolecieaa

namespace Go.Proofs.Ytpgligfolecieaa
open Go.RowKit
set_option maxRecDepth 100000
end Go.Proofs.Ytpgligfolecieaa
