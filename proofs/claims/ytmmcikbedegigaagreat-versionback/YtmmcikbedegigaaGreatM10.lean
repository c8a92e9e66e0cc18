import Derived.Test.YtmmcikbedegigaaGreatM09
import Derived.Test.YtmmcikbedegigaaGreatM03
/-
  Rows of files of one's own; lists of files of one's own; copies of slices.
-/
namespace Go.Proofs.YtmmcikbedegigaaGreat
open Go.RowKit
set_option maxRecDepth 100000
set_option maxHeartbeats 4000000
theorem t37_size : Tryz.t49.size = 6 := by kernel_rfl
theorem t37_bytes : Tryz.t49.bytes = 80 := by kernel_rfl
theorem t37_zero : Tryz.t49.zero = some (.agg #[.int .u64 0, .int .i64 0, .slice none 0 0, .slice none 0 0, .int .i64 0, .int .u64 0]) := by kernel_rfl
theorem t50_size : Tryz.t53.size = 1 := by kernel_rfl
theorem t50_bytes : Tryz.t53.bytes = 24 := by kernel_rfl
theorem t50_zero : Tryz.t53.zero = some (.slice none 0 0) := by kernel_rfl
theorem info50 : Tryz.prog.info? 53 = some Tryz.t53 := by kernel_rfl
def flCells (R : List Tf) : List Value := R.flatMap Tf.cells
theorem Tf.cells_length (x : Tf) : x.cells.length = 6 := rfl
theorem flCells_length (R : List Tf) : (flCells R).length = R.length * 6 := by
  induction R with
  | nil => rfl
  | cons x r ih => simp only [flCells, List.flatMap_cons, List.length_append, List.length_cons, Tf.cells_length] at ih ⊢; omega
theorem flCells_append (R R' : List Tf) : flCells (R ++ R') = flCells R ++ flCells R' := by simp [flCells]
theorem flCells_at : ∀ (R : List Tf) (k : Nat) (x : Tf), R[k]? = some x → ∀ j, j < 6 → (flCells R)[k * 6 + j]? = x.cells[j]?
  | [], k, x, h, _, _ => by simp at h
  | y :: r, 0, x, h, j, hj => by
    obtain rfl : y = x := by simpa using h
    show (y.cells ++ flCells r)[0 * 6 + j]? = _
    rw [List.getElem?_append_left (by rw [Tf.cells_length]; omega), Nat.zero_mul, Nat.zero_add]
  | y :: r, k + 1, x, h, j, hj => by
    show (y.cells ++ flCells r)[(k + 1) * 6 + j]? = _
    rw [List.getElem?_append_right (by rw [Tf.cells_length]; omega), Tf.cells_length, show (k + 1) * 6 + j - 6 = k * 6 + j by omega]
    exact flCells_at r k x (by simpa using h) j hj
theorem flCells_inv (R : List Tf) (i : Nat) (u : Value) (h : (flCells R)[i]? = some u) : ∃ x, R[i / 6]? = some x ∧ x.cells[i % 6]? = some u := by
  have hi : i < R.length * 6 := by rw [← flCells_length]; exact (List.getElem?_eq_some_iff.1 h).1
  have hq : i / 6 < R.length := by omega
  refine ⟨R[i / 6], List.getElem?_eq_getElem hq, ?_⟩
  rw [← flCells_at R (i / 6) _ (List.getElem?_eq_getElem hq) (i % 6) (by omega), show i / 6 * 6 + i % 6 = i by omega, h]
theorem Tf.cells_one (x : Tf) (u : Value) (h : u ∈ x.cells) : u.oneCell' = true := by
  simp only [Tf.cells, Tf.lv, Tf.mv, List.mem_cons, List.not_mem_nil, or_false] at h
  rcases h with rfl | rfl | rfl | rfl | rfl | rfl <;> rfl
theorem flCells_one (R : List Tf) (u : Value) (h : u ∈ flCells R) : u.oneCell' = true := by
  obtain ⟨x, _, hx⟩ := List.mem_flatMap.1 h
  exact x.cells_one u hx
/-- Files in a row of one's own. -/
theorem fils_of_row {w : World} {g c : Nat} {R : List Tf} (h : RowC w g 49 (c * 6) (flCells R)) (hb : ∀ x ∈ R, FB w x) : Fils w (some ⟨g, 0, none⟩) R := fun k x hx => by
  obtain ⟨cs, h1, h2, h3⟩ := h
  refine ⟨⟨g, 0, rfl, fun j u hu => ?_⟩, hb x (List.mem_of_getElem? hx)⟩
  have hj : j < 6 := (List.getElem?_eq_some_iff.1 hu).1
  have hk := (List.getElem?_eq_some_iff.1 hx).1
  rw [Nat.zero_add, cell_of_row w g _ cs 49 (0, 0) h1, h3 _ (by rw [flCells_length]; omega), flCells_at R k x hx j hj, hu]
theorem src_of_fils {w : World} {a : Option Addr} {R : List Tf} {c : Nat} (h : Fils w a R) : Src Tryz.prog Tryz.t49.size 53 (.slice a R.length c) R.length (flCells R) w := by
  cases a with
  | none =>
    obtain rfl : R = [] := by
      cases R with
      | nil => rfl
      | cons x r => obtain ⟨⟨b, off, e, _⟩, _⟩ := h 0 x rfl; cases e
    exact Src.ofNil w Tryz.underlying53 c
  | some ad =>
    refine Src.ofSlice w Tryz.underlying53 ad _ c _ (by rw [flCells_length, t37_size]) (fun j u hu => ?_) (flCells_one R)
    obtain ⟨x, hx, hu2⟩ := flCells_inv R j u hu
    obtain ⟨⟨b, off, ha, hc⟩, _⟩ := h _ x hx
    obtain rfl : ad = ⟨b, off, none⟩ := by simpa using ha
    rw [Go.WideShapes.add_plain, ← hc _ u hu2]
    congr 2
    omega
def lvCells (L : List Lv) : List Value := L.map fun x => .slice x.a x.l.length x.c
theorem src_of_levs {w : World} {a : Option Addr} {L : List Lv} {c : Nat} (h : Levs w a L) : Src Tryz.prog Tryz.t53.size 24 (.slice a L.length c) L.length (lvCells L) w := by
  cases a with
  | none =>
    obtain rfl : L = [] := by
      cases L with
      | nil => rfl
      | cons x r => obtain ⟨⟨b, off, e, _⟩, _⟩ := h 0 x rfl; cases e
    exact Src.ofNil w Tryz.underlying24 c
  | some ad =>
    refine Src.ofSlice w Tryz.underlying24 ad _ c _ (by simp [lvCells, t50_size]) (fun j u hu => ?_) (fun u hu => ?_)
    · have hj : j < L.length := by have := (List.getElem?_eq_some_iff.1 hu).1; simpa [lvCells] using this
      obtain ⟨⟨b, off, ha, hc⟩, _⟩ := h j L[j] (List.getElem?_eq_getElem hj)
      obtain rfl : ad = ⟨b, off, none⟩ := by simpa using ha
      rw [Go.WideShapes.add_plain, hc]
      simpa [lvCells, hj] using hu
    · obtain ⟨x, _, rfl⟩ := List.mem_map.1 hu
      rfl
theorem nil_eql50 (a : Option Addr) (n c : Nat) (w : World) : (binOp .eql 53 (.slice a n c) (.slice none 0 0)).run Tryz.prog w = .ok (.bool a.isNone) w := by
  cases a <;> kernel_rfl
theorem nil_eql22 (a : Option Addr) (n c : Nat) (w : World) : (binOp .eql 24 (.slice a n c) (.slice none 0 0)).run Tryz.prog w = .ok (.bool a.isNone) w := by
  cases a <;> kernel_rfl
/-- A row of files of one's own, or none. -/
def RowOk (w : World) (B : Nat) (a : Option Addr) (c : Nat) (R : List Tf) : Prop := (a = none ∧ R = [] ∧ c = 0) ∨ ∃ g, a = some ⟨g, 0, none⟩ ∧ B ≤ g ∧ R.length ≤ c ∧ RowC w g 49 (c * 6) (flCells R)
theorem cloneFs_any (a : Option Addr) (n c : Nat) (R : List Tf) (w : World) (h : Fils w a R) (hn : n = R.length) (hmx : n ≤ 1000000) :
    Calls Tryz.prog 47 #[.slice a n c] w fun e w' => ∃ a' c', e = .returned (.slice a' n c') ∧ RowOk w' w.heap.size a' c' R ∧ Turns (fun _ => False) w w' := by
  subst hn
  cases a with
  | none =>
    obtain rfl : R = [] := by
      cases R with
      | nil => rfl
      | cons x r => obtain ⟨⟨b, off, e, _⟩, _⟩ := h 0 x rfl; cases e
    have he : (binOp .eql 53 (.slice none 0 c) (.slice none 0 0)).run Tryz.prog w = .ok (.bool true) w := nil_eql50 none 0 c w
    show Calls Tryz.prog 47 #[.slice none 0 c] w _
    go_enter Tryz.func47, Tryz.ntmps47
    go_wp2_with fail
    go_ret
    exact ⟨none, 0, rfl, .inl ⟨rfl, rfl, rfl⟩, Turns.refl _ _⟩
  | some ad =>
    have hb : Turns (fun _ => False) w (w.alloc (.cells #[] 49)) := (Turns.refl _ _).alloc _
    obtain ⟨g, c2, w2, hr, hg, hrow, hb2, hc, _⟩ := append_gen2 (P := Tryz.prog) (w.alloc (.cells #[] 49)) w.heap.size 53 49 Tryz.t49 _ Tryz.underlying53 info37 t37_zero rfl (some ⟨w.heap.size, 0, none⟩) 0 0 [] (by simp) (.slice (some ad) R.length c) R.length (flCells R) (src_of_fils (h.quiet hb)) (by simp)
      (.inr ⟨_, rfl, Nat.le_refl _, Nat.le_refl _, #[], heap_alloc_new w _, by simp, fun k hk => by simp at hk⟩) (by rw [t37_bytes]; omega) (by omega)
    rw [Nat.zero_add] at hr hc
    rw [List.nil_append, t37_size] at hrow
    have HR := hide hr
    have HW := hide hrow
    have HB := hide (show Turns (fun _ => False) w w2 from Turns.of_below (((Below.refl _ w).alloc (Nat.le_refl _) (.cells #[] 49)).trans hb2) _)
    have HC := hide hc
    clear hr hrow hb hb2 h hc
    generalize hN : R.length = N at *
    have HN := hide hN
    clear hN
    have he : (binOp .eql 53 (.slice (some ad) N c) (.slice none 0 0)).run Tryz.prog w = .ok (.bool false) w := nil_eql50 (some ad) N c w
    go_enter Tryz.func47, Tryz.ntmps47
    go_wp2_with (at_builtin; refine wpList_append_run rfl _ _ 53 rfl (.slice (some ⟨w.heap.size, 0, none⟩) 0 0) (.slice (some ad) N c) rfl rfl _ _ (HR.out _) ?_)
    go_ret
    exact ⟨_, c2, rfl, .inr ⟨g, rfl, hg, by rw [HN.out]; exact HC.out, HW.out⟩, HB.out⟩
theorem cloneLs_any (ad : Addr) (n c : Nat) (L : List Lv) (w : World) (h : Levs w (some ad) L) (hn : n = L.length) (hmx : n ≤ 1000000) :
    Calls Tryz.prog 46 #[.slice (some ad) n c] w fun e w' => ∃ G c', e = .returned (.slice (some ⟨G, 0, none⟩) n c') ∧ w.heap.size ≤ G ∧ n ≤ c' ∧ RowC w' G 53 c' (lvCells L) ∧ Turns (fun _ => False) w w' := by
  subst hn
  have hb : Turns (fun _ => False) w (w.alloc (.cells #[] 53)) := (Turns.refl _ _).alloc _
  obtain ⟨g, c2, w2, hr, hg, hrow, hb2, hc, _⟩ := append_gen2 (P := Tryz.prog) (w.alloc (.cells #[] 53)) w.heap.size 24 53 Tryz.t53 _ Tryz.underlying24 info50 t50_zero rfl (some ⟨w.heap.size, 0, none⟩) 0 0 [] (by simp) (.slice (some ad) L.length c) L.length (lvCells L) (src_of_levs (h.quiet hb)) (by simp)
    (.inr ⟨_, rfl, Nat.le_refl _, Nat.le_refl _, #[], heap_alloc_new w _, by simp, fun k hk => by simp at hk⟩) (by rw [t50_bytes]; omega) (by omega)
  rw [Nat.zero_add] at hr hc
  rw [List.nil_append, t50_size, Nat.mul_one] at hrow
  have HR := hide hr
  have HW := hide hrow
  have HB := hide (show Turns (fun _ => False) w w2 from Turns.of_below (((Below.refl _ w).alloc (Nat.le_refl _) (.cells #[] 53)).trans hb2) _)
  have HC := hide hc
  clear hr hrow hb hb2 h hc
  generalize hN : L.length = N at *
  clear hN
  have he : (binOp .eql 24 (.slice (some ad) N c) (.slice none 0 0)).run Tryz.prog w = .ok (.bool false) w := nil_eql22 (some ad) N c w
  go_enter Tryz.func46, Tryz.ntmps46
  go_wp2_with (at_builtin; refine wpList_append_run rfl _ _ 24 rfl (.slice (some ⟨w.heap.size, 0, none⟩) 0 0) (.slice (some ad) N c) rfl rfl _ _ (HR.out _) ?_)
  go_ret
  exact ⟨g, c2, rfl, hg, HC.out, HW.out, HB.out⟩
/-- Lists of one's own: the block G of their places, each row apart from every other, each file's bytes in blocks of their own kind. -/
structure DR (w : World) (B G N : Nat) (L : List Lv) : Prop where
  head : ∃ cs : Array Value, w.heap[G]? = some (.cells cs 53 (0, 0)) ∧ N ≤ cs.size ∧ ∀ (k : Nat) (x : Lv), L[k]? = some x → cs[k]? = some (.slice x.a x.l.length x.c)
  hG : B ≤ G
  rows : ∀ (k : Nat) (x : Lv), L[k]? = some x → RowOk w B x.a x.c x.l
  apart : ∀ (i j : Nat) (x y : Lv), i ≠ j → L[i]? = some x → L[j]? = some y → ∀ g, x.a = some ⟨g, 0, none⟩ → y.a ≠ some ⟨g, 0, none⟩
  files : ∀ x ∈ L, ∀ y ∈ x.l, FT w B y
theorem FT.keep {S : Nat → Prop} {w w' : World} {B : Nat} {y : Tf} (h : FT w B y) (t : Turns S w w') (hS : ∀ k, S k → B ≤ k → ∀ cs z, ¬ w.heap[k]? = some (.cells cs 5 z)) : FT w' B y := by
  have hl : ∀ ad, y.la = some ad → ¬ S ad.block := fun ad e hs => by obtain ⟨h1, cs, z, h2⟩ := h.l ad e; exact hS _ hs h1 cs z h2
  have hm : ∀ ad, y.ma = some ad → ¬ S ad.block := fun ad e hs => by obtain ⟨h1, cs, z, h2⟩ := h.m ad e; exact hS _ hs h1 cs z h2
  refine ⟨⟨h.fb.1.turns t fun a n c e => hl a (Value.slice.inj e).1, h.fb.2.turns t fun a n c e => hm a (Value.slice.inj e).1⟩, fun ad e => ?_, fun ad e => ?_⟩
  · obtain ⟨h1, cs, z, h2⟩ := h.l ad e; exact ⟨h1, cs, z, t.heap h2 (hl ad e)⟩
  · obtain ⟨h1, cs, z, h2⟩ := h.m ad e; exact ⟨h1, cs, z, t.heap h2 (hm ad e)⟩
theorem FT.quiet {w w' : World} {B : Nat} {y : Tf} (h : FT w B y) (t : Turns (fun _ => False) w w') : FT w' B y := h.keep t fun _ x => x.elim
theorem FT.mono {w : World} {B B' : Nat} {y : Tf} (h : FT w B y) (hB : B' ≤ B) : FT w B' y := ⟨h.fb, fun ad e => ⟨Nat.le_trans hB (h.l ad e).1, (h.l ad e).2⟩, fun ad e => ⟨Nat.le_trans hB (h.m ad e).1, (h.m ad e).2⟩⟩
theorem RowOk.keep {S : Nat → Prop} {w w' : World} {B : Nat} {a : Option Addr} {c : Nat} {R : List Tf} (h : RowOk w B a c R) (t : Turns S w w') (hS : ∀ g, a = some ⟨g, 0, none⟩ → ¬ S g) : RowOk w' B a c R := by
  rcases h with h | ⟨g, h1, h2, h3, h4⟩
  · exact .inl h
  · exact .inr ⟨g, h1, h2, h3, h4.turns t (hS g h1)⟩
theorem DR.quiet {w w' : World} {B G N : Nat} {L : List Lv} (h : DR w B G N L) (t : Turns (fun _ => False) w w') : DR w' B G N L :=
  ⟨by obtain ⟨cs, h1, h2⟩ := h.head; exact ⟨cs, t.heap h1 (fun x => x), h2⟩, h.hG, fun k x hx => (h.rows k x hx).keep t fun _ _ x => x, h.apart, fun x hx y hy => (h.files x hx y hy).quiet t⟩
theorem DR.levs {w : World} {B G N : Nat} {L : List Lv} (h : DR w B G N L) : Levs w (some ⟨G, 0, none⟩) L := fun k x hx => by
  obtain ⟨cs, h1, h2, h3⟩ := h.head
  refine ⟨⟨G, 0, rfl, by rw [Nat.zero_add, cell_of_row w G k cs 53 (0, 0) h1, h3 k x hx]⟩, ?_⟩
  have hm := List.mem_of_getElem? hx
  rcases h.rows k x hx with ⟨_, e, _⟩ | ⟨g, e, _, _, hr⟩
  · rw [e]; intro k y hy; simp at hy
  · rw [e]; exact fils_of_row hr fun y hy => (h.files x hm y hy).fb
end Go.Proofs.YtmmcikbedegigaaGreat

/-
  Lists of one's own: what is put into them.
-/
namespace Go.Proofs.YtmmcikbedegigaaGreat
open Go.RowKit
set_option maxRecDepth 100000
set_option maxHeartbeats 4000000
theorem flCells_mid (ys : List Tf) (y : Tf) (r : List Tf) (k : Nat) : (flCells (ys ++ y :: r))[k]? = if ys.length * 6 ≤ k ∧ k < ys.length * 6 + 6 then y.cells[k - ys.length * 6]? else if k < ys.length * 6 then (flCells ys)[k]? else (flCells r)[k - (ys.length * 6 + 6)]? := by
  have hl := flCells_length ys
  have h6 := y.cells_length
  rw [flCells_append, show flCells (y :: r) = y.cells ++ flCells r from rfl]
  by_cases h1 : k < ys.length * 6
  · rw [if_neg (by omega), if_pos h1, List.getElem?_append_left (by omega)]
  · rw [List.getElem?_append_right (by omega), hl]
    by_cases h2 : k < ys.length * 6 + 6
    · rw [if_pos ⟨by omega, h2⟩, List.getElem?_append_left (by omega)]
    · rw [if_neg (by omega), if_neg h1, List.getElem?_append_right (by omega), h6]
      congr 1
/-- One file of a row is laid anew. -/
theorem row_put {w : World} {g c j : Nat} {ys r : List Tf} {x y : Tf} (h : RowC w g 49 (c * 6) (flCells (ys ++ x :: r))) (hj : ys.length = j) : RowC (w.setCells g (j * 6) y.cells) g 49 (c * 6) (flCells (ys ++ y :: r)) := by
  obtain ⟨cs, h1, h2, h3⟩ := h
  obtain ⟨cs', k1, k2, k3⟩ := heap_setCells g 49 y.cells (j * 6) w cs h1
  refine ⟨cs', k1, by omega, fun k hk => ?_⟩
  rw [flCells_length] at hk
  have hk2 : k < cs.size := by
    rcases Nat.lt_or_ge k cs.size with h | h
    · exact h
    · have h4 := h3 k (by rw [flCells_length]; simpa using hk)
      rw [Array.getElem?_eq_none h] at h4
      have := List.getElem?_eq_none_iff.1 h4.symm
      rw [flCells_length] at this
      simp at this hk
      omega
  rw [k3 k hk2, flCells_mid, Tf.cells_length, hj]
  split
  · rfl
  · rename_i hn
    rw [h3 k (by rw [flCells_length]; simpa using hk), flCells_mid, hj, if_neg hn]
theorem turns_setCells (g o : Nat) (vs : List Value) (w : World) : Turns (fun k => k = g) w (w.setCells g o vs) := by
  have hb := below_cells (Nat.zero_le g) vs o (Below.refl 0 w)
  exact ⟨hb.os, hb.tape, hb.output, hb.size, fun k _ hk => heap_setCells_ne g vs o w k hk⟩
theorem cells6 (w : World) (g o : Nat) (y : Tf) : w.setCells g o y.cells = (((((w.setCell ⟨g, o, none⟩ (.int .u64 (y.f.no : Nat))).setCell ⟨g, o + 1, none⟩ (.int .i64 y.f.size)).setCell ⟨g, o + 2, none⟩ (.slice y.la y.f.least.length y.lc)).setCell ⟨g, o + 3, none⟩ (.slice y.ma y.f.most.length y.mc)).setCell ⟨g, o + 4, none⟩ (.int .i64 y.f.ents)).setCell ⟨g, o + 5, none⟩ (.int .u64 (y.f.seq : Nat)) := rfl
/-- A block of files turns, which is no list's. -/
theorem DR.other {w w' : World} {B G N g : Nat} {L : List Lv} (h : DR w B G N L) (t : Turns (fun k => k = g) w w') {cs : Array Value} {z : Nat × Nat} (hg : w.heap[g]? = some (.cells cs 49 z)) (hn : ∀ (k : Nat) (x : Lv), L[k]? = some x → x.a ≠ some ⟨g, 0, none⟩) : DR w' B G N L := by
  refine ⟨?_, h.hG, fun k x hx => (h.rows k x hx).keep t fun g' e e2 => hn k x hx (by rw [e, e2]), h.apart, fun x hx y hy => (h.files x hx y hy).keep t fun k e _ cs' z' e2 => ?_⟩
  · obtain ⟨cs', h1, h2⟩ := h.head
    exact ⟨cs', t.heap h1 (fun e => by subst e; rw [h1] at hg; cases hg), h2⟩
  · subst e
    rw [hg] at e2
    cases e2
/-- A place behind the lists is laid. -/
theorem DR.put {w : World} {B G N k : Nat} {L : List Lv} (h : DR w B G N L) (hk : L.length ≤ k) (hN : k < N) (v : Value) : DR (w.setCell ⟨G, k, none⟩ v) B G N L ∧ (w.setCell ⟨G, k, none⟩ v).cell? ⟨G, k, none⟩ = some v := by
  obtain ⟨cs, h1, h2, h3⟩ := h.head
  have tk := (Tick.refl h1).set k v
  have t := Turns.of_tick tk
  refine ⟨⟨⟨_, tk.1, by simpa using h2, fun j x hx => ?_⟩, h.hG, fun j x hx => (h.rows j x hx).keep t fun g' e e2 => ?_, h.apart, fun x hx y hy => (h.files x hx y hy).keep t fun j e _ cs' z' e2 => ?_⟩, ?_⟩
  · have := (List.getElem?_eq_some_iff.1 hx).1
    rw [Array.getElem?_setIfInBounds_ne (by omega)]
    exact h3 j x hx
  · subst e2
    rcases h.rows j x hx with ⟨e3, _⟩ | ⟨g2, e3, _, _, cs2, h4, _⟩
    · rw [e3] at e; cases e
    · rw [e3] at e; cases e; rw [h1] at h4; cases h4
  · subst e; rw [h1] at e2; cases e2
  · rw [tk.cell k, Array.getElem?_setIfInBounds_self_of_lt (by omega)]
theorem DR.snoc {w : World} {B G N k : Nat} {L : List Lv} (h : DR w B G N L) (hk : L.length = k) (x : Lv) (hc : w.cell? ⟨G, k, none⟩ = some (.slice x.a x.l.length x.c)) (hr : RowOk w B x.a x.c x.l) (ha : ∀ g, x.a = some ⟨g, 0, none⟩ → ∀ (k : Nat) (y : Lv), L[k]? = some y → y.a ≠ some ⟨g, 0, none⟩) (hf : ∀ y ∈ x.l, FT w B y) : DR w B G N (L ++ [x]) := by
  have hat : ∀ (j : Nat) (y : Lv), (L ++ [x])[j]? = some y → (j < k ∧ L[j]? = some y) ∨ (j = k ∧ y = x) := fun j y hy => by
    rcases Nat.lt_or_ge j k with h1 | h1
    · rw [List.getElem?_append_left (by omega)] at hy; exact .inl ⟨h1, hy⟩
    · rw [List.getElem?_append_right (by omega), hk] at hy
      have : j - k = 0 := by
        rcases Nat.eq_zero_or_pos (j - k) with e | e
        · exact e
        · rw [List.getElem?_eq_none (by simp; omega)] at hy; cases hy
      rw [this] at hy
      exact .inr ⟨by omega, by simpa using hy.symm⟩
  obtain ⟨cs, h1, h2, h3⟩ := h.head
  refine ⟨⟨cs, h1, h2, fun j y hy => ?_⟩, h.hG, fun j y hy => ?_, fun i j y z hij hy hz g e => ?_, fun y hy z hz => ?_⟩
  · rcases hat j y hy with ⟨_, hy⟩ | ⟨rfl, rfl⟩
    · exact h3 j y hy
    · rw [cell_of_row w G _ cs 53 (0, 0) h1] at hc; exact hc
  · rcases hat j y hy with ⟨_, hy⟩ | ⟨rfl, rfl⟩
    · exact h.rows j y hy
    · exact hr
  · rcases hat i y hy with ⟨_, hy1⟩ | ⟨h5, rfl⟩
    · rcases hat j z hz with ⟨_, hz1⟩ | ⟨h6, rfl⟩
      · exact h.apart i j y z hij hy1 hz1 g e
      · intro e2; exact ha g e2 i y hy1 e
    · rcases hat j z hz with ⟨_, hz1⟩ | ⟨h6, rfl⟩
      · exact ha g e j z hz1
      · omega
  · rcases List.mem_append.1 hy with hy | hy
    · exact h.files y hy z hz
    · obtain rfl : y = x := by simpa using hy
      exact hf z hz
theorem DR.lt {w : World} {B G N : Nat} {L : List Lv} (h : DR w B G N L) {k : Nat} {x : Lv} (hx : L[k]? = some x) {g : Nat} (e : x.a = some ⟨g, 0, none⟩) : g < w.heap.size := by
  rcases h.rows k x hx with ⟨e3, _⟩ | ⟨g2, e3, _, _, cs2, h4, _⟩
  · rw [e3] at e; cases e
  · rw [e3] at e; cases e; exact lt_of_heap h4
/-- A block of another kind turns. -/
theorem DR.alien {w w' : World} {B G N p : Nat} {L : List Lv} (h : DR w B G N L) (t : Turns (fun k => k = p) w w') {cs : Array Value} {ty : TypeId} {z : Nat × Nat} (hp : w.heap[p]? = some (.cells cs ty z)) (h1 : ty ≠ 53) (h2 : ty ≠ 49) (h3 : ty ≠ 5) : DR w' B G N L := by
  refine ⟨?_, h.hG, fun k x hx => (h.rows k x hx).keep t fun g e e2 => ?_, h.apart, fun x hx y hy => (h.files x hx y hy).keep t fun k e _ cs' z' e2 => ?_⟩
  · obtain ⟨cs', e1, e2⟩ := h.head
    exact ⟨cs', t.heap e1 (fun e => by subst e; rw [e1] at hp; cases hp; exact h1 rfl), e2⟩
  · subst e2
    rcases h.rows k x hx with ⟨e3, _⟩ | ⟨g2, e3, _, _, cs2, h4, _⟩
    · rw [e3] at e; cases e
    · rw [e3] at e; cases e; rw [hp] at h4; cases h4; exact h2 rfl
  · subst e; rw [hp] at e2; cases e2; exact h3 rfl
/-- A row turns that is none of theirs. -/
theorem DR.turned {w w' : World} {B Bx G N c : Nat} {L : List Lv} {a : Option Addr} {R : List Tf} (h : DR w B G N L) (t : Turns (fun j => a = some ⟨j, 0, none⟩) w w') (hr : RowOk w Bx a c R) (hn : ∀ g, a = some ⟨g, 0, none⟩ → ∀ (k : Nat) (x : Lv), L[k]? = some x → x.a ≠ some ⟨g, 0, none⟩) : DR w' B G N L := by
  rcases hr with ⟨rfl, _⟩ | ⟨g, rfl, _, _, cs, h4, _⟩
  · exact h.quiet (t.mono fun _ _ e => by cases e)
  · exact h.other (t.mono fun _ _ e => by cases e; rfl) h4 (hn g rfl)
theorem RowOk.mono {w : World} {B B' : Nat} {a : Option Addr} {c : Nat} {R : List Tf} (h : RowOk w B a c R) (hB : B' ≤ B) : RowOk w B' a c R := by
  rcases h with h | ⟨g, h1, h2, h3⟩
  · exact .inl h
  · exact .inr ⟨g, h1, Nat.le_trans hB h2, h3⟩
theorem RowOk.ne {w : World} {B : Nat} {a : Option Addr} {c : Nat} {R : List Tf} (h : RowOk w B a c R) {p : Nat} {cs : Array Value} {ty : TypeId} {z : Nat × Nat} (hp : w.heap[p]? = some (.cells cs ty z)) (h2 : ty ≠ 49) (g : Nat) (e : a = some ⟨g, 0, none⟩) : ¬ g = p := by
  intro e2
  subst e2
  rcases h with ⟨e3, _⟩ | ⟨g2, e3, _, _, cs2, h4, _⟩
  · rw [e3] at e; cases e
  · rw [e3] at e; cases e; rw [hp] at h4; cases h4; exact h2 rfl
/-- Their files. -/
def flL (L : List Lv) : List (List Fl) := L.map fun x => fls x.l
end Go.Proofs.YtmmcikbedegigaaGreat

/-
  listsOf: lists of one's own with the same files.
-/
namespace Go.Proofs.YtmmcikbedegigaaGreat
open Go.RowKit
set_option maxRecDepth 100000
set_option maxHeartbeats 4000000
theorem sz54 : (Tryz.prog.info? 58).map (·.size) = some 1 := by kernel_rfl
def F26 (u : World) (P G c2 k gb XL gc gx no : Nat) (sz : Int) (la : Option Addr) (L1 lc : Nat) (ma : Option Addr) (L2 mc : Nat) (en : Int) (sq : Nat) : Prop :=
  u.cell? ⟨P, 0, none⟩ = some (.slice (some ⟨G, 0, none⟩) 5 c2) ∧ u.cell? ⟨G, k, none⟩ = some (.slice (some ⟨gb, 0, none⟩) XL gc) ∧ u.cell? ⟨gx, 0, none⟩ = some (.int .u64 (no : Nat)) ∧ u.cell? ⟨gx, 1, none⟩ = some (.int .i64 sz) ∧ u.cell? ⟨gx, 2, none⟩ = some (.slice la L1 lc) ∧ u.cell? ⟨gx, 3, none⟩ = some (.slice ma L2 mc) ∧ u.cell? ⟨gx, 4, none⟩ = some (.int .i64 en) ∧ u.cell? ⟨gx, 5, none⟩ = some (.int .u64 (sq : Nat))
theorem listsOf_any (ad : Addr) (c : Nat) (L : List Lv) (w : World) (h : Levs w (some ad) L) (hn : L.length = 5) (hc : cnt L ≤ 1000000) (hk : ∀ x ∈ L, ∀ y ∈ x.l, y.f.least.length ≤ 1000000 ∧ y.f.most.length ≤ 1000000) :
    Calls Tryz.prog 17 #[.slice (some ad) 5 c] w fun e w' => ∃ G c' L', e = .returned (.agg #[.slice (some ⟨G, 0, none⟩) 5 c']) ∧ 5 ≤ c' ∧ L'.length = 5 ∧ DR w' w.heap.size G 5 L' ∧ flL L' = flL L ∧ Turns (fun _ => False) w w' := by
  have H := hide h
  have HL := hide hn
  have HC := hide hc
  have HK := hide hk
  have TA := hide ((Turns.refl (fun _ => False) w).alloc (.cells #[.slice none 0 0] 58))
  have R0 := hide (heap_alloc_new w (.cells #[.slice none 0 0] 58))
  have CLL := hide (cloneLs_any ad 5 c L _ (h.quiet TA.out) hn.symm (by omega))
  clear h hn hc hk
  go_enter Tryz.func17, Tryz.ntmps17
  go_wp2_with fail
  refine CLL.out.mono ?_
  rintro e w1 ⟨G, c2, rfl, hG, hc2, hrow, t1⟩
  have T1 := hide (TA.out.trans t1)
  have HSZ := hide (show w.heap.size < w1.heap.size ∧ w.heap.size < G by have := t1.size; simp at this hG; omega)
  have RR := hide (t1.heap R0.out (fun x => x))
  have HG0 := hide (show DR w1 w.heap.size G 5 [] from ⟨by obtain ⟨cs, e1, e2, _⟩ := hrow; exact ⟨cs, e1, by omega, fun k x hx => by simp at hx⟩, by have := HSZ.out; omega, fun k x hx => by simp at hx, fun i j x y _ hx => by simp at hx, fun x hx => by simp at hx⟩)
  clear hrow t1 hG CLL
  have T2 := hide ((Turns.refl (fun _ => False) w1).alloc (.cells #[.slice (some ⟨G, 0, none⟩) 5 c2] 58))
  have R2 := hide (heap_alloc_new w1 (.cells #[.slice (some ⟨G, 0, none⟩) 5 c2] 58))
  go_wp2_with fail
  have RR2 := hide (T2.out.heap RR.out (fun x => x))
  have HG2 := hide (HG0.out.quiet T2.out)
  have TW := hide (T1.out.trans T2.out)
  have HP := hide (show w.heap.size < w1.heap.size from HSZ.out.1)
  generalize w1.alloc (.cells #[.slice (some ⟨G, 0, none⟩) 5 c2] 58) = w2 at *
  generalize hPP : w1.heap.size = P at *
  clear hPP HG0 RR T1 T2
  go_loopw [13] (fun i wr => ∃ (k : Nat) (L' : List Lv), i = .int .i64 (k : Nat) ∧ k ≤ 5 ∧ L'.length = k ∧ DR wr w.heap.size G 5 L' ∧ flL L' = flL (L.take k) ∧ wr.heap[P]? = some (.cells #[.slice (some ⟨G, 0, none⟩) 5 c2] 58 (0, 0)) ∧ wr.heap[w.heap.size]? = some (.cells #[.slice none 0 0] 58 (0, 0)) ∧ Turns (fun _ => False) w wr) (fun i _ => 5 - (intOf i).toNat)
  case atStart => exact ⟨0, [], rfl, Nat.zero_le _, rfl, HG2.out, by simp [flL], R2.out, RR2.out, TW.out⟩
  case round =>
    obtain ⟨k, L', rfl, hk, hl, hd, hf, hp, hr, hb⟩ := hrel
    have HB := hide hb
    have HD := hide hd
    have HLL := hide hl
    have HFL := hide hf
    have HPB := hide hp
    have HRB := hide hr
    clear hb hl hd hf hp hr
    by_cases hkn : k < 5
    · obtain ⟨x, hx⟩ : ∃ x, L[k]? = some x := ⟨_, List.getElem?_eq_getElem (by have := HL.out; omega)⟩
      obtain ⟨⟨b, off, ead, hcl⟩, hfb⟩ := (H.out.quiet HB.out) k x hx
      cases ead
      have i1 : (k : Int) < 5 := by omega
      have i0 : (0 : Int) ≤ (k : Int) := by omega
      have HX := hide hx
      have HFI := hide (H.out k x hx).2
      have HKX := hide (HK.out x (List.mem_of_getElem? hx))
      have hxl : x.l.length ≤ 1000000 := by have := cnt_take hx; have := cnt_take_le L (k + 1); have := HC.out; omega
      obtain ⟨xa, xc, xl⟩ := x
      simp only at *
      have CL := hide (fun (u : World) (t : Turns (fun _ => False) wr u) => cloneFs_any xa xl.length xc xl u (hfb.quiet t) rfl hxl)
      clear hfb hx
      generalize hXL : xl.length = XL at *
      have HXL := hide hXL
      have hxi : (XL : Int) ≤ 1000000 := by omega
      clear hXL
      go_upto_region 5 with (fail)
      have tV : Turns (fun _ => False) wr wr.drew := (Turns.refl _ _).drew
      have SK := hide (fun (u : World) (t : Turns (fun _ => False) wr u) => show u.cell? ⟨P, 0, none⟩ = some (.slice (some ⟨G, 0, none⟩) 5 c2) from t.cell (cell_of_row wr P 0 _ 58 (0, 0) HPB.out) (fun x => x))
      refine wp_region_z_drew 6 (S := fun u => u.cell? ⟨P, 0, none⟩ = some (.slice (some ⟨G, 0, none⟩) 5 c2)) (by kernel_rfl) (SK.out _ tV) (fun _ => ?_)
      change wpAnyZ _ _ _ _ _ _ 7 (Array.replicate 7 false) _ _
      refine wpAnyZ_take (i := 0) (oi := { dst := some 18, op := Op.fieldAddr 58 (Operand.tmp 3) 0, type := 0, pos := "lists.go:26", after := #[], guard := none }) (v := .pointer (some ⟨P, 0, none⟩)) rfl (by kernel_rfl) (by kernel_rfl) (by kernel_rfl) (by kernel_rfl) (fun _ _ _ h => h) (Or.inl ⟨by rfl, ?_⟩) (SK.out _ tV) ?_
      · rintro w s0
        go_simp
      simp only [Act.put, List.setIfInBounds_toArray, List.set_cons_zero, List.set_cons_succ]
      refine wpAnyZ_take (i := 1) (oi := { dst := some 19, op := Op.load 24 (Operand.tmp 18), type := 24, pos := "lists.go:26", after := #[{ on := 0, ground := Ground.data }], guard := none }) (v := .slice (some ⟨G, 0, none⟩) 5 c2) rfl (by kernel_rfl) (by kernel_rfl) (by kernel_rfl) (by kernel_rfl) (fun _ _ _ h => h) (Or.inl ⟨by rfl, ?_⟩) (SK.out _ tV) ?_
      · rintro w s0
        go_simp
      simp only [Act.put, List.setIfInBounds_toArray, List.set_cons_zero, List.set_cons_succ]
      refine wpAnyZ_take (i := 2) (oi := { dst := some 20, op := Op.move (Operand.tmp 4), type := 3, pos := "lists.go:26", after := #[], guard := none }) (v := .int .i64 (k : Nat)) rfl (by kernel_rfl) (by kernel_rfl) (by kernel_rfl) (by kernel_rfl) (fun _ _ _ h => h) (Or.inl ⟨by rfl, ?_⟩) (SK.out _ tV) ?_
      · rintro w s0
        go_simp
      simp only [Act.put, List.setIfInBounds_toArray, List.set_cons_zero, List.set_cons_succ]
      refine wpAnyZ_take (i := 3) (oi := { dst := some 21, op := Op.move (Operand.tmp 5), type := 53, pos := "lists.go:26", after := #[], guard := none }) (v := .slice xa XL xc) rfl (by kernel_rfl) (by kernel_rfl) (by kernel_rfl) (by kernel_rfl) (fun _ _ _ h => h) (Or.inl ⟨by rfl, ?_⟩) (SK.out _ tV) ?_
      · rintro w s0
        go_simp
      simp only [Act.put, List.setIfInBounds_toArray, List.set_cons_zero, List.set_cons_succ]
      refine wpAnyZ_ready (rs := [4]) (by kernel_rfl) (by simp) ?_
      refine AllReadyZ.cons rfl (fun K hK => ?_) AllReadyZ.nil
      go_simp
      refine (CL.out _ tV).mono ?_
      rintro oo Vn ⟨ga, gc, rfl, hrow, tq⟩
      have tN := tq
      have tV := tV.trans tN
      have HROW := hide hrow
      have GLE := hide (show w.heap.size ≤ wr.heap.size from HB.out.size)
      clear hrow tq
      clear tN
      go_simp
      refine hK.out _ _ (SK.out _ tV) (fun _ => ?_)
      clear hK K
      refine wpAnyZ_take (i := 5) (oi := { dst := some 23, op := Op.indexAddr 24 (Operand.tmp 19) (Operand.tmp 20), type := 0, pos := "lists.go:26", after := #[{ on := 1, ground := Ground.data }, { on := 2, ground := Ground.data }, { on := 0, ground := Ground.phase }, { on := 1, ground := Ground.phase }, { on := 2, ground := Ground.phase }, { on := 3, ground := Ground.phase }, { on := 4, ground := Ground.phase }], guard := none }) (v := .pointer (some ⟨G, k, none⟩)) rfl (by kernel_rfl) (by kernel_rfl) (by kernel_rfl) (by kernel_rfl) (fun _ _ _ h => h) (Or.inl ⟨by rfl, ?_⟩) (SK.out _ tV) ?_
      · rintro w s0
        go_simp
      simp only [Act.put, List.setIfInBounds_toArray, List.set_cons_zero, List.set_cons_succ]
      obtain ⟨cs1, hg1, hcs1, _⟩ := (HD.out.quiet tV).head
      obtain ⟨dv, d0⟩ : ∃ dv, Vn.cell? ⟨G, k, none⟩ = some dv := ⟨_, by rw [cell_of_row _ G k _ 53 (0, 0) hg1]; exact Array.getElem?_eq_getElem (by omega)⟩
      have z0 := frozen_of_row Vn G k _ 53 hg1
      have TV := hide tV
      have TT := hide (Turns.of_tick ((Tick.refl hg1).set k (.slice ga XL gc)))
      have DP := hide ((HD.out.quiet tV).put (Nat.le_of_eq HLL.out) hkn (.slice ga XL gc))
      have HGC := hide (show ∃ cs, Vn.heap[G]? = some (.cells cs 53 (0, 0)) from ⟨_, hg1⟩)
      clear hg1 hcs1 tV
      refine wpAnyZ_ready (rs := [6]) (by kernel_rfl) (by simp) ?_
      refine AllReadyZ.free rfl (by kernel_rfl) (fun K hK => ?_) AllReadyZ.nil
      go_simp
      refine hK.out _ _ ?_
      clear hK K
      refine wpAnyZ_done (by kernel_rfl) ?_ _
      clear d0 z0
      have D1 := hide DP.out.1
      have D2 := hide DP.out.2
      have TT3 := hide (show Turns (fun j => j = G) wr (Vn.setCell ⟨G, k, none⟩ (.slice ga XL gc)) from (TV.out.mono fun _ _ x => x.elim).trans TT.out)
      have HROW2 := hide (show RowOk (Vn.setCell ⟨G, k, none⟩ (.slice ga XL gc)) wr.heap.size ga gc xl from HROW.out.keep TT.out fun g e e2 => by
        obtain ⟨cs, hcs⟩ := HGC.out
        subst e2
        rcases HROW.out with ⟨e3, _⟩ | ⟨g2, e3, _, _, cs2, h4, _⟩
        · rw [e3] at e; cases e
        · rw [e3] at e; cases e; rw [hcs] at h4; cases h4)
      clear DP TV HROW TT HGC
      generalize Vn.setCell ⟨G, k, none⟩ (.slice ga XL gc) = w3 at *
      have PW := hide (TT3.out.heap HPB.out (fun e => by obtain ⟨cs, h1, _⟩ := HD.out.head; have h2 := HPB.out; rw [e, h1] at h2; cases h2))
      have RW := hide (TT3.out.heap HRB.out (fun e => by obtain ⟨cs, h1, _⟩ := HD.out.head; have h2 := HRB.out; rw [e, h1] at h2; cases h2))
      have NG := hide (show ∀ g, ga = some ⟨g, 0, none⟩ → ¬ g = G from fun g e => by obtain ⟨cs, h1, _⟩ := D1.out.head; exact HROW2.out.ne h1 (by decide) g e)
      have NP := hide (HROW2.out.ne PW.out (by decide))
      have NR := hide (HROW2.out.ne RW.out (by decide))
      have HGW := hide (show w.heap.size ≤ G from HD.out.hG)
      have NA := hide (show ∀ g, ga = some ⟨g, 0, none⟩ → ∀ (k : Nat) (x : Lv), L'[k]? = some x → x.a ≠ some ⟨g, 0, none⟩ from fun g e k x hx e2 => by
        have h1 := HD.out.lt hx e2
        rcases HROW2.out with ⟨e3, _⟩ | ⟨g2, e3, h5, _⟩
        · rw [e3] at e; cases e
        · rw [e3] at e; cases e; omega)
      obtain ⟨wo, hwo⟩ : ∃ wo, wo = wr := ⟨_, rfl⟩
      subst hwo
      go_wp2_with fail
      go_loopw [26] (fun v26 ws => ∃ (q : Nat) (ys : List Tf), v26 = .int .i64 (q : Nat) ∧ q ≤ XL ∧ ys.length = q ∧ fls ys = fls (xl.take q) ∧ RowOk ws wo.heap.size ga gc (ys ++ xl.drop q) ∧ (∀ y ∈ ys, FT ws w.heap.size y) ∧ Turns (fun j => ga = some ⟨j, 0, none⟩) w3 ws) (fun v26 _ => XL - (intOf v26).toNat)
      case atStart => exact ⟨0, [], rfl, Nat.zero_le _, rfl, rfl, HROW2.out, fun y hy => (by cases hy), Turns.refl _ _⟩
      case round =>
        obtain ⟨q, ys, rfl, hq, hyl, hys, hro, hft, htn⟩ := hrel
        have HYL := hide hyl
        have HYS := hide hys
        have HRO := hide hro
        have HFTS := hide hft
        have HTN := hide htn
        have TNR := hide (show Turns (fun _ => False) w wr from HB.out.andThen ((TT3.out.mono (S' := fun j => w.heap.size ≤ j) fun j _ e => by have := HGW.out; omega).trans (htn.mono (S' := fun j => w.heap.size ≤ j) fun j _ e => by
          have := HB.out.size
          rcases HROW2.out with ⟨e3, _⟩ | ⟨g2, e3, h5, _⟩
          · rw [e3] at e; cases e
          · rw [e3] at e; cases e; omega)) fun j hj e => by omega)
        clear hyl hys hro hft htn
        by_cases hqn : q < XL
        · obtain ⟨y, hy⟩ : ∃ y, xl[q]? = some y := ⟨_, List.getElem?_eq_getElem (by have := HXL.out; omega)⟩
          have hdr : xl.drop q = y :: xl.drop (q + 1) := by
            rw [List.drop_eq_getElem_cons (by have := HXL.out; omega)]
            rw [List.getElem?_eq_getElem (by have := HXL.out; omega)] at hy
            cases hy; rfl
          obtain ⟨gb, egb, hgb, hlc, hrw⟩ : ∃ g, ga = some ⟨g, 0, none⟩ ∧ wo.heap.size ≤ g ∧ (ys ++ xl.drop q).length ≤ gc ∧ RowC wr g 49 (gc * 6) (flCells (ys ++ xl.drop q)) := by
            rcases HRO.out with ⟨_, e, _⟩ | h
            · rw [hdr] at e; simp at e
            · exact h
          obtain ⟨b', off', exa, h6, hfb⟩ := fc_of (HFI.out.quiet TNR.out) hy
          subst egb exa
          have j1 : (q : Int) < (XL : Int) := by omega
          have j0 : (0 : Int) ≤ (q : Int) := by omega
          have HY := hide hy
          have HDR := hide hdr
          have HGE := hide hgb
          have HRW := hide hrw
          have HXC := hide (show q * 6 + 6 ≤ gc * 6 by have h1 := hlc; rw [List.length_append, List.length_drop, HYL.out, HXL.out] at h1; omega)
          have hg1 : wr.cell? ⟨G, k, none⟩ = some (.slice (some ⟨gb, 0, none⟩) XL gc) := HTN.out.cell D2.out (fun e => NG.out gb rfl (by injection e with e; injection e))
          have hp1 : wr.cell? ⟨P, 0, none⟩ = some (.slice (some ⟨G, 0, none⟩) 5 c2) := cell_of_row wr P 0 _ 58 (0, 0) (HTN.out.heap PW.out (fun e => NP.out gb rfl (by injection e with e; injection e)))
          have hl1 := (HKX.out y (List.mem_of_getElem? hy)).1
          have hl2 := (HKX.out y (List.mem_of_getElem? hy)).2
          have CC0 := hide (fun (u : World) (t : Turns (fun _ => False) wr u) => cloneF_any y u (hfb.quiet t) hl1 hl2)
          clear hdr hy hlc hrw hgb hfb hl1 hl2
          obtain ⟨la, lc, ma, mc, ⟨no, sz, ls, ms, en, sq⟩⟩ := y
          obtain ⟨c0, c1, c2', c3, c4, c5⟩ := h6
          unfold Tf.agg at CC0
          simp only at *
          generalize hL1 : ls.length = L1 at *
          generalize hL2 : ms.length = L2 at *
          clear hL1 hL2
          have TF := hide ((Turns.refl (fun _ => False) wr).alloc (.cells #[.int .u64 (no : Nat), .int .i64 sz, .slice la L1 lc, .slice ma L2 mc, .int .i64 en, .int .u64 (sq : Nat)] 49))
          have RF := hide (heap_alloc_new wr (.cells #[.int .u64 (no : Nat), .int .i64 sz, .slice la L1 lc, .slice ma L2 mc, .int .i64 en, .int .u64 (sq : Nat)] 49))
          go_upto_region 9 with (fail)
          generalize wr.alloc (.cells #[.int .u64 (no : Nat), .int .i64 sz, .slice la L1 lc, .slice ma L2 mc, .int .i64 en, .int .u64 (sq : Nat)] 49) = W at *
          generalize hgx : wr.heap.size = gx at *
          have tV : Turns (fun _ => False) W W.drew := (Turns.refl _ W).drew
          have CC := hide (fun (u : World) (t : Turns (fun _ => False) W u) => CC0.out u (TF.out.trans t))
          have HGB := hide (show ∃ cs, W.heap[gb]? = some (.cells cs 49 (0, 0)) ∧ gc * 6 ≤ cs.size from by obtain ⟨cs, h1, h2, _⟩ := HRW.out; exact ⟨cs, TF.out.heap h1 (fun x => x), h2⟩)
          have SK := hide (fun (u : World) (tt : Turns (fun _ => False) W u) => show F26 u P G c2 k gb XL gc gx no sz la L1 lc ma L2 mc en sq from ⟨(TF.out.trans tt).cell hp1 (fun x => x), (TF.out.trans tt).cell hg1 (fun x => x), tt.cell (cell_of_row W gx 0 _ 49 (0, 0) RF.out) (fun x => x), tt.cell (cell_of_row W gx 1 _ 49 (0, 0) RF.out) (fun x => x), tt.cell (cell_of_row W gx 2 _ 49 (0, 0) RF.out) (fun x => x), tt.cell (cell_of_row W gx 3 _ 49 (0, 0) RF.out) (fun x => x), tt.cell (cell_of_row W gx 4 _ 49 (0, 0) RF.out) (fun x => x), tt.cell (cell_of_row W gx 5 _ 49 (0, 0) RF.out) (fun x => x)⟩)
          clear c0 c1 c2' c3 c4 c5 hg1 hp1
          refine wp_region_z_drew 9 (S := fun u => F26 u P G c2 k gb XL gc gx no sz la L1 lc ma L2 mc en sq) (by kernel_rfl) (SK.out _ tV) (fun _ => ?_)
          change wpAnyZ _ _ _ _ _ _ 10 (Array.replicate 10 false) _ _
          refine wpAnyZ_take (i := 0) (oi := { dst := some 31, op := Op.fieldAddr 58 (Operand.tmp 3) 0, type := 0, pos := "lists.go:28", after := #[], guard := none }) (v := .pointer (some ⟨P, 0, none⟩)) rfl (by kernel_rfl) (by kernel_rfl) (by kernel_rfl) (by kernel_rfl) (fun _ _ _ h => h) (Or.inl ⟨by rfl, ?_⟩) (SK.out _ tV) ?_
          · rintro w ⟨s0, s1, d0, d1, d2, d3, d4, d5⟩
            go_simp
          simp only [Act.put, List.setIfInBounds_toArray, List.set_cons_zero, List.set_cons_succ]
          refine wpAnyZ_take (i := 1) (oi := { dst := some 32, op := Op.load 24 (Operand.tmp 31), type := 24, pos := "lists.go:28", after := #[{ on := 0, ground := Ground.data }], guard := none }) (v := .slice (some ⟨G, 0, none⟩) 5 c2) rfl (by kernel_rfl) (by kernel_rfl) (by kernel_rfl) (by kernel_rfl) (fun _ _ _ h => h) (Or.inl ⟨by rfl, ?_⟩) (SK.out _ tV) ?_
          · rintro w ⟨s0, s1, d0, d1, d2, d3, d4, d5⟩
            go_simp
          simp only [Act.put, List.setIfInBounds_toArray, List.set_cons_zero, List.set_cons_succ]
          refine wpAnyZ_take (i := 2) (oi := { dst := some 33, op := Op.move (Operand.tmp 4), type := 3, pos := "lists.go:28", after := #[], guard := none }) (v := .int .i64 (k : Nat)) rfl (by kernel_rfl) (by kernel_rfl) (by kernel_rfl) (by kernel_rfl) (fun _ _ _ h => h) (Or.inl ⟨by rfl, ?_⟩) (SK.out _ tV) ?_
          · rintro w ⟨s0, s1, d0, d1, d2, d3, d4, d5⟩
            go_simp
          simp only [Act.put, List.setIfInBounds_toArray, List.set_cons_zero, List.set_cons_succ]
          refine wpAnyZ_take (i := 3) (oi := { dst := some 34, op := Op.indexAddr 24 (Operand.tmp 32) (Operand.tmp 33), type := 0, pos := "lists.go:28", after := #[{ on := 1, ground := Ground.data }, { on := 2, ground := Ground.data }], guard := none }) (v := .pointer (some ⟨G, k, none⟩)) rfl (by kernel_rfl) (by kernel_rfl) (by kernel_rfl) (by kernel_rfl) (fun _ _ _ h => h) (Or.inl ⟨by rfl, ?_⟩) (SK.out _ tV) ?_
          · rintro w ⟨s0, s1, d0, d1, d2, d3, d4, d5⟩
            go_simp
          simp only [Act.put, List.setIfInBounds_toArray, List.set_cons_zero, List.set_cons_succ]
          refine wpAnyZ_take (i := 4) (oi := { dst := some 35, op := Op.load 53 (Operand.tmp 34), type := 53, pos := "lists.go:28", after := #[{ on := 3, ground := Ground.data }], guard := none }) (v := .slice (some ⟨gb, 0, none⟩) XL gc) rfl (by kernel_rfl) (by kernel_rfl) (by kernel_rfl) (by kernel_rfl) (fun _ _ _ h => h) (Or.inl ⟨by rfl, ?_⟩) (SK.out _ tV) ?_
          · rintro w ⟨s0, s1, d0, d1, d2, d3, d4, d5⟩
            go_simp
          simp only [Act.put, List.setIfInBounds_toArray, List.set_cons_zero, List.set_cons_succ]
          refine wpAnyZ_take (i := 5) (oi := { dst := some 36, op := Op.move (Operand.tmp 6), type := 3, pos := "lists.go:28", after := #[], guard := none }) (v := .int .i64 (q : Nat)) rfl (by kernel_rfl) (by kernel_rfl) (by kernel_rfl) (by kernel_rfl) (fun _ _ _ h => h) (Or.inl ⟨by rfl, ?_⟩) (SK.out _ tV) ?_
          · rintro w ⟨s0, s1, d0, d1, d2, d3, d4, d5⟩
            go_simp
          simp only [Act.put, List.setIfInBounds_toArray, List.set_cons_zero, List.set_cons_succ]
          refine wpAnyZ_take (i := 6) (oi := { dst := some 37, op := Op.load 49 (Operand.tmp 7), type := 49, pos := "lists.go:28", after := #[], guard := none }) (v := .agg #[.int .u64 (no : Nat), .int .i64 sz, .slice la L1 lc, .slice ma L2 mc, .int .i64 en, .int .u64 (sq : Nat)]) rfl (by kernel_rfl) (by kernel_rfl) (by kernel_rfl) (by kernel_rfl) (fun _ _ _ h => h) (Or.inl ⟨by rfl, ?_⟩) (SK.out _ tV) ?_
          · rintro w ⟨s0, s1, d0, d1, d2, d3, d4, d5⟩
            go_simp
          simp only [Act.put, List.setIfInBounds_toArray, List.set_cons_zero, List.set_cons_succ]
          refine wpAnyZ_ready (rs := [7]) (by kernel_rfl) (by simp) ?_
          refine AllReadyZ.cons rfl (fun K hK => ?_) AllReadyZ.nil
          go_simp
          refine (CC.out _ tV).mono ?_
          rintro oo Vn ⟨y2, rfl, hyf, hft, tq⟩
          have tN := tq
          have tV := tV.trans tN
          have HYF := hide hyf
          have HFT := hide hft
          clear hyf hft tq
          clear tN
          go_simp
          refine hK.out _ _ (SK.out _ tV) (fun _ => ?_)
          clear hK K
          refine wpAnyZ_take (i := 8) (oi := { dst := some 39, op := Op.indexAddr 53 (Operand.tmp 35) (Operand.tmp 36), type := 0, pos := "lists.go:28", after := #[{ on := 4, ground := Ground.data }, { on := 5, ground := Ground.data }, { on := 0, ground := Ground.phase }, { on := 1, ground := Ground.phase }, { on := 2, ground := Ground.phase }, { on := 3, ground := Ground.phase }, { on := 4, ground := Ground.phase }, { on := 5, ground := Ground.phase }, { on := 6, ground := Ground.phase }, { on := 7, ground := Ground.phase }], guard := none }) (v := .pointer (some ⟨gb, q * 6, none⟩)) rfl (by kernel_rfl) (by kernel_rfl) (by kernel_rfl) (by kernel_rfl) (fun _ _ _ h => h) (Or.inl ⟨by rfl, ?_⟩) (SK.out _ tV) ?_
          · rintro w ⟨s0, s1, d0, d1, d2, d3, d4, d5⟩
            go_simp
          simp only [Act.put, List.setIfInBounds_toArray, List.set_cons_zero, List.set_cons_succ]
          obtain ⟨y2la, y2lc, y2ma, y2mc, ⟨no2, sz2, ls2, ms2, en2, sq2⟩⟩ := y2
          have hg6 := tV.heap HGB.out.choose_spec.1 (fun x => x)
          have hszB := HGB.out.choose_spec.2
          have e0 := frozen_of_row Vn gb (q * 6 + 0) _ 49 hg6
          have e1 := frozen_of_row Vn gb (q * 6 + 1) _ 49 hg6
          have e2 := frozen_of_row Vn gb (q * 6 + 2) _ 49 hg6
          have e3 := frozen_of_row Vn gb (q * 6 + 3) _ 49 hg6
          have e4 := frozen_of_row Vn gb (q * 6 + 4) _ 49 hg6
          have e5 := frozen_of_row Vn gb (q * 6 + 5) _ 49 hg6
          have hcg : ∀ m, m < 6 → ∃ d, Vn.cell? ⟨gb, q * 6 + m, none⟩ = some d := fun m hm => ⟨_, by rw [cell_of_row Vn gb (q * 6 + m) _ 49 (0, 0) hg6]; exact Array.getElem?_eq_getElem (by have := HXC.out; omega)⟩
          obtain ⟨q0, f0⟩ := hcg 0 (by omega)
          obtain ⟨q1, f1⟩ := hcg 1 (by omega)
          obtain ⟨q2, f2⟩ := hcg 2 (by omega)
          obtain ⟨q3, f3⟩ := hcg 3 (by omega)
          obtain ⟨q4, f4⟩ := hcg 4 (by omega)
          obtain ⟨q5, f5⟩ := hcg 5 (by omega)
          rw [Nat.add_zero] at e0 f0
          clear hcg hg6 hszB
          have TV := hide tV
          clear tV
          refine wpAnyZ_ready (rs := [9]) (by kernel_rfl) (by simp) ?_
          refine AllReadyZ.free rfl (by kernel_rfl) (fun K hK => ?_) AllReadyZ.nil
          go_simp
          refine hK.out _ _ ?_
          clear hK K
          refine wpAnyZ_done (by kernel_rfl) ?_ _
          have tS := turns_setCells gb (q * 6) (Tf.cells ⟨y2la, y2lc, y2ma, y2mc, ⟨no2, sz2, ls2, ms2, en2, sq2⟩⟩) Vn
          have REL := hide (show ∃ ys', ys'.length = q + 1 ∧ fls ys' = fls (xl.take (q + 1)) ∧ RowOk (Vn.setCells gb (q * 6) (Tf.cells ⟨y2la, y2lc, y2ma, y2mc, ⟨no2, sz2, ls2, ms2, en2, sq2⟩⟩)) wo.heap.size (some ⟨gb, 0, none⟩) gc (ys' ++ xl.drop (q + 1)) ∧ (∀ y ∈ ys', FT (Vn.setCells gb (q * 6) (Tf.cells ⟨y2la, y2lc, y2ma, y2mc, ⟨no2, sz2, ls2, ms2, en2, sq2⟩⟩)) w.heap.size y) ∧ Turns (fun j => some (⟨gb, 0, none⟩ : Addr) = some ⟨j, 0, none⟩) w3 (Vn.setCells gb (q * 6) (Tf.cells ⟨y2la, y2lc, y2ma, y2mc, ⟨no2, sz2, ls2, ms2, en2, sq2⟩⟩)) from by
            have tq := TF.out.trans TV.out
            have hk37 : ∀ j, j = gb → w.heap.size ≤ j → ∀ cs z, ¬ Vn.heap[j]? = some (.cells cs 5 z) := fun j e _ cs z e2 => by
              obtain ⟨cs', h1, _⟩ := HGB.out
              have h2 := TV.out.heap h1 (fun x => x)
              rw [e] at e2
              exact absurd (h2.symm.trans e2) (by intro h; cases h)
            refine ⟨ys ++ [⟨y2la, y2lc, y2ma, y2mc, ⟨no2, sz2, ls2, ms2, en2, sq2⟩⟩], by simp [HYL.out], ?_, .inr ⟨gb, rfl, HGE.out, ?_, ?_⟩, fun z hz => ?_, ?_⟩
            · have := HYF.out
              simp only at this
              rw [List.take_add_one, HY.out]
              simp only [fls, List.map_append, Option.toList_some, List.map_cons, List.map_nil] at *
              rw [this, ← HYS.out]
            · have h1 := HXC.out
              have h2 := HXL.out
              have h3 := HYL.out
              have h4 := HRO.out
              rcases h4 with ⟨e, _⟩ | ⟨_, _, _, h5, _⟩
              · cases e
              · rw [HDR.out] at h5; simp at h5 ⊢; omega
            · have h1 := HRW.out.turns tq (fun x => x)
              rw [HDR.out] at h1
              have h2 := row_put (y := ⟨y2la, y2lc, y2ma, y2mc, ⟨no2, sz2, ls2, ms2, en2, sq2⟩⟩) h1 HYL.out
              rw [List.append_assoc]
              exact h2
            · rcases List.mem_append.1 hz with hz | hz
              · exact ((HFTS.out z hz).quiet tq).keep tS hk37
              · obtain rfl := List.mem_singleton.1 hz
                exact (HFT.out.mono (by have h1 := TNR.out.size; have h2 := TF.out.size; show w.heap.size ≤ W.drew.heap.size; show w.heap.size ≤ W.heap.size; omega)).keep tS hk37
            · exact (HTN.out.trans (tq.mono fun _ _ x => x.elim)).trans (tS.mono fun j _ e => by subst e; rfl))
          simp only [cells6] at REL
          clear tS
          clear e0 e1 e2 e3 e4 e5 f0 f1 f2 f3 f4 f5
          go_wp2_with fail
          obtain ⟨ys', r1, r2, r3, r4, r5⟩ := REL.out
          go_roundw
          case rel => exact ⟨q + 1, ys', by go_num, by omega, r1, r2, r3, r4, r5⟩
          case measure => simp [intOf]; omega
        · obtain rfl : q = XL := by omega
          have hdr : xl.drop q = [] := List.drop_eq_nil_of_le (by have := HXL.out; omega)
          have htk : xl.take q = xl := List.take_of_length_le (by have := HXL.out; omega)
          have REL := hide (show ∃ L2 : List Lv, L2.length = k + 1 ∧ DR wr w.heap.size G 5 L2 ∧ flL L2 = flL (L.take (k + 1)) ∧ wr.heap[P]? = some (.cells #[.slice (some ⟨G, 0, none⟩) 5 c2] 58 (0, 0)) ∧ wr.heap[w.heap.size]? = some (.cells #[.slice none 0 0] 58 (0, 0)) from by
            have hro := HRO.out
            rw [hdr, List.append_nil] at hro
            refine ⟨L' ++ [⟨ga, gc, ys⟩], by simp [HLL.out], (D1.out.turned HTN.out HROW2.out NA.out).snoc HLL.out ⟨ga, gc, ys⟩ ?_ (hro.mono HB.out.size) NA.out HFTS.out, ?_, HTN.out.heap PW.out (fun e => NP.out _ e rfl), HTN.out.heap RW.out (fun e => NR.out _ e rfl)⟩
            · show wr.cell? _ = some (.slice ga ys.length gc)
              rw [HYL.out]
              exact HTN.out.cell D2.out (fun e => NG.out _ e rfl)
            · have h1 := HFL.out
              have h2 := HYS.out
              rw [htk] at h2
              unfold flL at *
              rw [List.map_append, h1, List.take_add_one, HX.out, List.map_append]
              simp [h2])
          clear hdr htk
          go_wp2_with fail
          obtain ⟨L2, r1, r2, r3, r4, r5⟩ := REL.out
          go_roundw
          case rel => exact ⟨k + 1, L2, by go_num, by omega, r1, r2, r3, r4, r5, TNR.out⟩
          case measure => simp [intOf]; omega
    · obtain rfl : k = 5 := by omega
      have ht : L.take 5 = L := List.take_of_length_le (by have := HL.out; omega)
      have hp := cell_of_row wr P 0 _ 58 (0, 0) HPB.out
      have hr := cell_of_row wr w.heap.size 0 _ 58 (0, 0) HRB.out
      have hz := frozen_of_row wr w.heap.size 0 _ 58 HRB.out
      rw [ht] at HFL
      go_wp2_with fail
      have tk := (Tick.refl HRB.out).set 0 (.slice (some ⟨G, 0, none⟩) 5 c2)
      refine bodyPost_ret (v := .agg #[.slice (some ⟨G, 0, none⟩) 5 c2]) ?_ rfl ?_
      · exact results_cell_row Tryz.results17 _ _ _ _ _ _ _ rfl tk.1 Tryz.underlying58 rfl sz54
      · have u := Turns.of_tick tk
        exact ⟨G, c2, L', rfl, hc2, HLL.out, HD.out.alien u HRB.out (by decide) (by decide) (by decide), HFL.out, HB.out.andThen u fun j hj e => by omega⟩
end Go.Proofs.YtmmcikbedegigaaGreat
