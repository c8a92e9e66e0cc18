import Derived.Test.YtmmcikbedegigaaM08
import Derived.Test.YtmmcikbedegigaaM02
/-
  Rows of files of one's own; lists of files of one's own; copies of slices.
-/
namespace Go.Proofs.Ytmmcikbedegigaa
open Go.RowKit
set_option maxRecDepth 100000
set_option maxHeartbeats 4000000
theorem t37_size : Try.t37.size = 6 := by kernel_rfl
theorem t37_bytes : Try.t37.bytes = 80 := by kernel_rfl
theorem t37_zero : Try.t37.zero = some (.agg #[.int .u64 0, .int .i64 0, .slice none 0 0, .slice none 0 0, .int .i64 0, .int .u64 0]) := by kernel_rfl
theorem t50_size : Try.t50.size = 1 := by kernel_rfl
theorem t50_bytes : Try.t50.bytes = 24 := by kernel_rfl
theorem t50_zero : Try.t50.zero = some (.slice none 0 0) := by kernel_rfl
theorem info50 : Try.prog.info? 50 = some Try.t50 := by kernel_rfl
def flCells (R : List Tf) : List Value := R.flatMap Tf.cells
theorem Tf.cells_length (x : Tf) : x.cells.length = 6 := rfl
theorem flCells_length (R : List Tf) : (flCells R).length = R.length * 6 := by
  induction R with
  | nil => rfl
  | cons x r ih => simp only [flCells, List.flatMap_cons, List.length_append, List.length_cons, Tf.cells_length] at ih ⊢; omega
theorem flCells_append (R R' : List Tf) : flCells (R ++ R') = flCells R ++ flCells R' := by simp [flCells]
theorem flCells_at : ∀ (R : List Tf) (k : Nat) (x : Tf), R[k]? = some x → ∀ j, j < 6 → (flCells R)[k * 6 + j]? = x.cells[j]?
  | [], k, x, h, _, _ => by simp at h
  | y :: r, 0, x, h, j, hj => by
    obtain rfl : y = x := by simpa using h
    show (y.cells ++ flCells r)[0 * 6 + j]? = _
    rw [List.getElem?_append_left (by rw [Tf.cells_length]; omega), Nat.zero_mul, Nat.zero_add]
  | y :: r, k + 1, x, h, j, hj => by
    show (y.cells ++ flCells r)[(k + 1) * 6 + j]? = _
    rw [List.getElem?_append_right (by rw [Tf.cells_length]; omega), Tf.cells_length, show (k + 1) * 6 + j - 6 = k * 6 + j by omega]
    exact flCells_at r k x (by simpa using h) j hj
theorem flCells_inv (R : List Tf) (i : Nat) (u : Value) (h : (flCells R)[i]? = some u) : ∃ x, R[i / 6]? = some x ∧ x.cells[i % 6]? = some u := by
  have hi : i < R.length * 6 := by rw [← flCells_length]; exact (List.getElem?_eq_some_iff.1 h).1
  have hq : i / 6 < R.length := by omega
  refine ⟨R[i / 6], List.getElem?_eq_getElem hq, ?_⟩
  rw [← flCells_at R (i / 6) _ (List.getElem?_eq_getElem hq) (i % 6) (by omega), show i / 6 * 6 + i % 6 = i by omega, h]
theorem Tf.cells_one (x : Tf) (u : Value) (h : u ∈ x.cells) : u.oneCell' = true := by
  simp only [Tf.cells, Tf.lv, Tf.mv, List.mem_cons, List.not_mem_nil, or_false] at h
  rcases h with rfl | rfl | rfl | rfl | rfl | rfl <;> rfl
theorem flCells_one (R : List Tf) (u : Value) (h : u ∈ flCells R) : u.oneCell' = true := by
  obtain ⟨x, _, hx⟩ := List.mem_flatMap.1 h
  exact x.cells_one u hx
/-- Files in a row of one's own. -/
theorem fils_of_row {w : World} {g c : Nat} {R : List Tf} (h : RowC w g 37 (c * 6) (flCells R)) (hb : ∀ x ∈ R, FB w x) : Fils w (some ⟨g, 0, none⟩) R := fun k x hx => by
  obtain ⟨cs, h1, h2, h3⟩ := h
  refine ⟨⟨g, 0, rfl, fun j u hu => ?_⟩, hb x (List.mem_of_getElem? hx)⟩
  have hj : j < 6 := (List.getElem?_eq_some_iff.1 hu).1
  have hk := (List.getElem?_eq_some_iff.1 hx).1
  rw [Nat.zero_add, cell_of_row w g _ cs 37 (0, 0) h1, h3 _ (by rw [flCells_length]; omega), flCells_at R k x hx j hj, hu]
theorem src_of_fils {w : World} {a : Option Addr} {R : List Tf} {c : Nat} (h : Fils w a R) : Src Try.prog Try.t37.size 50 (.slice a R.length c) R.length (flCells R) w := by
  cases a with
  | none =>
    obtain rfl : R = [] := by
      cases R with
      | nil => rfl
      | cons x r => obtain ⟨⟨b, off, e, _⟩, _⟩ := h 0 x rfl; cases e
    exact Src.ofNil w Try.underlying50 c
  | some ad =>
    refine Src.ofSlice w Try.underlying50 ad _ c _ (by rw [flCells_length, t37_size]) (fun j u hu => ?_) (flCells_one R)
    obtain ⟨x, hx, hu2⟩ := flCells_inv R j u hu
    obtain ⟨⟨b, off, ha, hc⟩, _⟩ := h _ x hx
    obtain rfl : ad = ⟨b, off, none⟩ := by simpa using ha
    rw [Go.WideShapes.add_plain, ← hc _ u hu2]
    congr 2
    omega
def lvCells (L : List Lv) : List Value := L.map fun x => .slice x.a x.l.length x.c
theorem src_of_levs {w : World} {a : Option Addr} {L : List Lv} {c : Nat} (h : Levs w a L) : Src Try.prog Try.t50.size 22 (.slice a L.length c) L.length (lvCells L) w := by
  cases a with
  | none =>
    obtain rfl : L = [] := by
      cases L with
      | nil => rfl
      | cons x r => obtain ⟨⟨b, off, e, _⟩, _⟩ := h 0 x rfl; cases e
    exact Src.ofNil w Try.underlying22 c
  | some ad =>
    refine Src.ofSlice w Try.underlying22 ad _ c _ (by simp [lvCells, t50_size]) (fun j u hu => ?_) (fun u hu => ?_)
    · have hj : j < L.length := by have := (List.getElem?_eq_some_iff.1 hu).1; simpa [lvCells] using this
      obtain ⟨⟨b, off, ha, hc⟩, _⟩ := h j L[j] (List.getElem?_eq_getElem hj)
      obtain rfl : ad = ⟨b, off, none⟩ := by simpa using ha
      rw [Go.WideShapes.add_plain, hc]
      simpa [lvCells, hj] using hu
    · obtain ⟨x, _, rfl⟩ := List.mem_map.1 hu
      rfl
theorem nil_eql50 (a : Option Addr) (n c : Nat) (w : World) : (binOp .eql 50 (.slice a n c) (.slice none 0 0)).run Try.prog w = .ok (.bool a.isNone) w := by
  cases a <;> kernel_rfl
theorem nil_eql22 (a : Option Addr) (n c : Nat) (w : World) : (binOp .eql 22 (.slice a n c) (.slice none 0 0)).run Try.prog w = .ok (.bool a.isNone) w := by
  cases a <;> kernel_rfl
/-- A row of files of one's own, or none. -/
def RowOk (w : World) (B : Nat) (a : Option Addr) (c : Nat) (R : List Tf) : Prop := (a = none ∧ R = [] ∧ c = 0) ∨ ∃ g, a = some ⟨g, 0, none⟩ ∧ B ≤ g ∧ R.length ≤ c ∧ RowC w g 37 (c * 6) (flCells R)
theorem cloneFs_any (a : Option Addr) (n c : Nat) (R : List Tf) (w : World) (h : Fils w a R) (hn : n = R.length) (hmx : n ≤ 1000000) :
    Calls Try.prog 50 #[.slice a n c] w fun e w' => ∃ a' c', e = .returned (.slice a' n c') ∧ RowOk w' w.heap.size a' c' R ∧ Turns (fun _ => False) w w' := by
  subst hn
  cases a with
  | none =>
    obtain rfl : R = [] := by
      cases R with
      | nil => rfl
      | cons x r => obtain ⟨⟨b, off, e, _⟩, _⟩ := h 0 x rfl; cases e
    have he : (binOp .eql 50 (.slice none 0 c) (.slice none 0 0)).run Try.prog w = .ok (.bool true) w := nil_eql50 none 0 c w
    show Calls Try.prog 50 #[.slice none 0 c] w _
    go_enter Try.func50, Try.ntmps50
    go_wp2_with fail
    go_ret
    exact ⟨none, 0, rfl, .inl ⟨rfl, rfl, rfl⟩, Turns.refl _ _⟩
  | some ad =>
    have hb : Turns (fun _ => False) w (w.alloc (.cells #[] 37)) := (Turns.refl _ _).alloc _
    obtain ⟨g, c2, w2, hr, hg, hrow, hb2, hc, _⟩ := append_gen2 (P := Try.prog) (w.alloc (.cells #[] 37)) w.heap.size 50 37 Try.t37 _ Try.underlying50 info37 t37_zero rfl (some ⟨w.heap.size, 0, none⟩) 0 0 [] (by simp) (.slice (some ad) R.length c) R.length (flCells R) (src_of_fils (h.quiet hb)) (by simp)
      (.inr ⟨_, rfl, Nat.le_refl _, Nat.le_refl _, #[], heap_alloc_new w _, by simp, fun k hk => by simp at hk⟩) (by rw [t37_bytes]; omega) (by omega)
    rw [Nat.zero_add] at hr hc
    rw [List.nil_append, t37_size] at hrow
    have HR := hide hr
    have HW := hide hrow
    have HB := hide (show Turns (fun _ => False) w w2 from Turns.of_below (((Below.refl _ w).alloc (Nat.le_refl _) (.cells #[] 37)).trans hb2) _)
    have HC := hide hc
    clear hr hrow hb hb2 h hc
    generalize hN : R.length = N at *
    have HN := hide hN
    clear hN
    have he : (binOp .eql 50 (.slice (some ad) N c) (.slice none 0 0)).run Try.prog w = .ok (.bool false) w := nil_eql50 (some ad) N c w
    go_enter Try.func50, Try.ntmps50
    go_wp2_with (at_builtin; refine wpList_append_run rfl _ _ 50 rfl (.slice (some ⟨w.heap.size, 0, none⟩) 0 0) (.slice (some ad) N c) rfl rfl _ _ (HR.out _) ?_)
    go_ret
    exact ⟨_, c2, rfl, .inr ⟨g, rfl, hg, by rw [HN.out]; exact HC.out, HW.out⟩, HB.out⟩
theorem cloneLs_any (ad : Addr) (n c : Nat) (L : List Lv) (w : World) (h : Levs w (some ad) L) (hn : n = L.length) (hmx : n ≤ 1000000) :
    Calls Try.prog 49 #[.slice (some ad) n c] w fun e w' => ∃ G c', e = .returned (.slice (some ⟨G, 0, none⟩) n c') ∧ w.heap.size ≤ G ∧ n ≤ c' ∧ RowC w' G 50 c' (lvCells L) ∧ Turns (fun _ => False) w w' := by
  subst hn
  have hb : Turns (fun _ => False) w (w.alloc (.cells #[] 50)) := (Turns.refl _ _).alloc _
  obtain ⟨g, c2, w2, hr, hg, hrow, hb2, hc, _⟩ := append_gen2 (P := Try.prog) (w.alloc (.cells #[] 50)) w.heap.size 22 50 Try.t50 _ Try.underlying22 info50 t50_zero rfl (some ⟨w.heap.size, 0, none⟩) 0 0 [] (by simp) (.slice (some ad) L.length c) L.length (lvCells L) (src_of_levs (h.quiet hb)) (by simp)
    (.inr ⟨_, rfl, Nat.le_refl _, Nat.le_refl _, #[], heap_alloc_new w _, by simp, fun k hk => by simp at hk⟩) (by rw [t50_bytes]; omega) (by omega)
  rw [Nat.zero_add] at hr hc
  rw [List.nil_append, t50_size, Nat.mul_one] at hrow
  have HR := hide hr
  have HW := hide hrow
  have HB := hide (show Turns (fun _ => False) w w2 from Turns.of_below (((Below.refl _ w).alloc (Nat.le_refl _) (.cells #[] 50)).trans hb2) _)
  have HC := hide hc
  clear hr hrow hb hb2 h hc
  generalize hN : L.length = N at *
  clear hN
  have he : (binOp .eql 22 (.slice (some ad) N c) (.slice none 0 0)).run Try.prog w = .ok (.bool false) w := nil_eql22 (some ad) N c w
  go_enter Try.func49, Try.ntmps49
  go_wp2_with (at_builtin; refine wpList_append_run rfl _ _ 22 rfl (.slice (some ⟨w.heap.size, 0, none⟩) 0 0) (.slice (some ad) N c) rfl rfl _ _ (HR.out _) ?_)
  go_ret
  exact ⟨g, c2, rfl, hg, HC.out, HW.out, HB.out⟩
/-- Lists of one's own: the block G of their places, each row apart from every other, each file's bytes in blocks of their own kind. -/
structure DR (w : World) (B G N : Nat) (L : List Lv) : Prop where
  head : ∃ cs : Array Value, w.heap[G]? = some (.cells cs 50 (0, 0)) ∧ N ≤ cs.size ∧ ∀ (k : Nat) (x : Lv), L[k]? = some x → cs[k]? = some (.slice x.a x.l.length x.c)
  hG : B ≤ G
  rows : ∀ (k : Nat) (x : Lv), L[k]? = some x → RowOk w B x.a x.c x.l
  apart : ∀ (i j : Nat) (x y : Lv), i ≠ j → L[i]? = some x → L[j]? = some y → ∀ g, x.a = some ⟨g, 0, none⟩ → y.a ≠ some ⟨g, 0, none⟩
  files : ∀ x ∈ L, ∀ y ∈ x.l, FT w B y
theorem FT.keep {S : Nat → Prop} {w w' : World} {B : Nat} {y : Tf} (h : FT w B y) (t : Turns S w w') (hS : ∀ k, S k → B ≤ k → ∀ cs z, ¬ w.heap[k]? = some (.cells cs 5 z)) : FT w' B y := by
  have hl : ∀ ad, y.la = some ad → ¬ S ad.block := fun ad e hs => by obtain ⟨h1, cs, z, h2⟩ := h.l ad e; exact hS _ hs h1 cs z h2
  have hm : ∀ ad, y.ma = some ad → ¬ S ad.block := fun ad e hs => by obtain ⟨h1, cs, z, h2⟩ := h.m ad e; exact hS _ hs h1 cs z h2
  refine ⟨⟨h.fb.1.turns t fun a n c e => hl a (Value.slice.inj e).1, h.fb.2.turns t fun a n c e => hm a (Value.slice.inj e).1⟩, fun ad e => ?_, fun ad e => ?_⟩
  · obtain ⟨h1, cs, z, h2⟩ := h.l ad e; exact ⟨h1, cs, z, t.heap h2 (hl ad e)⟩
  · obtain ⟨h1, cs, z, h2⟩ := h.m ad e; exact ⟨h1, cs, z, t.heap h2 (hm ad e)⟩
theorem FT.quiet {w w' : World} {B : Nat} {y : Tf} (h : FT w B y) (t : Turns (fun _ => False) w w') : FT w' B y := h.keep t fun _ x => x.elim
theorem FT.mono {w : World} {B B' : Nat} {y : Tf} (h : FT w B y) (hB : B' ≤ B) : FT w B' y := ⟨h.fb, fun ad e => ⟨Nat.le_trans hB (h.l ad e).1, (h.l ad e).2⟩, fun ad e => ⟨Nat.le_trans hB (h.m ad e).1, (h.m ad e).2⟩⟩
theorem RowOk.keep {S : Nat → Prop} {w w' : World} {B : Nat} {a : Option Addr} {c : Nat} {R : List Tf} (h : RowOk w B a c R) (t : Turns S w w') (hS : ∀ g, a = some ⟨g, 0, none⟩ → ¬ S g) : RowOk w' B a c R := by
  rcases h with h | ⟨g, h1, h2, h3, h4⟩
  · exact .inl h
  · exact .inr ⟨g, h1, h2, h3, h4.turns t (hS g h1)⟩
theorem DR.quiet {w w' : World} {B G N : Nat} {L : List Lv} (h : DR w B G N L) (t : Turns (fun _ => False) w w') : DR w' B G N L :=
  ⟨by obtain ⟨cs, h1, h2⟩ := h.head; exact ⟨cs, t.heap h1 (fun x => x), h2⟩, h.hG, fun k x hx => (h.rows k x hx).keep t fun _ _ x => x, h.apart, fun x hx y hy => (h.files x hx y hy).quiet t⟩
theorem DR.levs {w : World} {B G N : Nat} {L : List Lv} (h : DR w B G N L) : Levs w (some ⟨G, 0, none⟩) L := fun k x hx => by
  obtain ⟨cs, h1, h2, h3⟩ := h.head
  refine ⟨⟨G, 0, rfl, by rw [Nat.zero_add, cell_of_row w G k cs 50 (0, 0) h1, h3 k x hx]⟩, ?_⟩
  have hm := List.mem_of_getElem? hx
  rcases h.rows k x hx with ⟨_, e, _⟩ | ⟨g, e, _, _, hr⟩
  · rw [e]; intro k y hy; simp at hy
  · rw [e]; exact fils_of_row hr fun y hy => (h.files x hm y hy).fb
end Go.Proofs.Ytmmcikbedegigaa

/-
  Lists of one's own: what is put into them.
-/
namespace Go.Proofs.Ytmmcikbedegigaa
open Go.RowKit
set_option maxRecDepth 100000
set_option maxHeartbeats 4000000
theorem flCells_mid (ys : List Tf) (y : Tf) (r : List Tf) (k : Nat) : (flCells (ys ++ y :: r))[k]? = if ys.length * 6 ≤ k ∧ k < ys.length * 6 + 6 then y.cells[k - ys.length * 6]? else if k < ys.length * 6 then (flCells ys)[k]? else (flCells r)[k - (ys.length * 6 + 6)]? := by
  have hl := flCells_length ys
  have h6 := y.cells_length
  rw [flCells_append, show flCells (y :: r) = y.cells ++ flCells r from rfl]
  by_cases h1 : k < ys.length * 6
  · rw [if_neg (by omega), if_pos h1, List.getElem?_append_left (by omega)]
  · rw [List.getElem?_append_right (by omega), hl]
    by_cases h2 : k < ys.length * 6 + 6
    · rw [if_pos ⟨by omega, h2⟩, List.getElem?_append_left (by omega)]
    · rw [if_neg (by omega), if_neg h1, List.getElem?_append_right (by omega), h6]
      congr 1
/-- One file of a row is laid anew. -/
theorem row_put {w : World} {g c j : Nat} {ys r : List Tf} {x y : Tf} (h : RowC w g 37 (c * 6) (flCells (ys ++ x :: r))) (hj : ys.length = j) : RowC (w.setCells g (j * 6) y.cells) g 37 (c * 6) (flCells (ys ++ y :: r)) := by
  obtain ⟨cs, h1, h2, h3⟩ := h
  obtain ⟨cs', k1, k2, k3⟩ := heap_setCells g 37 y.cells (j * 6) w cs h1
  refine ⟨cs', k1, by omega, fun k hk => ?_⟩
  rw [flCells_length] at hk
  have hk2 : k < cs.size := by
    rcases Nat.lt_or_ge k cs.size with h | h
    · exact h
    · have h4 := h3 k (by rw [flCells_length]; simpa using hk)
      rw [Array.getElem?_eq_none h] at h4
      have := List.getElem?_eq_none_iff.1 h4.symm
      rw [flCells_length] at this
      simp at this hk
      omega
  rw [k3 k hk2, flCells_mid, Tf.cells_length, hj]
  split
  · rfl
  · rename_i hn
    rw [h3 k (by rw [flCells_length]; simpa using hk), flCells_mid, hj, if_neg hn]
theorem turns_setCells (g o : Nat) (vs : List Value) (w : World) : Turns (fun k => k = g) w (w.setCells g o vs) := by
  have hb := below_cells (Nat.zero_le g) vs o (Below.refl 0 w)
  exact ⟨hb.os, hb.tape, hb.output, hb.size, fun k _ hk => heap_setCells_ne g vs o w k hk⟩
theorem cells6 (w : World) (g o : Nat) (y : Tf) : w.setCells g o y.cells = (((((w.setCell ⟨g, o, none⟩ (.int .u64 (y.f.no : Nat))).setCell ⟨g, o + 1, none⟩ (.int .i64 y.f.size)).setCell ⟨g, o + 2, none⟩ (.slice y.la y.f.least.length y.lc)).setCell ⟨g, o + 3, none⟩ (.slice y.ma y.f.most.length y.mc)).setCell ⟨g, o + 4, none⟩ (.int .i64 y.f.ents)).setCell ⟨g, o + 5, none⟩ (.int .u64 (y.f.seq : Nat)) := rfl
/-- A block of files turns, which is no list's. -/
theorem DR.other {w w' : World} {B G N g : Nat} {L : List Lv} (h : DR w B G N L) (t : Turns (fun k => k = g) w w') {cs : Array Value} {z : Nat × Nat} (hg : w.heap[g]? = some (.cells cs 37 z)) (hn : ∀ (k : Nat) (x : Lv), L[k]? = some x → x.a ≠ some ⟨g, 0, none⟩) : DR w' B G N L := by
  refine ⟨?_, h.hG, fun k x hx => (h.rows k x hx).keep t fun g' e e2 => hn k x hx (by rw [e, e2]), h.apart, fun x hx y hy => (h.files x hx y hy).keep t fun k e _ cs' z' e2 => ?_⟩
  · obtain ⟨cs', h1, h2⟩ := h.head
    exact ⟨cs', t.heap h1 (fun e => by subst e; rw [h1] at hg; cases hg), h2⟩
  · subst e
    rw [hg] at e2
    cases e2
/-- A place behind the lists is laid. -/
theorem DR.put {w : World} {B G N k : Nat} {L : List Lv} (h : DR w B G N L) (hk : L.length ≤ k) (hN : k < N) (v : Value) : DR (w.setCell ⟨G, k, none⟩ v) B G N L ∧ (w.setCell ⟨G, k, none⟩ v).cell? ⟨G, k, none⟩ = some v := by
  obtain ⟨cs, h1, h2, h3⟩ := h.head
  have tk := (Tick.refl h1).set k v
  have t := Turns.of_tick tk
  refine ⟨⟨⟨_, tk.1, by simpa using h2, fun j x hx => ?_⟩, h.hG, fun j x hx => (h.rows j x hx).keep t fun g' e e2 => ?_, h.apart, fun x hx y hy => (h.files x hx y hy).keep t fun j e _ cs' z' e2 => ?_⟩, ?_⟩
  · have := (List.getElem?_eq_some_iff.1 hx).1
    rw [Array.getElem?_setIfInBounds_ne (by omega)]
    exact h3 j x hx
  · subst e2
    rcases h.rows j x hx with ⟨e3, _⟩ | ⟨g2, e3, _, _, cs2, h4, _⟩
    · rw [e3] at e; cases e
    · rw [e3] at e; cases e; rw [h1] at h4; cases h4
  · subst e; rw [h1] at e2; cases e2
  · rw [tk.cell k, Array.getElem?_setIfInBounds_self_of_lt (by omega)]
theorem DR.snoc {w : World} {B G N k : Nat} {L : List Lv} (h : DR w B G N L) (hk : L.length = k) (x : Lv) (hc : w.cell? ⟨G, k, none⟩ = some (.slice x.a x.l.length x.c)) (hr : RowOk w B x.a x.c x.l) (ha : ∀ g, x.a = some ⟨g, 0, none⟩ → ∀ (k : Nat) (y : Lv), L[k]? = some y → y.a ≠ some ⟨g, 0, none⟩) (hf : ∀ y ∈ x.l, FT w B y) : DR w B G N (L ++ [x]) := by
  have hat : ∀ (j : Nat) (y : Lv), (L ++ [x])[j]? = some y → (j < k ∧ L[j]? = some y) ∨ (j = k ∧ y = x) := fun j y hy => by
    rcases Nat.lt_or_ge j k with h1 | h1
    · rw [List.getElem?_append_left (by omega)] at hy; exact .inl ⟨h1, hy⟩
    · rw [List.getElem?_append_right (by omega), hk] at hy
      have : j - k = 0 := by
        rcases Nat.eq_zero_or_pos (j - k) with e | e
        · exact e
        · rw [List.getElem?_eq_none (by simp; omega)] at hy; cases hy
      rw [this] at hy
      exact .inr ⟨by omega, by simpa using hy.symm⟩
  obtain ⟨cs, h1, h2, h3⟩ := h.head
  refine ⟨⟨cs, h1, h2, fun j y hy => ?_⟩, h.hG, fun j y hy => ?_, fun i j y z hij hy hz g e => ?_, fun y hy z hz => ?_⟩
  · rcases hat j y hy with ⟨_, hy⟩ | ⟨rfl, rfl⟩
    · exact h3 j y hy
    · rw [cell_of_row w G _ cs 50 (0, 0) h1] at hc; exact hc
  · rcases hat j y hy with ⟨_, hy⟩ | ⟨rfl, rfl⟩
    · exact h.rows j y hy
    · exact hr
  · rcases hat i y hy with ⟨_, hy1⟩ | ⟨h5, rfl⟩
    · rcases hat j z hz with ⟨_, hz1⟩ | ⟨h6, rfl⟩
      · exact h.apart i j y z hij hy1 hz1 g e
      · intro e2; exact ha g e2 i y hy1 e
    · rcases hat j z hz with ⟨_, hz1⟩ | ⟨h6, rfl⟩
      · exact ha g e j z hz1
      · omega
  · rcases List.mem_append.1 hy with hy | hy
    · exact h.files y hy z hz
    · obtain rfl : y = x := by simpa using hy
      exact hf z hz
theorem DR.lt {w : World} {B G N : Nat} {L : List Lv} (h : DR w B G N L) {k : Nat} {x : Lv} (hx : L[k]? = some x) {g : Nat} (e : x.a = some ⟨g, 0, none⟩) : g < w.heap.size := by
  rcases h.rows k x hx with ⟨e3, _⟩ | ⟨g2, e3, _, _, cs2, h4, _⟩
  · rw [e3] at e; cases e
  · rw [e3] at e; cases e; exact lt_of_heap h4
/-- A block of another kind turns. -/
theorem DR.alien {w w' : World} {B G N p : Nat} {L : List Lv} (h : DR w B G N L) (t : Turns (fun k => k = p) w w') {cs : Array Value} {ty : TypeId} {z : Nat × Nat} (hp : w.heap[p]? = some (.cells cs ty z)) (h1 : ty ≠ 50) (h2 : ty ≠ 37) (h3 : ty ≠ 5) : DR w' B G N L := by
  refine ⟨?_, h.hG, fun k x hx => (h.rows k x hx).keep t fun g e e2 => ?_, h.apart, fun x hx y hy => (h.files x hx y hy).keep t fun k e _ cs' z' e2 => ?_⟩
  · obtain ⟨cs', e1, e2⟩ := h.head
    exact ⟨cs', t.heap e1 (fun e => by subst e; rw [e1] at hp; cases hp; exact h1 rfl), e2⟩
  · subst e2
    rcases h.rows k x hx with ⟨e3, _⟩ | ⟨g2, e3, _, _, cs2, h4, _⟩
    · rw [e3] at e; cases e
    · rw [e3] at e; cases e; rw [hp] at h4; cases h4; exact h2 rfl
  · subst e; rw [hp] at e2; cases e2; exact h3 rfl
/-- A row turns that is none of theirs. -/
theorem DR.turned {w w' : World} {B Bx G N c : Nat} {L : List Lv} {a : Option Addr} {R : List Tf} (h : DR w B G N L) (t : Turns (fun j => a = some ⟨j, 0, none⟩) w w') (hr : RowOk w Bx a c R) (hn : ∀ g, a = some ⟨g, 0, none⟩ → ∀ (k : Nat) (x : Lv), L[k]? = some x → x.a ≠ some ⟨g, 0, none⟩) : DR w' B G N L := by
  rcases hr with ⟨rfl, _⟩ | ⟨g, rfl, _, _, cs, h4, _⟩
  · exact h.quiet (t.mono fun _ _ e => by cases e)
  · exact h.other (t.mono fun _ _ e => by cases e; rfl) h4 (hn g rfl)
theorem RowOk.mono {w : World} {B B' : Nat} {a : Option Addr} {c : Nat} {R : List Tf} (h : RowOk w B a c R) (hB : B' ≤ B) : RowOk w B' a c R := by
  rcases h with h | ⟨g, h1, h2, h3⟩
  · exact .inl h
  · exact .inr ⟨g, h1, Nat.le_trans hB h2, h3⟩
theorem RowOk.ne {w : World} {B : Nat} {a : Option Addr} {c : Nat} {R : List Tf} (h : RowOk w B a c R) {p : Nat} {cs : Array Value} {ty : TypeId} {z : Nat × Nat} (hp : w.heap[p]? = some (.cells cs ty z)) (h2 : ty ≠ 37) (g : Nat) (e : a = some ⟨g, 0, none⟩) : ¬ g = p := by
  intro e2
  subst e2
  rcases h with ⟨e3, _⟩ | ⟨g2, e3, _, _, cs2, h4, _⟩
  · rw [e3] at e; cases e
  · rw [e3] at e; cases e; rw [hp] at h4; cases h4; exact h2 rfl
/-- Their files. -/
def flL (L : List Lv) : List (List Fl) := L.map fun x => fls x.l
end Go.Proofs.Ytmmcikbedegigaa
