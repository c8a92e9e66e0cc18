/-
  Rows of files of one's own; lists of files of one's own; copies of slices.
-/
import Derived.Test.YtkmcdjbadngfgaaVk
import Derived.Test.YtkmcdjbadngfgaaTz
namespace Go.Proofs.Ytkmcdjbadngfgaa
open Go.RowKit
set_option maxRecDepth 100000
set_option maxHeartbeats 4000000
theorem t37_size : Try.t29.size = 6 := by kernel_rfl
theorem t37_bytes : Try.t29.bytes = 80 := by kernel_rfl
theorem t37_zero : Try.t29.zero = some (.agg #[.int .u64 0, .int .i64 0, .slice none 0 0, .slice none 0 0, .int .i64 0, .int .u64 0]) := by kernel_rfl
theorem t50_size : Try.t31.size = 1 := by kernel_rfl
theorem t50_bytes : Try.t31.bytes = 24 := by kernel_rfl
theorem t50_zero : Try.t31.zero = some (.slice none 0 0) := by kernel_rfl
theorem info50 : Try.prog.info? 31 = some Try.t31 := by kernel_rfl
def flCells (R : List Tf) : List Value := R.flatMap Tf.cells
theorem Tf.cells_length (x : Tf) : x.cells.length = 6 := rfl
theorem flCells_length (R : List Tf) : (flCells R).length = R.length * 6 := by
  induction R with
  | nil => rfl
  | cons x r ih => simp only [flCells, List.flatMap_cons, List.length_append, List.length_cons, Tf.cells_length] at ih ⊢; omega
theorem flCells_append (R R' : List Tf) : flCells (R ++ R') = flCells R ++ flCells R' := by simp [flCells]
theorem flCells_at : ∀ (R : List Tf) (k : Nat) (x : Tf), R[k]? = some x → ∀ j, j < 6 → (flCells R)[k * 6 + j]? = x.cells[j]?
  | [], k, x, h, _, _ => by simp at h
  | y :: r, 0, x, h, j, hj => by
    obtain rfl : y = x := by simpa using h
    show (y.cells ++ flCells r)[0 * 6 + j]? = _
    rw [List.getElem?_append_left (by rw [Tf.cells_length]; omega), Nat.zero_mul, Nat.zero_add]
  | y :: r, k + 1, x, h, j, hj => by
    show (y.cells ++ flCells r)[(k + 1) * 6 + j]? = _
    rw [List.getElem?_append_right (by rw [Tf.cells_length]; omega), Tf.cells_length, show (k + 1) * 6 + j - 6 = k * 6 + j by omega]
    exact flCells_at r k x (by simpa using h) j hj
theorem flCells_inv (R : List Tf) (i : Nat) (u : Value) (h : (flCells R)[i]? = some u) : ∃ x, R[i / 6]? = some x ∧ x.cells[i % 6]? = some u := by
  have hi : i < R.length * 6 := by rw [← flCells_length]; exact (List.getElem?_eq_some_iff.1 h).1
  have hq : i / 6 < R.length := by omega
  refine ⟨R[i / 6], List.getElem?_eq_getElem hq, ?_⟩
  rw [← flCells_at R (i / 6) _ (List.getElem?_eq_getElem hq) (i % 6) (by omega), show i / 6 * 6 + i % 6 = i by omega, h]
theorem Tf.cells_one (x : Tf) (u : Value) (h : u ∈ x.cells) : u.oneCell' = true := by
  simp only [Tf.cells, Tf.lv, Tf.mv, List.mem_cons, List.not_mem_nil, or_false] at h
  rcases h with rfl | rfl | rfl | rfl | rfl | rfl <;> rfl
theorem flCells_one (R : List Tf) (u : Value) (h : u ∈ flCells R) : u.oneCell' = true := by
  obtain ⟨x, _, hx⟩ := List.mem_flatMap.1 h
  exact x.cells_one u hx
/-- Files in a row of one's own. -/
theorem fils_of_row {w : World} {g c : Nat} {R : List Tf} (h : RowC w g 29 (c * 6) (flCells R)) (hb : ∀ x ∈ R, FB w x) : Fils w (some ⟨g, 0, none⟩) R := fun k x hx => by
  obtain ⟨cs, h1, h2, h3⟩ := h
  refine ⟨⟨g, 0, rfl, fun j u hu => ?_⟩, hb x (List.mem_of_getElem? hx)⟩
  have hj : j < 6 := (List.getElem?_eq_some_iff.1 hu).1
  have hk := (List.getElem?_eq_some_iff.1 hx).1
  rw [Nat.zero_add, cell_of_row w g _ cs 29 (0, 0) h1, h3 _ (by rw [flCells_length]; omega), flCells_at R k x hx j hj, hu]
theorem src_of_fils {w : World} {a : Option Addr} {R : List Tf} {c : Nat} (h : Fils w a R) : Src Try.prog Try.t29.size 31 (.slice a R.length c) R.length (flCells R) w := by
  cases a with
  | none =>
    obtain rfl : R = [] := by
      cases R with
      | nil => rfl
      | cons x r => obtain ⟨⟨b, off, e, _⟩, _⟩ := h 0 x rfl; cases e
    exact Src.ofNil w Try.underlying31 c
  | some ad =>
    refine Src.ofSlice w Try.underlying31 ad _ c _ (by rw [flCells_length, t37_size]) (fun j u hu => ?_) (flCells_one R)
    obtain ⟨x, hx, hu2⟩ := flCells_inv R j u hu
    obtain ⟨⟨b, off, ha, hc⟩, _⟩ := h _ x hx
    obtain rfl : ad = ⟨b, off, none⟩ := by simpa using ha
    rw [Go.WideShapes.add_plain, ← hc _ u hu2]
    congr 2
    omega
def lvCells (L : List Lv) : List Value := L.map fun x => .slice x.a x.l.length x.c
theorem src_of_levs {w : World} {a : Option Addr} {L : List Lv} {c : Nat} (h : Levs w a L) : Src Try.prog Try.t31.size 22 (.slice a L.length c) L.length (lvCells L) w := by
  cases a with
  | none =>
    obtain rfl : L = [] := by
      cases L with
      | nil => rfl
      | cons x r => obtain ⟨⟨b, off, e, _⟩, _⟩ := h 0 x rfl; cases e
    exact Src.ofNil w Try.underlying22 c
  | some ad =>
    refine Src.ofSlice w Try.underlying22 ad _ c _ (by simp [lvCells, t50_size]) (fun j u hu => ?_) (fun u hu => ?_)
    · have hj : j < L.length := by have := (List.getElem?_eq_some_iff.1 hu).1; simpa [lvCells] using this
      obtain ⟨⟨b, off, ha, hc⟩, _⟩ := h j L[j] (List.getElem?_eq_getElem hj)
      obtain rfl : ad = ⟨b, off, none⟩ := by simpa using ha
      rw [Go.WideShapes.add_plain, hc]
      simpa [lvCells, hj] using hu
    · obtain ⟨x, _, rfl⟩ := List.mem_map.1 hu
      rfl
theorem nil_eql50 (a : Option Addr) (n c : Nat) (w : World) : (binOp .eql 31 (.slice a n c) (.slice none 0 0)).run Try.prog w = .ok (.bool a.isNone) w := by
  cases a <;> kernel_rfl
theorem nil_eql22 (a : Option Addr) (n c : Nat) (w : World) : (binOp .eql 22 (.slice a n c) (.slice none 0 0)).run Try.prog w = .ok (.bool a.isNone) w := by
  cases a <;> kernel_rfl
/-- A row of files of one's own, or none. -/
def RowOk (w : World) (B : Nat) (a : Option Addr) (c : Nat) (R : List Tf) : Prop := (a = none ∧ R = [] ∧ c = 0) ∨ ∃ g, a = some ⟨g, 0, none⟩ ∧ B ≤ g ∧ R.length ≤ c ∧ RowC w g 29 (c * 6) (flCells R)
/-- Lists of one's own: the block G of their places, each row apart from every other, each file's bytes in blocks of their own kind. -/
structure DR (w : World) (B G N : Nat) (L : List Lv) : Prop where
  head : ∃ cs : Array Value, w.heap[G]? = some (.cells cs 31 (0, 0)) ∧ N ≤ cs.size ∧ ∀ (k : Nat) (x : Lv), L[k]? = some x → cs[k]? = some (.slice x.a x.l.length x.c)
  hG : B ≤ G
  rows : ∀ (k : Nat) (x : Lv), L[k]? = some x → RowOk w B x.a x.c x.l
  apart : ∀ (i j : Nat) (x y : Lv), i ≠ j → L[i]? = some x → L[j]? = some y → ∀ g, x.a = some ⟨g, 0, none⟩ → y.a ≠ some ⟨g, 0, none⟩
  files : ∀ x ∈ L, ∀ y ∈ x.l, FT w B y
theorem FT.keep {S : Nat → Prop} {w w' : World} {B : Nat} {y : Tf} (h : FT w B y) (t : Turns S w w') (hS : ∀ k, S k → B ≤ k → ∀ cs z, ¬ w.heap[k]? = some (.cells cs 5 z)) : FT w' B y := by
  have hl : ∀ ad, y.la = some ad → ¬ S ad.block := fun ad e hs => by obtain ⟨h1, cs, z, h2⟩ := h.l ad e; exact hS _ hs h1 cs z h2
  have hm : ∀ ad, y.ma = some ad → ¬ S ad.block := fun ad e hs => by obtain ⟨h1, cs, z, h2⟩ := h.m ad e; exact hS _ hs h1 cs z h2
  refine ⟨⟨h.fb.1.turns t fun a n c e => hl a (Value.slice.inj e).1, h.fb.2.turns t fun a n c e => hm a (Value.slice.inj e).1⟩, fun ad e => ?_, fun ad e => ?_⟩
  · obtain ⟨h1, cs, z, h2⟩ := h.l ad e; exact ⟨h1, cs, z, t.heap h2 (hl ad e)⟩
  · obtain ⟨h1, cs, z, h2⟩ := h.m ad e; exact ⟨h1, cs, z, t.heap h2 (hm ad e)⟩
theorem FT.quiet {w w' : World} {B : Nat} {y : Tf} (h : FT w B y) (t : Turns (fun _ => False) w w') : FT w' B y := h.keep t fun _ x => x.elim
theorem FT.mono {w : World} {B B' : Nat} {y : Tf} (h : FT w B y) (hB : B' ≤ B) : FT w B' y := ⟨h.fb, fun ad e => ⟨Nat.le_trans hB (h.l ad e).1, (h.l ad e).2⟩, fun ad e => ⟨Nat.le_trans hB (h.m ad e).1, (h.m ad e).2⟩⟩
theorem RowOk.keep {S : Nat → Prop} {w w' : World} {B : Nat} {a : Option Addr} {c : Nat} {R : List Tf} (h : RowOk w B a c R) (t : Turns S w w') (hS : ∀ g, a = some ⟨g, 0, none⟩ → ¬ S g) : RowOk w' B a c R := by
  rcases h with h | ⟨g, h1, h2, h3, h4⟩
  · exact .inl h
  · exact .inr ⟨g, h1, h2, h3, h4.turns t (hS g h1)⟩
theorem DR.quiet {w w' : World} {B G N : Nat} {L : List Lv} (h : DR w B G N L) (t : Turns (fun _ => False) w w') : DR w' B G N L :=
  ⟨by obtain ⟨cs, h1, h2⟩ := h.head; exact ⟨cs, t.heap h1 (fun x => x), h2⟩, h.hG, fun k x hx => (h.rows k x hx).keep t fun _ _ x => x, h.apart, fun x hx y hy => (h.files x hx y hy).quiet t⟩
theorem DR.levs {w : World} {B G N : Nat} {L : List Lv} (h : DR w B G N L) : Levs w (some ⟨G, 0, none⟩) L := fun k x hx => by
  obtain ⟨cs, h1, h2, h3⟩ := h.head
  refine ⟨⟨G, 0, rfl, by rw [Nat.zero_add, cell_of_row w G k cs 31 (0, 0) h1, h3 k x hx]⟩, ?_⟩
  have hm := List.mem_of_getElem? hx
  rcases h.rows k x hx with ⟨_, e, _⟩ | ⟨g, e, _, _, hr⟩
  · rw [e]; intro k y hy; simp at hy
  · rw [e]; exact fils_of_row hr fun y hy => (h.files x hm y hy).fb
end Go.Proofs.Ytkmcdjbadngfgaa
