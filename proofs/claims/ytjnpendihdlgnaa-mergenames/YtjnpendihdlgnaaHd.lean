/-
  The heads of rows in memory; Len, Less, Swap.
-/
import Derived.Test.YtjnpendihdlgnaaRx
import Derived.Test.YtjnpendihdlgnaaHp
namespace Go.Proofs.Ytjnpendihdlgnaa
open Go.RowKit
set_option maxRecDepth 100000
set_option maxHeartbeats 4000000
/-- Where a merge stands in a row: the entries that are left, where they lie, and the row's number. -/
structure Hd where
  b : Nat
  off : Nat
  c : Nat
  R : List Tow
  no : Nat
instance : Inhabited Hd := ⟨⟨0, 0, 0, [], 0⟩⟩
def Hd.sv (h : Hd) : Value := .slice (some ⟨h.b, h.off, none⟩) h.R.length h.c
def Hd.top (h : Hd) : En := (h.R[0]?.map (·.e.en)).getD ([], 0)
/-- A head: entries that lie there. -/
structure HdOk (w : World) (h : Hd) : Prop where
  ne : h.R ≠ []
  ents : Ents w (some ⟨h.b, h.off, none⟩) h.R
  cap : h.R.length ≤ h.c
  size : h.R.length ≤ 1000000
  no : h.no ≤ 1000000
theorem HdOk.quiet {w w' : World} {h : Hd} (k : HdOk w h) (t : Turns (fun _ => False) w w') : HdOk w' h := ⟨k.ne, k.ents.quiet t, k.cap, k.size, k.no⟩
def ltH (x y : Hd) : Prop := cmpE x.top y.top < 0 ∨ cmpE x.top y.top = 0 ∧ x.no < y.no
instance (x y : Hd) : Decidable (ltH x y) := by unfold ltH; infer_instance
theorem ltH_irr (x : Hd) : ¬ ltH x x := by
  have := (cmpE_zero x.top x.top).2 ⟨rfl, rfl⟩
  unfold ltH
  omega
theorem ltH_asym (x y : Hd) (h : ltH x y) : ¬ ltH y x := by
  have := cmpE_swap x.top y.top
  unfold ltH at *
  omega
theorem cmpE_sub {x y z : En} (h1 : cmpE x y ≤ 0) (h2 : cmpE y z ≤ 0) : cmpE x z ≤ 0 ∧ (cmpE x z = 0 → cmpE x y = 0 ∧ cmpE y z = 0) := by
  refine ⟨cmpE_trans x y z h1 h2, fun e => ?_⟩
  have s1 := cmpE_swap x z
  have h3 := cmpE_trans y z x h2 (by omega)
  have s2 := cmpE_swap x y
  have h4 := cmpE_trans z x y (by omega) h1
  have s3 := cmpE_swap y z
  omega
theorem ltH_tr (x y z : Hd) (h1 : ¬ ltH y x) (h2 : ¬ ltH z y) : ¬ ltH z x := by
  have s1 := cmpE_swap x.top y.top
  have s2 := cmpE_swap y.top z.top
  have s3 := cmpE_swap x.top z.top
  unfold ltH at *
  have h3 := @cmpE_sub x.top y.top z.top (by omega) (by omega)
  omega
def hdCells (L : List Hd) : List Value := L.flatMap fun h => [h.sv, .int .i64 (h.no : Nat)]
theorem hdCells_length (L : List Hd) : (hdCells L).length = L.length * 2 := by
  induction L with
  | nil => rfl
  | cons x r ih => simp only [hdCells, List.flatMap_cons, List.length_append, List.length_cons, List.length_nil] at ih ⊢; omega
theorem hdCells_get : ∀ (L : List Hd) (k j : Nat), j < 2 → (hdCells L)[k * 2 + j]? = (L[k]?).map fun h => if j = 0 then h.sv else .int .i64 (h.no : Nat)
  | [], k, j, _ => by simp [hdCells]
  | y :: r, 0, j, hj => by
    have : j = 0 ∨ j = 1 := by omega
    rcases this with rfl | rfl <;> rfl
  | y :: r, k + 1, j, hj => by
    have := hdCells_get r k j hj
    show ([y.sv, .int .i64 (y.no : Nat)] ++ hdCells r)[(k + 1) * 2 + j]? = _
    rw [List.getElem?_append_right (by simp; omega), show (k + 1) * 2 + j - [y.sv, Value.int .i64 (y.no : Nat)].length = k * 2 + j by simp; omega, this]
    simp
/-- The heads in a row of their own. -/
def HRow (w : World) (g c : Nat) (L : List Hd) : Prop := L.length ≤ c ∧ RowC w g 84 (c * 2) (hdCells L)
theorem HRow.at {w : World} {g c : Nat} {L : List Hd} (h : HRow w g c L) {i : Nat} {x : Hd} (hi : L[i]? = some x) : w.cell? ⟨g, i * 2, none⟩ = some (.slice (some ⟨x.b, x.off, none⟩) x.R.length x.c) ∧ w.cell? ⟨g, i * 2 + 1, none⟩ = some (.int .i64 (x.no : Nat)) := by
  obtain ⟨_, cs, h1, _, h2⟩ := h
  have hl := (List.getElem?_eq_some_iff.1 hi).1
  have hlen := hdCells_length L
  refine ⟨?_, ?_⟩
  · rw [cell_of_row w g _ cs 84 (0, 0) h1, h2 _ (by omega)]
    have := hdCells_get L i 0 (by omega)
    rw [hi] at this
    exact this
  · rw [cell_of_row w g _ cs 84 (0, 0) h1, h2 _ (by omega)]
    have := hdCells_get L i 1 (by omega)
    rw [hi] at this
    exact this
theorem HRow.keep {S : Nat → Prop} {w w' : World} {g c : Nat} {L : List Hd} (h : HRow w g c L) (t : Turns S w w') (hg : ¬ S g) : HRow w' g c L := ⟨h.1, h.2.turns t hg⟩
theorem HRow.frozen {w : World} {g c : Nat} {L : List Hd} (h : HRow w g c L) (k : Nat) : w.frozen? ⟨g, k, none⟩ = false := by
  obtain ⟨_, cs, h1, _⟩ := h
  exact frozen_of_row w g k cs 84 h1
theorem HRow.lt {w : World} {g c : Nat} {L : List Hd} (h : HRow w g c L) : g < w.heap.size := by
  obtain ⟨_, cs, h1, _⟩ := h
  exact lt_of_heap h1
theorem len_any (a : Option Addr) (n c : Nat) (w : World) : Calls Try.prog 85 #[.slice a n c] w fun e w' => e = .returned (.int .i64 (n : Nat)) ∧ w' = w := by
  go_enter Try.func85, Try.ntmps85
  go_wp2_with fail
  go_ret
  exact ⟨rfl, rfl⟩
theorem cmpI_any (x y : Nat) (w : World) : Calls Try.prog 88 #[.int .i64 (x : Nat), .int .i64 (y : Nat)] w fun e w' => e = .returned (.int .i64 (cmpN x y)) ∧ w' = w := by
  go_enter Try.func88, Try.ntmps88
  go_wp2
  all_goals go_ret
  all_goals refine ⟨congrArg Ending.returned (congrArg (Value.int IntKind.i64) ?_), rfl⟩
  · rw [cmpN, if_pos (by omega)]
  · rw [cmpN, if_neg (by omega), if_pos (by omega)]
  · rw [cmpN, if_neg (by omega), if_neg (by omega)]
theorem ltH_val (p q : En) (a b : Nat) : decide (orN (cmpE p q) (cmpN a b) < 0) = decide (cmpE p q < 0 ∨ cmpE p q = 0 ∧ a < b) := by
  refine decide_eq_decide.2 ?_
  unfold orN cmpN
  repeat' split
  all_goals omega
end Go.Proofs.Ytjnpendihdlgnaa
