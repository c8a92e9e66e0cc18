/-
  The reader's calls: Number, Piece, Fixed, Err, End.
-/
import Derived.Test.YtolaaodhnhdadaaRd
namespace Go.Proofs.Ytolaaodhnhdadaa
open Go.RowKit
set_option maxRecDepth 100000
set_option maxHeartbeats 4000000
theorem bytes_add {w : World} {ad : Addr} {L c : Nat} {p : List (BitVec 8)} (h : Bytes w (.slice (some ad) L c) p) (i : Nat) (hi : i ≤ L) (c' : Nat) : Bytes w (.slice (some (ad.add i)) (L - i) c') (p.drop i) := by
  have hl := h.len
  rcases Nat.eq_zero_or_pos (L - i) with h0 | h0
  · rw [h0, List.drop_eq_nil_of_le (by omega)]
    exact Bytes.nothing _ _
  · obtain ⟨b, off, e⟩ := h.addr (by omega)
    cases e
    have := h.part i (L - i) c' (by omega)
    rw [List.take_of_length_le (by rw [List.length_drop]; omega)] at this
    rw [Go.WideShapes.add_plain]
    exact this
theorem bytes_end {w : World} (a : Option Addr) {L c : Nat} {p : List (BitVec 8)} (i : Nat) (hl : p.length = L) (h : L - i = 0) : Bytes w (.slice a (L - i) c) (p.drop i) := by
  rw [h, List.drop_eq_nil_of_le (by omega)]
  exact Bytes.nothing _ _
theorem rest_any (r : Nat) (p : List (BitVec 8)) (i : Nat) (e : Int) (w : World) (h : Rdr w r p i e) (hi : i ≤ p.length) :
    Calls Try.prog 68 #[.pointer (some ⟨r, 0, none⟩)] w fun e w' => ∃ a' c', e = .returned (.slice a' (p.length - i) c') ∧ Bytes w' (.slice a' (p.length - i) c') (p.drop i) ∧ p.length - i ≤ c' ∧ ∃ m, w' = w.drewN m := by
  obtain ⟨a, c, hr, hb, hc, hc0, hn⟩ := h
  have c0 := cell_of_row w _ 0 _ 92 (0, 0) hr
  have c1 := cell_of_row w _ 1 _ 92 (0, 0) hr
  simp at c0 c1
  have HB := hide hb
  clear hb hr hn
  have i1 : (i : Int) ≤ (p.length : Int) := by omega
  generalize hL : p.length = L at *
  have HL := hide hL
  clear hL
  cases a with
  | none =>
    obtain rfl := hc0 rfl
    obtain rfl : L = 0 := by omega
    obtain rfl : i = 0 := by omega
    go_enter Try.func68, Try.ntmps68
    go_wp2_with fail
    go_quiet (fail)
    go_wp2_with fail
    go_ret
    exact ⟨none, 0, rfl, bytes_end none 0 HL.out rfl, Nat.le_refl _, nq, rfl⟩
  | some ad =>
    clear hc0
    go_enter Try.func68, Try.ntmps68
    go_wp2_with fail
    go_quiet (fail)
    go_wp2_with fail
    all_goals go_ret
    · exact ⟨_, _, rfl, bytes_end _ i HL.out (by omega), by omega, nq, rfl⟩
    · exact ⟨_, _, rfl, bytes_add HB.out i hi _, by omega, nq, rfl⟩
theorem skip_any (r : Nat) (p : List (BitVec 8)) (i m : Nat) (e : Int) (w : World) (h : Rdr w r p i e) (hi : i + m ≤ 1000000) :
    Calls Try.prog 69 #[.pointer (some ⟨r, 0, none⟩), .int .i64 m] w fun e' w' => (∃ v, e' = .returned v) ∧ Rdr w' r p (i + m) e ∧ Turns (fun j => j = r) w w' := by
  obtain ⟨a, c, hr, hb, hc, hc0, hn⟩ := h
  have c1 := cell_of_row w _ 1 _ 92 (0, 0) hr
  simp at c1
  have z1 := frozen_of_row w r 1 _ 92 hr
  have HR := hide hr
  have HB := hide hb
  clear hr hb
  go_enter Try.func69, Try.ntmps69
  go_wp2_with fail
  go_end0
  have ht := turns_cell (Turns.refl (fun j => j = r) w) 1 (.int .i64 ((i : Int) + (m : Int)))
  refine ⟨⟨_, rfl⟩, ⟨a, c, ?_, HB.out.turns ht (fun x n c e => Nat.ne_of_lt (hn x (by cases e; rfl))), hc, hc0, hn⟩, ht⟩
  have s1 := heap_setCell_same _ r 1 _ 92 (.int .i64 ((i : Int) + (m : Int))) HR.out
  simp only [List.setIfInBounds_toArray, List.set_cons_succ, List.set_cons_zero] at s1
  exact s1
theorem Rdr.cells {w : World} {r : Nat} {p : List (BitVec 8)} {i : Nat} {e : Int} (h : Rdr w r p i e) : ∃ a c, w.cell? ⟨r, 0, none⟩ = some (.slice a p.length c) ∧ w.cell? ⟨r, 1, none⟩ = some (.int .i64 (i : Nat)) ∧ w.cell? ⟨r, 2, none⟩ = some (.bool true) ∧ w.cell? ⟨r, 3, none⟩ = some (.int .i64 e) := by
  obtain ⟨a, c, hr, _⟩ := h
  exact ⟨a, c, cell_of_row w _ 0 _ 92 (0, 0) hr, cell_of_row w _ 1 _ 92 (0, 0) hr, cell_of_row w _ 2 _ 92 (0, 0) hr, cell_of_row w _ 3 _ 92 (0, 0) hr⟩
theorem Rdr.drewN {w : World} {r : Nat} {p : List (BitVec 8)} {i : Nat} {e : Int} (h : Rdr w r p i e) (m : Nat) : Rdr (w.drewN m) r p i e := h
theorem made_any (r : Nat) (p : List (BitVec 8)) (i : Nat) (e : Int) (w : World) (h : Rdr w r p i e) :
    Calls Try.prog 53 #[.pointer (some ⟨r, 0, none⟩)] w fun e' w' => e' = .returned (.bool true) ∧ ∃ m, w' = w.drewN m := by
  obtain ⟨a, c, c0, c1, c2, c3⟩ := h.cells
  go_enter Try.func53, Try.ntmps53
  go_wp2_with fail
  go_ret
  exact ⟨rfl, 0, rfl⟩
theorem ready_any (r : Nat) (p : List (BitVec 8)) (i : Nat) (e : Int) (w : World) (h : Rdr w r p i e) :
    Calls Try.prog 66 #[.pointer (some ⟨r, 0, none⟩)] w fun e' w' => e' = .returned (.bool (decide (e = 0))) ∧ ∃ m, w' = w.drewN m := by
  obtain ⟨a, c, c0, c1, c2, c3⟩ := h.cells
  have H := hide h
  clear h
  go_enter Try.func66, Try.ntmps66
  go_wp2_with fail
  refine (made_any r p i e w H.out).mono ?_
  rintro e' w1 ⟨rfl, m, rfl⟩
  by_cases h0 : e = 0
  · subst h0
    go_wp2_with fail
    go_ret
    exact ⟨rfl, m, rfl⟩
  · have h0' : (e == 0) = false := by simpa using h0
    go_wp2_with fail
    go_ret
    exact ⟨congrArg Ending.returned (congrArg Value.bool (by simp [h0])), m, rfl⟩
theorem left_any (r : Nat) (p : List (BitVec 8)) (i : Nat) (e : Int) (w : World) (h : Rdr w r p i e) (hp : p.length ≤ 1000000) (hi : i ≤ p.length) :
    Calls Try.prog 54 #[.pointer (some ⟨r, 0, none⟩)] w fun e' w' => e' = .returned (.int .i64 ((p.length - i : Nat) : Int)) ∧ ∃ m, w' = w.drewN m := by
  obtain ⟨a, c, c0, c1, c2, c3⟩ := h.cells
  have i1 : (i : Int) ≤ (p.length : Int) := by omega
  generalize p.length = L at *
  clear h
  go_enter Try.func54, Try.ntmps54
  go_wp2_with fail
  go_quiet (fail)
  go_wp2_with fail
  go_ret
  exact ⟨congrArg Ending.returned (congrArg (Value.int .i64) (by omega)), nq, rfl⟩
theorem err_any (r : Nat) (p : List (BitVec 8)) (i : Nat) (e : Int) (w : World) (h : Rdr w r p i e) :
    Calls Try.prog 58 #[.pointer (some ⟨r, 0, none⟩)] w fun e' w' => e' = .returned (.int .i64 e) ∧ ∃ m, w' = w.drewN m := by
  obtain ⟨a, c, c0, c1, c2, c3⟩ := h.cells
  have H := hide h
  clear h
  go_enter Try.func58, Try.ntmps58
  go_wp2_with fail
  refine (made_any r p i e w H.out).mono ?_
  rintro e' w1 ⟨rfl, m, rfl⟩
  go_wp2_with fail
  go_ret
  exact ⟨rfl, m, rfl⟩
/-- What End answers. -/
def endN (e : Int) (i L : Nat) : Int := if e ≠ 0 then e else if i < L then 4 else 0
end Go.Proofs.Ytolaaodhnhdadaa
