/-
  The reader's calls: Number, Piece, Fixed, Err, End.
-/
import Derived.Test.YtpdlbepkkfoadaaRd
namespace Go.Proofs.Ytpdlbepkkfoadaa
open Go.RowKit
set_option maxRecDepth 100000
set_option maxHeartbeats 4000000
theorem bytes_add {w : World} {ad : Addr} {L c : Nat} {p : List (BitVec 8)} (h : Bytes w (.slice (some ad) L c) p) (i : Nat) (hi : i ≤ L) (c' : Nat) : Bytes w (.slice (some (ad.add i)) (L - i) c') (p.drop i) := by
  have hl := h.len
  rcases Nat.eq_zero_or_pos (L - i) with h0 | h0
  · rw [h0, List.drop_eq_nil_of_le (by omega)]
    exact Bytes.nothing _ _
  · obtain ⟨b, off, e⟩ := h.addr (by omega)
    cases e
    have := h.part i (L - i) c' (by omega)
    rw [List.take_of_length_le (by rw [List.length_drop]; omega)] at this
    rw [Go.WideShapes.add_plain]
    exact this
theorem bytes_end {w : World} (a : Option Addr) {L c : Nat} {p : List (BitVec 8)} (i : Nat) (hl : p.length = L) (h : L - i = 0) : Bytes w (.slice a (L - i) c) (p.drop i) := by
  rw [h, List.drop_eq_nil_of_le (by omega)]
  exact Bytes.nothing _ _
theorem rest_any (r : Nat) (p : List (BitVec 8)) (i : Nat) (e : Int) (w : World) (h : Rdr w r p i e) (hi : i ≤ p.length) :
    Calls Try.prog 45 #[.pointer (some ⟨r, 0, none⟩)] w fun e w' => ∃ a' c', e = .returned (.slice a' (p.length - i) c') ∧ Bytes w' (.slice a' (p.length - i) c') (p.drop i) ∧ p.length - i ≤ c' ∧ ∃ m, w' = w.drewN m := by
  obtain ⟨a, c, hr, hb, hc, hc0, hn⟩ := h
  have c0 := cell_of_row w _ 0 _ 74 (0, 0) hr
  have c1 := cell_of_row w _ 1 _ 74 (0, 0) hr
  simp at c0 c1
  have HB := hide hb
  clear hb hr hn
  have i1 : (i : Int) ≤ (p.length : Int) := by omega
  generalize hL : p.length = L at *
  have HL := hide hL
  clear hL
  cases a with
  | none =>
    obtain rfl := hc0 rfl
    obtain rfl : L = 0 := by omega
    obtain rfl : i = 0 := by omega
    go_enter Try.func45, Try.ntmps45
    go_wp2_with fail
    go_quiet (fail)
    go_wp2_with fail
    go_ret
    exact ⟨none, 0, rfl, bytes_end none 0 HL.out rfl, Nat.le_refl _, nq, rfl⟩
  | some ad =>
    clear hc0
    go_enter Try.func45, Try.ntmps45
    go_wp2_with fail
    go_quiet (fail)
    go_wp2_with fail
    all_goals go_ret
    · exact ⟨_, _, rfl, bytes_end _ i HL.out (by omega), by omega, nq, rfl⟩
    · exact ⟨_, _, rfl, bytes_add HB.out i hi _, by omega, nq, rfl⟩
theorem skip_any (r : Nat) (p : List (BitVec 8)) (i m : Nat) (e : Int) (w : World) (h : Rdr w r p i e) (hi : i + m ≤ 1000000) :
    Calls Try.prog 46 #[.pointer (some ⟨r, 0, none⟩), .int .i64 m] w fun e' w' => (∃ v, e' = .returned v) ∧ Rdr w' r p (i + m) e ∧ Turns (fun j => j = r) w w' := by
  obtain ⟨a, c, hr, hb, hc, hc0, hn⟩ := h
  have c1 := cell_of_row w _ 1 _ 74 (0, 0) hr
  simp at c1
  have z1 := frozen_of_row w r 1 _ 74 hr
  have HR := hide hr
  have HB := hide hb
  clear hr hb
  go_enter Try.func46, Try.ntmps46
  go_wp2_with fail
  go_end0
  have ht := turns_cell (Turns.refl (fun j => j = r) w) 1 (.int .i64 ((i : Int) + (m : Int)))
  refine ⟨⟨_, rfl⟩, ⟨a, c, ?_, HB.out.turns ht (fun x n c e => Nat.ne_of_lt (hn x (by cases e; rfl))), hc, hc0, hn⟩, ht⟩
  have s1 := heap_setCell_same _ r 1 _ 74 (.int .i64 ((i : Int) + (m : Int))) HR.out
  simp only [List.setIfInBounds_toArray, List.set_cons_succ, List.set_cons_zero] at s1
  exact s1
theorem Rdr.cells {w : World} {r : Nat} {p : List (BitVec 8)} {i : Nat} {e : Int} (h : Rdr w r p i e) : ∃ a c, w.cell? ⟨r, 0, none⟩ = some (.slice a p.length c) ∧ w.cell? ⟨r, 1, none⟩ = some (.int .i64 (i : Nat)) ∧ w.cell? ⟨r, 2, none⟩ = some (.bool true) ∧ w.cell? ⟨r, 3, none⟩ = some (.int .i64 e) := by
  obtain ⟨a, c, hr, _⟩ := h
  exact ⟨a, c, cell_of_row w _ 0 _ 74 (0, 0) hr, cell_of_row w _ 1 _ 74 (0, 0) hr, cell_of_row w _ 2 _ 74 (0, 0) hr, cell_of_row w _ 3 _ 74 (0, 0) hr⟩
theorem Rdr.drewN {w : World} {r : Nat} {p : List (BitVec 8)} {i : Nat} {e : Int} (h : Rdr w r p i e) (m : Nat) : Rdr (w.drewN m) r p i e := h
theorem made_any (r : Nat) (p : List (BitVec 8)) (i : Nat) (e : Int) (w : World) (h : Rdr w r p i e) :
    Calls Try.prog 58 #[.pointer (some ⟨r, 0, none⟩)] w fun e' w' => e' = .returned (.bool true) ∧ ∃ m, w' = w.drewN m := by
  obtain ⟨a, c, c0, c1, c2, c3⟩ := h.cells
  go_enter Try.func58, Try.ntmps58
  go_wp2_with fail
  go_ret
  exact ⟨rfl, 0, rfl⟩
theorem ready_any (r : Nat) (p : List (BitVec 8)) (i : Nat) (e : Int) (w : World) (h : Rdr w r p i e) :
    Calls Try.prog 43 #[.pointer (some ⟨r, 0, none⟩)] w fun e' w' => e' = .returned (.bool (decide (e = 0))) ∧ ∃ m, w' = w.drewN m := by
  obtain ⟨a, c, c0, c1, c2, c3⟩ := h.cells
  have H := hide h
  clear h
  go_enter Try.func43, Try.ntmps43
  go_wp2_with fail
  refine (made_any r p i e w H.out).mono ?_
  rintro e' w1 ⟨rfl, m, rfl⟩
  by_cases h0 : e = 0
  · subst h0
    go_wp2_with fail
    go_ret
    exact ⟨rfl, m, rfl⟩
  · have h0' : (e == 0) = false := by simpa using h0
    go_wp2_with fail
    go_ret
    exact ⟨congrArg Ending.returned (congrArg Value.bool (by simp [h0])), m, rfl⟩
theorem left_any (r : Nat) (p : List (BitVec 8)) (i : Nat) (e : Int) (w : World) (h : Rdr w r p i e) (hp : p.length ≤ 1000000) (hi : i ≤ p.length) :
    Calls Try.prog 50 #[.pointer (some ⟨r, 0, none⟩)] w fun e' w' => e' = .returned (.int .i64 ((p.length - i : Nat) : Int)) ∧ ∃ m, w' = w.drewN m := by
  obtain ⟨a, c, c0, c1, c2, c3⟩ := h.cells
  have i1 : (i : Int) ≤ (p.length : Int) := by omega
  generalize p.length = L at *
  clear h
  go_enter Try.func50, Try.ntmps50
  go_wp2_with fail
  go_quiet (fail)
  go_wp2_with fail
  go_ret
  exact ⟨congrArg Ending.returned (congrArg (Value.int .i64) (by omega)), nq, rfl⟩
theorem err_any (r : Nat) (p : List (BitVec 8)) (i : Nat) (e : Int) (w : World) (h : Rdr w r p i e) :
    Calls Try.prog 48 #[.pointer (some ⟨r, 0, none⟩)] w fun e' w' => e' = .returned (.int .i64 e) ∧ ∃ m, w' = w.drewN m := by
  obtain ⟨a, c, c0, c1, c2, c3⟩ := h.cells
  have H := hide h
  clear h
  go_enter Try.func48, Try.ntmps48
  go_wp2_with fail
  refine (made_any r p i e w H.out).mono ?_
  rintro e' w1 ⟨rfl, m, rfl⟩
  go_wp2_with fail
  go_ret
  exact ⟨rfl, m, rfl⟩
/-- What End answers. -/
def endN (e : Int) (i L : Nat) : Int := if e ≠ 0 then e else if i < L then 4 else 0
theorem end_any (r : Nat) (p : List (BitVec 8)) (i : Nat) (e : Int) (w : World) (h : Rdr w r p i e) (hp : p.length ≤ 1000000) (hi : i ≤ p.length) :
    Calls Try.prog 30 #[.pointer (some ⟨r, 0, none⟩)] w fun e' w' => e' = .returned (.int .i64 (endN e i p.length)) ∧ ∃ m, w' = w.drewN m := by
  have H := hide h
  clear h
  go_enter Try.func30, Try.ntmps30
  go_wp2_with fail
  refine (err_any r p i e w H.out).mono ?_
  rintro e' w1 ⟨rfl, m, rfl⟩
  by_cases h0 : e = 0
  · subst h0
    go_wp2_with fail
    refine (left_any r p i 0 (w.drewN m) (H.out.drewN m) hp hi).mono ?_
    rintro e' w2 ⟨rfl, m2, hw2⟩
    rw [World.drewN_drewN] at hw2
    subst hw2
    by_cases hlt : i < p.length
    · have hlt' : (0 : Int) < ((p.length - i : Nat) : Int) := by omega
      have HLT := hide hlt
      clear hlt
      generalize p.length - i = d at *
      go_wp2_with fail
      go_ret
      exact ⟨by rw [endN, if_neg (by simp), if_pos HLT.out]; rfl, _, rfl⟩
    · have hd : p.length - i = 0 := by omega
      rw [hd]
      have HLT := hide hlt
      clear hlt hd
      go_wp2_with fail
      go_ret
      exact ⟨by rw [endN, if_neg (by simp), if_neg HLT.out]; rfl, _, rfl⟩
  · have h0' : (e != 0) = true := by simpa using h0
    go_wp2_with fail
    go_ret
    exact ⟨by rw [endN, if_pos h0]; rfl, m, rfl⟩
end Go.Proofs.Ytpdlbepkkfoadaa
