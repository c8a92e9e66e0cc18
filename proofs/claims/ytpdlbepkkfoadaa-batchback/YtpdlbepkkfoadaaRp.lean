/-
  The reader's pieces.
-/
import Derived.Test.YtpdlbepkkfoadaaRn
namespace Go.Proofs.Ytpdlbepkkfoadaa
open Go.RowKit
set_option maxRecDepth 100000
set_option maxHeartbeats 4000000
/-- A reader of which those bytes are left. -/
def RdrL (w : World) (r : Nat) (p rest : List (BitVec 8)) (e : Int) : Prop := ∃ i, i ≤ p.length ∧ p.drop i = rest ∧ Rdr w r p i e
/-- What Piece does. -/
def PieceOk (r : Nat) (p : List (BitVec 8)) (W : Nat) (e : Ending) (w' : World) : Except Int (List (BitVec 8) × List (BitVec 8)) → Prop
  | .error z => e = .returned (.slice none 0 0) ∧ z ≠ 0 ∧ ∃ rest, RdrL w' r p rest z
  | .ok (q, rest) => (∃ a' c', e = .returned (.slice a' q.length c') ∧ Bytes w' (.slice a' q.length c') q ∧ ∀ x, a' = some x → W ≤ x.block) ∧ RdrL w' r p rest 0
theorem piece_any (r : Nat) (p rest : List (BitVec 8)) (w : World) (h : RdrL w r p rest 0) (hp : p.length ≤ 1000000) :
    Calls Try.prog 49 #[.pointer (some ⟨r, 0, none⟩)] w fun e w' => PieceOk r p w.heap.size e w' (rdPiece rest) ∧ Turns (fun j => j = r) w w' := by
  obtain ⟨i, hi, rfl, h⟩ := h
  have H := hide h
  clear h
  go_enter Try.func49, Try.ntmps49
  go_wp2_with fail
  refine (ready_any r p i 0 w H.out).mono ?_
  rintro e w1 ⟨rfl, m, rfl⟩
  rw [decide_eq_true rfl]
  go_wp2_with fail
  refine (rest_any r p i 0 (w.drewN m) (H.out.drewN m) hi).mono ?_
  rintro e w2 ⟨a', c', rfl, hb, hc, m2, hw2⟩
  rw [World.drewN_drewN] at hw2
  subst hw2
  go_wp2_with fail
  refine (readShort_any a' (p.length - i) c' (p.drop i) _ hb (by omega)).mono ?_
  rintro e w3 ⟨rfl, m3, hw3⟩
  rw [World.drewN_drewN] at hw3
  subst hw3
  have H3 := hide (H.out.drewN (m + m2 + m3))
  have T3 := hide (turnsN (S := fun j => j = r) w (m + m2 + m3))
  have hsz : (w.drewN (m + m2 + m3)).heap.size = w.heap.size := rfl
  have HSZ := hide hsz
  clear hb hsz
  generalize w.drewN (m + m2 + m3) = w3 at *
  have fz := H3.out.frozen
  obtain ⟨a, c, c0, c1, c2, c3⟩ := H3.out.cells
  cases hq : rdShort (p.drop i) with
  | error z =>
    have hz : z = 4 ∨ z = 12 := rdShort_err hq
    have hres : rdPiece (p.drop i) = .error z := by unfold rdPiece; rw [hq]
    have HQ := hide hres
    clear hq hres
    simp only [rdVal]
    rcases hz with rfl | rfl
    all_goals go_wp2_with fail
    all_goals go_ret
    all_goals exact ⟨by rw [HQ.out]; exact ⟨rfl, by decide, _, i, hi, rfl, H3.out.setErr _⟩, T3.out.trans (turns_cell (Turns.refl (fun j => j = r) w3) 3 _)⟩
  | ok xk =>
    obtain ⟨x, k⟩ := xk
    have hk := rdShort_le hq
    have hxb := rdShort_bound hq
    rw [List.length_drop] at hk
    obtain ⟨hk0, hk1⟩ := hk
    have hL1 : p.length - i ≤ 1000000 := by omega
    simp only [rdVal]
    have HQ := hide hq
    clear hq
    by_cases hlong : 1048576 < x
    · have hlong' : (1048576 : Int) < (x : Int) := by omega
      have hres : rdPiece (p.drop i) = .error 3 := by unfold rdPiece; rw [HQ.out]; simp only; rw [if_pos hlong]
      have HR := hide hres
      clear hres
      go_wp2_with fail
      go_ret
      exact ⟨by rw [HR.out]; exact ⟨rfl, by decide, _, i, hi, rfl, H3.out.setErr _⟩, T3.out.trans (turns_cell (Turns.refl (fun j => j = r) w3) 3 _)⟩
    · have hlong' : ¬ (1048576 : Int) < (x : Int) := by omega
      go_wp2_with fail
      refine (left_any r p i 0 w3 H3.out hp hi).mono ?_
      rintro e w4 ⟨rfl, m4, hw4⟩
      have H4 := hide (H3.out.drewN m4)
      have T4 := hide (T3.out.drewN m4)
      subst hw4
      have HSZ4 : Hid ((w3.drewN m4).heap.size = w.heap.size) := HSZ.out
      clear c0 c1 c2 c3 fz
      generalize w3.drewN m4 = w4 at *
      have fz := H4.out.frozen
      obtain ⟨a4, c4, d0, d1, d2, d3⟩ := H4.out.cells
      by_cases hmore : p.length - i - k < x
      · have hmore' : ((p.length - i : Nat) : Int) - (k : Int) < (x : Int) := by omega
        have hres : rdPiece (p.drop i) = .error 12 := by
          unfold rdPiece; rw [HQ.out]; simp only; rw [if_neg hlong, if_pos (by rw [List.length_drop]; exact hmore)]
        have HR := hide hres
        clear hres
        generalize p.length - i = L at *
        go_wp2_with fail
        go_ret
        exact ⟨by rw [HR.out]; exact ⟨rfl, by decide, _, i, hi, rfl, H4.out.setErr _⟩, T4.out.trans (turns_cell (Turns.refl (fun j => j = r) w4) 3 _)⟩
      · have hmore' : ¬ ((p.length - i : Nat) : Int) - (k : Int) < (x : Int) := by omega
        have hres : rdPiece (p.drop i) = .ok (((p.drop i).drop k).take x, ((p.drop i).drop k).drop x) := by
          unfold rdPiece; rw [HQ.out]; simp only; rw [if_neg hlong, if_neg (by rw [List.length_drop]; exact hmore)]
        have HR := hide hres
        have hikx : i + k + x ≤ p.length := by omega
        clear hres hmore hlong
        generalize p.length - i = L at *
        go_wp2_with fail
        refine (skip_any r p i k 0 w4 H4.out (by omega)).mono ?_
        rintro e w5 ⟨⟨v, rfl⟩, h5, t5⟩
        have H5 := hide h5
        have T5 := hide (T4.out.trans t5)
        have hs5 := t5.size
        rw [HSZ4.out] at hs5
        have HS5 := hide hs5
        clear h5 t5 hs5
        go_wp2_with fail
        refine (take_any r p (i + k) x 0 w5 H5.out hp hikx).mono ?_
        rintro e w6 ⟨a6, c6, rfl, hb6, hk6, h6, t6⟩
        have H6 := hide h6
        have T6 := hide (T5.out.trans t6)
        have HB6 := hide hb6
        have HK6 := hide hk6
        clear h6 t6 hb6 hk6
        go_wp2_with fail
        go_ret
        have hlx : (((p.drop i).drop k).take x).length = x := by rw [List.length_take, List.length_drop, List.length_drop]; omega
        refine ⟨?_, T6.out⟩
        rw [HR.out]
        refine ⟨⟨a6, c6, by rw [hlx]; rfl, ?_, fun y e => Nat.le_trans HS5.out (HK6.out y e)⟩, i + k + x, hikx, ?_, H6.out⟩
        · rw [hlx, List.drop_drop]
          exact HB6.out
        · rw [List.drop_drop, List.drop_drop, Nat.add_assoc]
end Go.Proofs.Ytpdlbepkkfoadaa
