/-
  The reader's calls: Number, Piece, Fixed.
-/
import Derived.Test.YtolaaodhnhdadaaRr
namespace Go.Proofs.Ytolaaodhnhdadaa
open Go.RowKit
set_option maxRecDepth 100000
set_option maxHeartbeats 4000000
/-- The error of a reader, written. -/
theorem Rdr.setErr {w : World} {r : Nat} {p : List (BitVec 8)} {i : Nat} {e : Int} (h : Rdr w r p i e) (z : Int) : Rdr (w.setCell ⟨r, 3, none⟩ (.int .i64 z)) r p i z := by
  obtain ⟨a, c, hr, hb, hc, hc0, hn⟩ := h
  have s1 := heap_setCell_same _ r 3 _ 92 (.int .i64 z) hr
  simp only [List.setIfInBounds_toArray, List.set_cons_succ, List.set_cons_zero] at s1
  exact ⟨a, c, s1, hb.turns (turns_cell (Turns.refl (fun j => j = r) w) 3 _) (fun x n c e => Nat.ne_of_lt (hn x (by cases e; rfl))), hc, hc0, hn⟩
theorem Rdr.frozen {w : World} {r : Nat} {p : List (BitVec 8)} {i : Nat} {e : Int} (h : Rdr w r p i e) : w.frozen? ⟨r, 3, none⟩ = false := by
  obtain ⟨a, c, hr, _⟩ := h
  exact frozen_of_row w r 3 _ 92 hr
theorem Rdr.turns {S : Nat → Prop} {w w' : World} {r : Nat} {p : List (BitVec 8)} {i : Nat} {e : Int} (h : Rdr w r p i e) (ht : Turns S w w') (hS : ∀ {k : Nat}, S k → False) : Rdr w' r p i e := by
  obtain ⟨a, c, hr, hb, hc, hc0, hn⟩ := h
  exact ⟨a, c, ht.heap hr hS, hb.turns ht (fun x n c e => hS), hc, hc0, hn⟩
theorem Rdr.keep {S : Nat → Prop} {w w' : World} {r : Nat} {p : List (BitVec 8)} {i : Nat} {e : Int} (h : Rdr w r p i e) (ht : Turns S w w') (hS : ∀ k, S k → r < k) : Rdr w' r p i e := by
  obtain ⟨a, c, hr, hb, hc, hc0, hn⟩ := h
  exact ⟨a, c, ht.heap hr (fun x => by have := hS r x; omega), hb.turns ht (fun x n c e s => by cases e; have := hn x rfl; have := hS _ s; omega), hc, hc0, hn⟩
theorem turnsN {S : Nat → Prop} (w : World) (n : Nat) : Turns S w (w.drewN n) := (Turns.refl _ w).drewN n
theorem rdGo_err : ∀ (l : List (BitVec 8)) (x i : Nat) (z : Int), rdGo x i l = .error z → z = 4 ∨ z = 12
  | [], x, i, z, h => by simp only [rdGo, Except.error.injEq] at h; omega
  | b :: r, x, i, z, h => by
    simp only [rdGo] at h
    split at h
    · simp only [Except.error.injEq] at h; omega
    · split at h
      · simp only [Except.error.injEq] at h; omega
      · split at h
        · cases h
        · exact rdGo_err r _ _ _ h
theorem rdShort_err {l : List (BitVec 8)} {z : Int} (h : rdShort l = .error z) : z = 4 ∨ z = 12 := rdGo_err l _ _ _ h
/-- What Number does. -/
def NumOk (r : Nat) (p : List (BitVec 8)) (i : Nat) (e : Ending) (w' : World) : Except Int (Nat × Nat) → Prop
  | .error z => e = .returned (.int .u64 0) ∧ Rdr w' r p i z
  | .ok (x, k) => e = .returned (.int .u64 (x : Nat)) ∧ Rdr w' r p (i + k) 0
theorem number_ok (r : Nat) (p : List (BitVec 8)) (i : Nat) (w : World) (h : Rdr w r p i 0) (hp : p.length ≤ 1000000) (hi : i ≤ p.length) :
    Calls Try.prog 56 #[.pointer (some ⟨r, 0, none⟩)] w fun e w' => NumOk r p i e w' (rdShort (p.drop i)) ∧ Turns (fun j => j = r) w w' := by
  have H := hide h
  clear h
  go_enter Try.func56, Try.ntmps56
  go_wp2_with fail
  refine (ready_any r p i 0 w H.out).mono ?_
  rintro e w1 ⟨rfl, m, rfl⟩
  rw [decide_eq_true rfl]
  go_wp2_with fail
  refine (rest_any r p i 0 (w.drewN m) (H.out.drewN m) hi).mono ?_
  rintro e w2 ⟨a', c', rfl, hb, hc, m2, hw2⟩
  rw [World.drewN_drewN] at hw2
  subst hw2
  go_wp2_with fail
  refine (readShort_any a' (p.length - i) c' (p.drop i) _ hb (by omega)).mono ?_
  rintro e w3 ⟨rfl, m3, hw3⟩
  rw [World.drewN_drewN] at hw3
  subst hw3
  have H3 := hide (H.out.drewN (m + m2 + m3))
  have T3 := hide (turnsN (S := fun j => j = r) w (m + m2 + m3))
  clear hb
  generalize w.drewN (m + m2 + m3) = w3 at *
  cases hq : rdShort (p.drop i) with
  | error z =>
    have hz : z = 4 ∨ z = 12 := rdShort_err hq
    have HQ := hide hq
    have fz := H3.out.frozen
    obtain ⟨a, c, c0, c1, c2, c3⟩ := H3.out.cells
    clear hq
    simp only [rdVal]
    rcases hz with rfl | rfl
    all_goals go_wp2_with fail
    all_goals go_ret
    all_goals exact ⟨by rw [HQ.out]; exact ⟨rfl, H3.out.setErr _⟩, T3.out.trans (turns_cell (Turns.refl (fun j => j = r) w3) 3 _)⟩
  | ok xk =>
    obtain ⟨x, k⟩ := xk
    have hk := rdShort_le hq
    rw [List.length_drop] at hk
    simp only [rdVal]
    have HK := hide hk
    have HQ := hide hq
    clear hk hq
    go_wp2_with fail
    refine (skip_any r p i k 0 w3 H3.out (by have := HK.out; omega)).mono ?_
    rintro e w4 ⟨⟨v, rfl⟩, h4, t4⟩
    have H4 := hide h4
    have T4 := hide (T3.out.trans t4)
    clear h4 t4
    go_wp2_with fail
    go_ret
    exact ⟨by rw [HQ.out]; exact ⟨rfl, H4.out⟩, T4.out⟩
theorem bytes_first {w : World} {a : Option Addr} {n c : Nat} {l : List (BitVec 8)} (h : Bytes w (.slice a n c) l) (m c' : Nat) (hm : m ≤ n) : Bytes w (.slice a m c') (l.take m) := by
  have hl := h.len
  obtain ⟨a', c'', e, hx⟩ := h
  cases e
  refine ⟨a, c', by rw [List.length_take, Nat.min_eq_left (by omega)], fun k hk => ?_⟩
  rw [List.length_take, Nat.min_eq_left (by omega)] at hk
  obtain ⟨b, off, e, hc⟩ := hx k (by omega)
  refine ⟨b, off, e, ?_⟩
  rw [hc]
  congr 2
  simp [List.getD, hk]
theorem take_any (r : Nat) (p : List (BitVec 8)) (i m : Nat) (e : Int) (w : World) (h : Rdr w r p i e) (hp : p.length ≤ 1000000) (hi : i + m ≤ p.length) :
    Calls Try.prog 78 #[.pointer (some ⟨r, 0, none⟩), .int .i64 m] w fun e' w' => ∃ a' c', e' = .returned (.slice a' m c') ∧ Bytes w' (.slice a' m c') ((p.drop i).take m) ∧ (∀ x, a' = some x → w.heap.size ≤ x.block ∧ x.block < w'.heap.size) ∧ Rdr w' r p (i + m) e ∧ Turns (fun j => j = r) w w' := by
  have H := hide h
  have hlt : r < w.heap.size := by
    obtain ⟨_, _, hr, _⟩ := h
    exact lt_of_heap hr
  clear h
  go_enter Try.func78, Try.ntmps78
  go_wp2_with fail
  refine (rest_any r p i e w H.out (by omega)).mono ?_
  rintro e' w2 ⟨a2, c2, rfl, hb, hc, m2, hw2⟩
  subst hw2
  have hml : m ≤ p.length - i := by omega
  have hb1 := bytes_first hb m c2 hml
  have HB1 := hide hb1
  have hm2 : (m : Int) ≤ ((p.length - i : Nat) : Int) := by omega
  clear hb hb1
  generalize p.length - i = L at *
  go_wp2_with fail
  refine (clone_any a2 m c2 _ (w.drewN m2) HB1.out (by omega)).mono ?_
  rintro e' w3 ⟨a3, c3, rfl, hby3, hblk4, hc3, _, b3⟩
  have hblk3 := hblk4
  have H3 := hide (Rdr.turns (w := w.drewN m2) (S := fun _ => False) (H.out.drewN m2) (Turns.of_below b3 _) (fun x => x))
  have HBY := hide hby3
  have HBLK := hide hblk3
  have T3 := hide ((turnsN (S := fun j => j = r) w m2).trans (Turns.of_below b3 _))
  clear hby3 hblk3 b3
  go_wp2_with fail
  refine (skip_any r p i m e w3 H3.out (by omega)).mono ?_
  rintro e' w4 ⟨⟨v, rfl⟩, h4, t4⟩
  have H4 := hide h4
  have T4 := hide t4
  clear h4 t4
  go_wp2_with fail
  go_ret
  have hb : ∀ x, a3 = some x → w.heap.size ≤ x.block := fun x e => (HBLK.out x e).1
  exact ⟨a3, c3, rfl, HBY.out.turns T4.out (fun x n c e => by cases e; have := hb x rfl; show ¬ x.block = r; omega), fun x e => ⟨hb x e, Nat.lt_of_lt_of_le (HBLK.out x e).2 T4.out.size⟩, H4.out, T3.out.trans T4.out⟩
end Go.Proofs.Ytolaaodhnhdadaa
