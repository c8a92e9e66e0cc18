import Derived.Test.YtmmcikbedegigaaGreatM08
import Derived.Test.YtmmcikbedegigaaGreatM09
/-
  The reader's calls: Number, Piece, Fixed.
-/
namespace Go.Proofs.YtmmcikbedegigaaGreat
open Go.RowKit
set_option maxRecDepth 100000
set_option maxHeartbeats 4000000
/-- The error of a reader, written. -/
theorem Rdr.setErr {w : World} {r : Nat} {p : List (BitVec 8)} {i : Nat} {e : Int} (h : Rdr w r p i e) (z : Int) : Rdr (w.setCell ⟨r, 3, none⟩ (.int .i64 z)) r p i z := by
  obtain ⟨a, c, hr, hb, hc, hc0, hn⟩ := h
  have s1 := heap_setCell_same _ r 3 _ 114 (.int .i64 z) hr
  simp only [List.setIfInBounds_toArray, List.set_cons_succ, List.set_cons_zero] at s1
  exact ⟨a, c, s1, hb.turns (turns_cell (Turns.refl (fun j => j = r) w) 3 _) (fun x n c e => Nat.ne_of_lt (hn x (by cases e; rfl))), hc, hc0, hn⟩
theorem Rdr.frozen {w : World} {r : Nat} {p : List (BitVec 8)} {i : Nat} {e : Int} (h : Rdr w r p i e) : w.frozen? ⟨r, 3, none⟩ = false := by
  obtain ⟨a, c, hr, _⟩ := h
  exact frozen_of_row w r 3 _ 114 hr
theorem Rdr.turns {S : Nat → Prop} {w w' : World} {r : Nat} {p : List (BitVec 8)} {i : Nat} {e : Int} (h : Rdr w r p i e) (ht : Turns S w w') (hS : ∀ {k : Nat}, S k → False) : Rdr w' r p i e := by
  obtain ⟨a, c, hr, hb, hc, hc0, hn⟩ := h
  exact ⟨a, c, ht.heap hr hS, hb.turns ht (fun x n c e => hS), hc, hc0, hn⟩
theorem Rdr.keep {S : Nat → Prop} {w w' : World} {r : Nat} {p : List (BitVec 8)} {i : Nat} {e : Int} (h : Rdr w r p i e) (ht : Turns S w w') (hS : ∀ k, S k → r < k) : Rdr w' r p i e := by
  obtain ⟨a, c, hr, hb, hc, hc0, hn⟩ := h
  exact ⟨a, c, ht.heap hr (fun x => by have := hS r x; omega), hb.turns ht (fun x n c e s => by cases e; have := hn x rfl; have := hS _ s; omega), hc, hc0, hn⟩
theorem turnsN {S : Nat → Prop} (w : World) (n : Nat) : Turns S w (w.drewN n) := (Turns.refl _ w).drewN n
theorem rdGo_err : ∀ (l : List (BitVec 8)) (x i : Nat) (z : Int), rdGo x i l = .error z → z = 4 ∨ z = 12
  | [], x, i, z, h => by simp only [rdGo, Except.error.injEq] at h; omega
  | b :: r, x, i, z, h => by
    simp only [rdGo] at h
    split at h
    · simp only [Except.error.injEq] at h; omega
    · split at h
      · simp only [Except.error.injEq] at h; omega
      · split at h
        · cases h
        · exact rdGo_err r _ _ _ h
theorem rdShort_err {l : List (BitVec 8)} {z : Int} (h : rdShort l = .error z) : z = 4 ∨ z = 12 := rdGo_err l _ _ _ h
/-- What Number does. -/
def NumOk (r : Nat) (p : List (BitVec 8)) (i : Nat) (e : Ending) (w' : World) : Except Int (Nat × Nat) → Prop
  | .error z => e = .returned (.int .u64 0) ∧ Rdr w' r p i z
  | .ok (x, k) => e = .returned (.int .u64 (x : Nat)) ∧ Rdr w' r p (i + k) 0
theorem number_ok (r : Nat) (p : List (BitVec 8)) (i : Nat) (w : World) (h : Rdr w r p i 0) (hp : p.length ≤ 1000000) (hi : i ≤ p.length) :
    Calls Tryz.prog 64 #[.pointer (some ⟨r, 0, none⟩)] w fun e w' => NumOk r p i e w' (rdShort (p.drop i)) ∧ Turns (fun j => j = r) w w' := by
  have H := hide h
  clear h
  go_enter Tryz.func64, Tryz.ntmps64
  go_wp2_with fail
  refine (ready_any r p i 0 w H.out).mono ?_
  rintro e w1 ⟨rfl, m, rfl⟩
  rw [decide_eq_true rfl]
  go_wp2_with fail
  refine (rest_any r p i 0 (w.drewN m) (H.out.drewN m) hi).mono ?_
  rintro e w2 ⟨a', c', rfl, hb, hc, m2, hw2⟩
  rw [World.drewN_drewN] at hw2
  subst hw2
  go_wp2_with fail
  refine (readShort_any a' (p.length - i) c' (p.drop i) _ hb (by omega)).mono ?_
  rintro e w3 ⟨rfl, m3, hw3⟩
  rw [World.drewN_drewN] at hw3
  subst hw3
  have H3 := hide (H.out.drewN (m + m2 + m3))
  have T3 := hide (turnsN (S := fun j => j = r) w (m + m2 + m3))
  clear hb
  generalize w.drewN (m + m2 + m3) = w3 at *
  cases hq : rdShort (p.drop i) with
  | error z =>
    have hz : z = 4 ∨ z = 12 := rdShort_err hq
    have HQ := hide hq
    have fz := H3.out.frozen
    obtain ⟨a, c, c0, c1, c2, c3⟩ := H3.out.cells
    clear hq
    simp only [rdVal]
    rcases hz with rfl | rfl
    all_goals go_wp2_with fail
    all_goals go_ret
    all_goals exact ⟨by rw [HQ.out]; exact ⟨rfl, H3.out.setErr _⟩, T3.out.trans (turns_cell (Turns.refl (fun j => j = r) w3) 3 _)⟩
  | ok xk =>
    obtain ⟨x, k⟩ := xk
    have hk := rdShort_le hq
    rw [List.length_drop] at hk
    simp only [rdVal]
    have HK := hide hk
    have HQ := hide hq
    clear hk hq
    go_wp2_with fail
    refine (skip_any r p i k 0 w3 H3.out (by have := HK.out; omega)).mono ?_
    rintro e w4 ⟨⟨v, rfl⟩, h4, t4⟩
    have H4 := hide h4
    have T4 := hide (T3.out.trans t4)
    clear h4 t4
    go_wp2_with fail
    go_ret
    exact ⟨by rw [HQ.out]; exact ⟨rfl, H4.out⟩, T4.out⟩
theorem bytes_first {w : World} {a : Option Addr} {n c : Nat} {l : List (BitVec 8)} (h : Bytes w (.slice a n c) l) (m c' : Nat) (hm : m ≤ n) : Bytes w (.slice a m c') (l.take m) := by
  have hl := h.len
  obtain ⟨a', c'', e, hx⟩ := h
  cases e
  refine ⟨a, c', by rw [List.length_take, Nat.min_eq_left (by omega)], fun k hk => ?_⟩
  rw [List.length_take, Nat.min_eq_left (by omega)] at hk
  obtain ⟨b, off, e, hc⟩ := hx k (by omega)
  refine ⟨b, off, e, ?_⟩
  rw [hc]
  congr 2
  simp [List.getD, hk]
/-- A block of bytes made anew. -/
def NB (w : World) (W : Nat) (a : Option Addr) : Prop := ∀ x, a = some x → W ≤ x.block ∧ ∃ cs z, w.heap[x.block]? = some (.cells cs 5 z)
theorem take_any (r : Nat) (p : List (BitVec 8)) (i m : Nat) (e : Int) (w : World) (h : Rdr w r p i e) (hp : p.length ≤ 1000000) (hi : i + m ≤ p.length) :
    Calls Tryz.prog 96 #[.pointer (some ⟨r, 0, none⟩), .int .i64 m] w fun e' w' => ∃ a' c', e' = .returned (.slice a' m c') ∧ Bytes w' (.slice a' m c') ((p.drop i).take m) ∧ NB w' w.heap.size a' ∧ Rdr w' r p (i + m) e ∧ Turns (fun j => j = r) w w' := by
  have H := hide h
  have hlt : r < w.heap.size := by
    obtain ⟨_, _, hr, _⟩ := h
    exact lt_of_heap hr
  clear h
  go_enter Tryz.func96, Tryz.ntmps96
  go_wp2_with fail
  refine (rest_any r p i e w H.out (by omega)).mono ?_
  rintro e' w2 ⟨a2, c2, rfl, hb, hc, m2, hw2⟩
  subst hw2
  have hml : m ≤ p.length - i := by omega
  have hb1 := bytes_first hb m c2 hml
  have HB1 := hide hb1
  have hm2 : (m : Int) ≤ ((p.length - i : Nat) : Int) := by omega
  clear hb hb1
  generalize p.length - i = L at *
  go_wp2_with fail
  refine (cloneT_any a2 m c2 _ (w.drewN m2) HB1.out (by omega)).mono ?_
  rintro e' w3 ⟨a3, c3, rfl, hby3, hblk4, b3⟩
  have hblk3 : NB w3 w.heap.size a3 := fun x e => ⟨(hblk4 x e).1.1, (hblk4 x e).2.choose, _, (hblk4 x e).2.choose_spec⟩
  have H3 := hide (Rdr.turns (w := w.drewN m2) (S := fun _ => False) (H.out.drewN m2) (Turns.of_below b3 _) (fun x => x))
  have HBY := hide hby3
  have HBLK := hide hblk3
  have T3 := hide ((turnsN (S := fun j => j = r) w m2).trans (Turns.of_below b3 _))
  clear hby3 hblk3 b3
  go_wp2_with fail
  refine (skip_any r p i m e w3 H3.out (by omega)).mono ?_
  rintro e' w4 ⟨⟨v, rfl⟩, h4, t4⟩
  have H4 := hide h4
  have T4 := hide t4
  clear h4 t4
  go_wp2_with fail
  go_ret
  have hb : NB w3 w.heap.size a3 := HBLK.out
  have hb2 : NB w4 w.heap.size a3 := fun x e => by
    obtain ⟨h1, cs, z, h2⟩ := hb x e
    exact ⟨h1, cs, z, T4.out.heap h2 (by omega)⟩
  exact ⟨a3, c3, rfl, HBY.out.turns T4.out (fun x n c e => by cases e; have := (hb x rfl).1; show ¬ x.block = r; omega), hb2, H4.out, T3.out.trans T4.out⟩
end Go.Proofs.YtmmcikbedegigaaGreat

/-
  The reader's pieces.
-/
namespace Go.Proofs.YtmmcikbedegigaaGreat
open Go.RowKit
set_option maxRecDepth 100000
set_option maxHeartbeats 4000000
/-- A reader of which those bytes are left. -/
def RdrL (w : World) (r : Nat) (p rest : List (BitVec 8)) (e : Int) : Prop := ∃ i, i ≤ p.length ∧ p.drop i = rest ∧ Rdr w r p i e
/-- What Piece does. -/
def PieceOk (r : Nat) (p : List (BitVec 8)) (W : Nat) (e : Ending) (w' : World) : Except Int (List (BitVec 8) × List (BitVec 8)) → Prop
  | .error z => e = .returned (.slice none 0 0) ∧ z ≠ 0 ∧ ∃ rest, RdrL w' r p rest z
  | .ok (q, rest) => (∃ a' c', e = .returned (.slice a' q.length c') ∧ Bytes w' (.slice a' q.length c') q ∧ NB w' W a') ∧ RdrL w' r p rest 0
theorem piece_any (r : Nat) (p rest : List (BitVec 8)) (w : World) (h : RdrL w r p rest 0) (hp : p.length ≤ 1000000) :
    Calls Tryz.prog 89 #[.pointer (some ⟨r, 0, none⟩)] w fun e w' => PieceOk r p w.heap.size e w' (rdPiece rest) ∧ Turns (fun j => j = r) w w' := by
  obtain ⟨i, hi, rfl, h⟩ := h
  have H := hide h
  clear h
  go_enter Tryz.func89, Tryz.ntmps89
  go_wp2_with fail
  refine (ready_any r p i 0 w H.out).mono ?_
  rintro e w1 ⟨rfl, m, rfl⟩
  rw [decide_eq_true rfl]
  go_wp2_with fail
  refine (rest_any r p i 0 (w.drewN m) (H.out.drewN m) hi).mono ?_
  rintro e w2 ⟨a', c', rfl, hb, hc, m2, hw2⟩
  rw [World.drewN_drewN] at hw2
  subst hw2
  go_wp2_with fail
  refine (readShort_any a' (p.length - i) c' (p.drop i) _ hb (by omega)).mono ?_
  rintro e w3 ⟨rfl, m3, hw3⟩
  rw [World.drewN_drewN] at hw3
  subst hw3
  have H3 := hide (H.out.drewN (m + m2 + m3))
  have T3 := hide (turnsN (S := fun j => j = r) w (m + m2 + m3))
  have hsz : (w.drewN (m + m2 + m3)).heap.size = w.heap.size := rfl
  have HSZ := hide hsz
  clear hb hsz
  generalize w.drewN (m + m2 + m3) = w3 at *
  have fz := H3.out.frozen
  obtain ⟨a, c, c0, c1, c2, c3⟩ := H3.out.cells
  cases hq : rdShort (p.drop i) with
  | error z =>
    have hz : z = 4 ∨ z = 12 := rdShort_err hq
    have hres : rdPiece (p.drop i) = .error z := by unfold rdPiece; rw [hq]
    have HQ := hide hres
    clear hq hres
    simp only [rdVal]
    rcases hz with rfl | rfl
    all_goals go_wp2_with fail
    all_goals go_ret
    all_goals exact ⟨by rw [HQ.out]; exact ⟨rfl, by decide, _, i, hi, rfl, H3.out.setErr _⟩, T3.out.trans (turns_cell (Turns.refl (fun j => j = r) w3) 3 _)⟩
  | ok xk =>
    obtain ⟨x, k⟩ := xk
    have hk := rdShort_le hq
    have hxb := rdShort_bound hq
    rw [List.length_drop] at hk
    obtain ⟨hk0, hk1⟩ := hk
    have hL1 : p.length - i ≤ 1000000 := by omega
    simp only [rdVal]
    have HQ := hide hq
    clear hq
    by_cases hlong : 1048576 < x
    · have hlong' : (1048576 : Int) < (x : Int) := by omega
      have hres : rdPiece (p.drop i) = .error 3 := by unfold rdPiece; rw [HQ.out]; simp only; rw [if_pos hlong]
      have HR := hide hres
      clear hres
      go_wp2_with fail
      go_ret
      exact ⟨by rw [HR.out]; exact ⟨rfl, by decide, _, i, hi, rfl, H3.out.setErr _⟩, T3.out.trans (turns_cell (Turns.refl (fun j => j = r) w3) 3 _)⟩
    · have hlong' : ¬ (1048576 : Int) < (x : Int) := by omega
      go_wp2_with fail
      refine (left_any r p i 0 w3 H3.out hp hi).mono ?_
      rintro e w4 ⟨rfl, m4, hw4⟩
      have H4 := hide (H3.out.drewN m4)
      have T4 := hide (T3.out.drewN m4)
      subst hw4
      have HSZ4 : Hid ((w3.drewN m4).heap.size = w.heap.size) := HSZ.out
      clear c0 c1 c2 c3 fz
      generalize w3.drewN m4 = w4 at *
      have fz := H4.out.frozen
      obtain ⟨a4, c4, d0, d1, d2, d3⟩ := H4.out.cells
      by_cases hmore : p.length - i - k < x
      · have hmore' : ((p.length - i : Nat) : Int) - (k : Int) < (x : Int) := by omega
        have hres : rdPiece (p.drop i) = .error 12 := by
          unfold rdPiece; rw [HQ.out]; simp only; rw [if_neg hlong, if_pos (by rw [List.length_drop]; exact hmore)]
        have HR := hide hres
        clear hres
        generalize p.length - i = L at *
        go_wp2_with fail
        go_ret
        exact ⟨by rw [HR.out]; exact ⟨rfl, by decide, _, i, hi, rfl, H4.out.setErr _⟩, T4.out.trans (turns_cell (Turns.refl (fun j => j = r) w4) 3 _)⟩
      · have hmore' : ¬ ((p.length - i : Nat) : Int) - (k : Int) < (x : Int) := by omega
        have hres : rdPiece (p.drop i) = .ok (((p.drop i).drop k).take x, ((p.drop i).drop k).drop x) := by
          unfold rdPiece; rw [HQ.out]; simp only; rw [if_neg hlong, if_neg (by rw [List.length_drop]; exact hmore)]
        have HR := hide hres
        have hikx : i + k + x ≤ p.length := by omega
        clear hres hmore hlong
        generalize p.length - i = L at *
        go_wp2_with fail
        refine (skip_any r p i k 0 w4 H4.out (by omega)).mono ?_
        rintro e w5 ⟨⟨v, rfl⟩, h5, t5⟩
        have H5 := hide h5
        have T5 := hide (T4.out.trans t5)
        have hs5 := t5.size
        rw [HSZ4.out] at hs5
        have HS5 := hide hs5
        clear h5 t5 hs5
        go_wp2_with fail
        refine (take_any r p (i + k) x 0 w5 H5.out hp hikx).mono ?_
        rintro e w6 ⟨a6, c6, rfl, hb6, hk6, h6, t6⟩
        have H6 := hide h6
        have T6 := hide (T5.out.trans t6)
        have HB6 := hide hb6
        have HK6 := hide hk6
        clear h6 t6 hb6 hk6
        go_wp2_with fail
        go_ret
        have hlx : (((p.drop i).drop k).take x).length = x := by rw [List.length_take, List.length_drop, List.length_drop]; omega
        refine ⟨?_, T6.out⟩
        rw [HR.out]
        refine ⟨⟨a6, c6, by rw [hlx]; rfl, ?_, fun y e => ⟨Nat.le_trans HS5.out (HK6.out y e).1, (HK6.out y e).2⟩⟩, i + k + x, hikx, ?_, H6.out⟩
        · rw [hlx, List.drop_drop]
          exact HB6.out
        · rw [List.drop_drop, List.drop_drop, Nat.add_assoc]
end Go.Proofs.YtmmcikbedegigaaGreat

/-
  Parse.
-/
namespace Go.Proofs.YtmmcikbedegigaaGreat
open Go.RowKit
set_option maxRecDepth 100000
set_option maxHeartbeats 4000000
theorem clone_lt (a : Option Addr) (n c : Nat) (bs : List (BitVec 8)) (w : World) (h : Bytes w (.slice a n c) bs) (hn : n ≤ 1000000) :
    Calls Tryz.prog 28 #[.slice a n c] w fun e w' => ∃ a' c', e = .returned (.slice a' n c') ∧ Bytes w' (.slice a' n c') bs ∧ n ≤ c' ∧ (∀ x, a' = some x → w.heap.size ≤ x.block ∧ x.block < w'.heap.size) ∧ (a' = none → c' = 0) ∧ Below w.heap.size w w' := by
  have hl := h.len
  cases a with
  | none =>
    obtain rfl : n = 0 := by
      rcases Nat.eq_zero_or_pos n with h0 | h0
      · exact h0
      · obtain ⟨_, _, e⟩ := h.addr h0; cases e
    obtain rfl : bs = [] := List.eq_nil_of_length_eq_zero hl.symm
    clear h hl
    have he : (binOp .eql 38 (.slice none 0 c) (.slice none 0 0)).run Tryz.prog w = .ok (.bool true) w := nil_eql none 0 c w
    go_enter Tryz.func28, Tryz.ntmps28
    go_wp2_with fail
    go_ret
    exact ⟨none, 0, rfl, Bytes.empty _, Nat.le_refl _, fun x e => (by cases e), fun _ => rfl, Below.refl _ _⟩
  | some ad =>
    have hb : Below w.heap.size w (w.alloc (.cells #[] 5)) := (Below.refl _ _).alloc (Nat.le_refl _) _
    obtain ⟨g, c2, w2, hr, hg, hrow, hb2, hc, _⟩ := append_bytes2 (w.alloc (.cells #[] 5)) w.heap.size (some ⟨w.heap.size, 0, none⟩) 0 0 [] rfl (.slice (some ad) n c) bs n hl (h.below hb) (by simp)
      (.inr ⟨_, rfl, Nat.le_refl _, Nat.le_refl _, #[], heap_alloc_new w _, Nat.le_refl _, fun k hk => by simp [cellsOf] at hk⟩) (by omega)
    rw [Nat.zero_add] at hr hc
    rw [List.nil_append] at hrow
    have HR := hide hr
    have HW := hide (RowB.bytes (c' := c2) hrow hl)
    have hgl : g < w2.heap.size := by obtain ⟨cs, h1, _⟩ := hrow; exact lt_of_heap h1
    have HB := hide (hb.trans hb2)
    clear hr hrow hb hb2 h hl
    have he : (binOp .eql 38 (.slice (some ad) n c) (.slice none 0 0)).run Tryz.prog w = .ok (.bool false) w := nil_eql (some ad) n c w
    go_enter Tryz.func28, Tryz.ntmps28
    go_wp2_with (at_builtin; refine wpList_append_run rfl _ _ 38 rfl (.slice (some ⟨w.heap.size, 0, none⟩) 0 0) (.slice (some ad) n c) rfl rfl _ _ (HR.out _) ?_)
    go_ret
    exact ⟨_, c2, rfl, HW.out, hc, fun x e => by cases e; exact ⟨hg, hgl⟩, fun e => (by cases e), HB.out⟩
theorem new_any (a : Option Addr) (n c : Nat) (p : List (BitVec 8)) (w : World) (h : Bytes w (.slice a n c) p) (hn : n ≤ 1000000) :
    Calls Tryz.prog 31 #[.slice a n c] w fun e w' => ∃ r, e = .returned (.pointer (some ⟨r, 0, none⟩)) ∧ w.heap.size ≤ r ∧ Rdr w' r p 0 0 ∧ Below w.heap.size w w' := by
  have hl := h.len
  have H := hide h
  have HL := hide hl
  clear h hl
  go_enter Tryz.func31, Tryz.ntmps31
  go_wp2_with fail
  refine (clone_lt a n c p _ H.out hn).mono ?_
  rintro e w1 ⟨a1, c1, rfl, hb1, hc1, hk1, hn1, b1⟩
  have HB1 := hide hb1
  have HK1 := hide hk1
  have B1 := hide b1
  clear hb1 hk1 b1
  go_wp2_with fail
  go_ret
  have b2 := (Below.refl w1.heap.size w1).alloc (Nat.le_refl _) (.cells #[.slice a1 n c1, .int .i64 0, .bool true, .int .i64 0] 114)
  have n2 := heap_alloc_new w1 (.cells #[.slice a1 n c1, .int .i64 0, .bool true, .int .i64 0] 114)
  refine ⟨w1.heap.size, rfl, B1.out.size, ⟨a1, c1, ?_, ?_, by rw [← HL.out]; exact hc1, ?_, fun x e => (HK1.out x e).2⟩, B1.out.trans (b2.mono B1.out.size)⟩
  · rw [← HL.out]; exact n2
  · rw [← HL.out]; exact HB1.out.below b2
  · exact hn1
theorem number_err (r : Nat) (p : List (BitVec 8)) (i : Nat) (z : Int) (hz : z ≠ 0) (w : World) (h : Rdr w r p i z) :
    Calls Tryz.prog 64 #[.pointer (some ⟨r, 0, none⟩)] w fun e w' => e = .returned (.int .u64 0) ∧ ∃ m, w' = w.drewN m := by
  have H := hide h
  clear h
  go_enter Tryz.func64, Tryz.ntmps64
  go_wp2_with fail
  refine (ready_any r p i z w H.out).mono ?_
  rintro e w1 ⟨rfl, m, rfl⟩
  rw [decide_eq_false hz]
  go_wp2_with fail
  go_ret
  exact ⟨rfl, m, rfl⟩
end Go.Proofs.YtmmcikbedegigaaGreat
