/-
  Frames as lists of bytes: what a frame's bytes are, what is wrong with a row's first frame, and which frames a row has.
-/
import Derived.Test.YtpighnknldhigaaBase
namespace Go.Proofs.Ytpighnknldhigaa
namespace Fr

/-- A word's bytes, the lowest first. -/
def four (x : BitVec 32) : List (BitVec 8) := [x.setWidth 8, (x >>> 8).setWidth 8, (x >>> 16).setWidth 8, (x >>> 24).setWidth 8]
theorem four_length (x : BitVec 32) : (four x).length = 4 := rfl
theorem four_inj {x y : BitVec 32} (h : four x = four y) : x = y := by
  simp only [four, List.cons.injEq, and_true] at h
  obtain ⟨h0, h1, h2, h3⟩ := h
  have e0 := congrArg BitVec.toNat h0
  have e1 := congrArg BitVec.toNat h1
  have e2 := congrArg BitVec.toNat h2
  have e3 := congrArg BitVec.toNat h3
  simp only [BitVec.toNat_setWidth, BitVec.toNat_ushiftRight, Nat.shiftRight_eq_div_pow] at e0 e1 e2 e3
  have := x.isLt
  have := y.isLt
  apply BitVec.eq_of_toNat_eq
  omega
theorem mask_inj {x y : BitVec 32} (h : mask x = mask y) : x = y := by
  rw [← unmask_mask x, ← unmask_mask y, h]

/-- The masked sum, as four bytes. -/
def msum (bs : List (BitVec 8)) : List (BitVec 8) := four (mask (Crc32.sum bs))
theorem msum_length (bs : List (BitVec 8)) : (msum bs).length = 4 := rfl
theorem msum_ne {x y : List (BitVec 8)} (h : Crc32.sum x ≠ Crc32.sum y) : msum x ≠ msum y := fun e => h (mask_inj (four_inj e))

def plain (k : BitVec 8) (n : Nat) : List (BitVec 8) := [k, BitVec.ofNat 8 n, BitVec.ofNat 8 (n / 256), BitVec.ofNat 8 (n / 65536)]
def headB (k : BitVec 8) (n : Nat) : List (BitVec 8) := plain k n ++ msum (plain k n)
def frameB (k : BitVec 8) (body : List (BitVec 8)) : List (BitVec 8) := headB k body.length ++ (body ++ msum body)
theorem headB_length (k : BitVec 8) (n : Nat) : (headB k n).length = 8 := rfl
theorem frameB_length (k : BitVec 8) (body : List (BitVec 8)) : (frameB k body).length = body.length + 12 := by
  simp only [frameB, List.length_append, headB_length, msum_length]
  omega

def lenOf (bs : List (BitVec 8)) : Nat := (bs.getD 1 0).toNat + 256 * (bs.getD 2 0).toNat + 65536 * (bs.getD 3 0).toNat
def bodyOf (bs : List (BitVec 8)) : List (BitVec 8) := (bs.drop 8).take (lenOf bs)
theorem lenOf_lt (bs : List (BitVec 8)) : lenOf bs < 16777216 := by
  have := (bs.getD 1 0).isLt
  have := (bs.getD 2 0).isLt
  have := (bs.getD 3 0).isLt
  unfold lenOf
  omega
/-- What is wrong with the frame that stands first. -/
def fault (bs : List (BitVec 8)) : Nat :=
  if bs.length < 8 then 12
  else if (bs.drop 4).take 4 ≠ msum (bs.take 4) then 4
  else if 1048576 < lenOf bs then 3
  else if bs.length < lenOf bs + 12 then 12
  else if (bs.drop (8 + lenOf bs)).take 4 ≠ msum (bodyOf bs) then 4
  else 0

/-- All frames of a row, where it is torn, and why. -/
def row (bs : List (BitVec 8)) : List (BitVec 8 × List (BitVec 8)) × Nat × Nat :=
  if bs.length = 0 then ([], 0, 0)
  else if fault bs ≠ 0 then ([], 0, fault bs)
  else
    let r := row (bs.drop (lenOf bs + 12))
    ((bs.getD 0 0, bodyOf bs) :: r.1, lenOf bs + 12 + r.2.1, r.2.2)
termination_by bs.length
decreasing_by simp only [List.length_drop]; omega

theorem row_nil : row [] = ([], 0, 0) := by rw [row]; rfl
theorem row_torn {bs : List (BitVec 8)} (h : bs.length ≠ 0) (hf : fault bs ≠ 0) : row bs = ([], 0, fault bs) := by rw [row, if_neg h, if_pos hf]
theorem row_step {bs : List (BitVec 8)} (h : bs.length ≠ 0) (hf : fault bs = 0) :
    row bs = ((bs.getD 0 0, bodyOf bs) :: (row (bs.drop (lenOf bs + 12))).1, lenOf bs + 12 + (row (bs.drop (lenOf bs + 12))).2.1, (row (bs.drop (lenOf bs + 12))).2.2) := by
  rw [row, if_neg h, if_neg (by simp [hf])]

theorem fault_len {bs : List (BitVec 8)} (h : fault bs = 0) : lenOf bs + 12 ≤ bs.length ∧ lenOf bs ≤ 1048576 := by
  unfold fault at h
  repeat' split at h
  all_goals first | omega | (exfalso; omega)

/-- The row of frames, one behind the other. -/
def rowB (l : List (BitVec 8 × List (BitVec 8))) : List (BitVec 8) := l.flatMap fun f => frameB f.1 f.2
theorem rowB_nil : rowB [] = [] := rfl
theorem rowB_cons (f : BitVec 8 × List (BitVec 8)) (l : List (BitVec 8 × List (BitVec 8))) : rowB (f :: l) = frameB f.1 f.2 ++ rowB l := rfl
theorem rowB_snoc (l : List (BitVec 8 × List (BitVec 8))) (f : BitVec 8 × List (BitVec 8)) : rowB (l ++ [f]) = rowB l ++ frameB f.1 f.2 := by simp [rowB]

/-- The head of a frame, with anything behind. -/
theorem len_plain (k : BitVec 8) (n : Nat) (h : n < 16777216) (t : List (BitVec 8)) : lenOf (plain k n ++ t) = n := by
  simp only [lenOf, plain, List.cons_append, List.getD_cons_succ, List.getD_cons_zero, BitVec.toNat_ofNat]
  omega
theorem frame_eq (k : BitVec 8) (body : List (BitVec 8)) : frameB k body = plain k body.length ++ (msum (plain k body.length) ++ (body ++ msum body)) := by
  simp only [frameB, headB, List.append_assoc]

theorem of_four {l : List (BitVec 8)} (h : l.length = 4) : ∃ a b c d, l = [a, b, c, d] := by
  match l, h with
  | [a, b, c, d], _ => exact ⟨a, b, c, d, rfl⟩

/-- Four parts, as a frame has them. -/
theorem fault_parts (p s body t rest : List (BitVec 8)) (hp : p.length = 4) (hs : s.length = 4) (ht : t.length = 4) (hl : lenOf p = body.length) (hb : body.length ≤ 1048576) :
    fault (p ++ (s ++ (body ++ (t ++ rest)))) = if s ≠ msum p then 4 else if t ≠ msum body then 4 else 0 := by
  obtain ⟨p0, p1, p2, p3, rfl⟩ := of_four hp
  obtain ⟨s0, s1, s2, s3, rfl⟩ := of_four hs
  have hl' : lenOf ([p0, p1, p2, p3] ++ ([s0, s1, s2, s3] ++ (body ++ (t ++ rest)))) = body.length := hl
  unfold fault bodyOf
  rw [hl']
  have e1 : ¬ ([p0, p1, p2, p3] ++ ([s0, s1, s2, s3] ++ (body ++ (t ++ rest)))).length < 8 := by simp only [List.length_append, List.length_cons, List.length_nil]; omega
  have e2 : ¬ ([p0, p1, p2, p3] ++ ([s0, s1, s2, s3] ++ (body ++ (t ++ rest)))).length < body.length + 12 := by simp only [List.length_append, List.length_cons, List.length_nil]; omega
  have e3 : (([p0, p1, p2, p3] ++ ([s0, s1, s2, s3] ++ (body ++ (t ++ rest)))).drop 8).take body.length = body := by
    show (body ++ (t ++ rest)).take body.length = body
    rw [List.take_left]
  have e4 : (([p0, p1, p2, p3] ++ ([s0, s1, s2, s3] ++ (body ++ (t ++ rest)))).drop (8 + body.length)).take 4 = t := by
    rw [← List.drop_drop]
    show (((body ++ (t ++ rest))).drop body.length).take 4 = t
    rw [List.drop_left, ← ht, List.take_left]
  rw [if_neg e1, e3, e4, if_neg (show ¬ 1048576 < body.length by omega), if_neg e2]
  rfl

theorem fault_head (p s t : List (BitVec 8)) (hp : p.length = 4) (hs : s.length = 4) (h : s ≠ msum p) : fault (p ++ (s ++ t)) = 4 := by
  obtain ⟨p0, p1, p2, p3, rfl⟩ := of_four hp
  obtain ⟨s0, s1, s2, s3, rfl⟩ := of_four hs
  unfold fault
  rw [if_neg (by simp only [List.length_append, List.length_cons, List.length_nil]; omega)]
  have e : ((([p0, p1, p2, p3] ++ ([s0, s1, s2, s3] ++ t)).drop 4).take 4 ≠ msum (([p0, p1, p2, p3] ++ ([s0, s1, s2, s3] ++ t)).take 4)) := h
  rw [if_pos e]

theorem lenOf_plain (k : BitVec 8) (n : Nat) (h : n < 16777216) : lenOf (plain k n) = n := by
  have := len_plain k n h []
  rwa [List.append_nil] at this

theorem fault_frame (k : BitVec 8) (body rest : List (BitVec 8)) (h : body.length ≤ 1048576) : fault (frameB k body ++ rest) = 0 := by
  rw [frame_eq, List.append_assoc, List.append_assoc, List.append_assoc, fault_parts _ _ _ _ _ rfl rfl rfl (lenOf_plain k _ (by omega)) h]
  simp
theorem frame_len (k : BitVec 8) (body rest : List (BitVec 8)) (h : body.length ≤ 1048576) : lenOf (frameB k body ++ rest) = body.length := by
  rw [frame_eq, List.append_assoc]
  exact len_plain k _ (by omega) _
theorem frame_body (k : BitVec 8) (body rest : List (BitVec 8)) (h : body.length ≤ 1048576) : bodyOf (frameB k body ++ rest) = body := by
  unfold bodyOf
  rw [frame_len k body rest h, frameB, List.append_assoc, List.append_assoc]
  show (body ++ (msum body ++ rest)).take body.length = body
  rw [List.take_left]
theorem row_frame (k : BitVec 8) (body rest : List (BitVec 8)) (h : body.length ≤ 1048576) :
    row (frameB k body ++ rest) = ((k, body) :: (row rest).1, body.length + 12 + (row rest).2.1, (row rest).2.2) := by
  rw [row_step (by rw [List.length_append, frameB_length]; omega) (fault_frame k body rest h), frame_len k body rest h, frame_body k body rest h]
  rw [show (frameB k body ++ rest).drop (body.length + 12) = rest by rw [← frameB_length k body, List.drop_left]]
  rfl

/-- A frame that is cut. -/
theorem fault_cut (k : BitVec 8) (body : List (BitVec 8)) (h : body.length ≤ 1048576) (n : Nat) (hn : n < body.length + 12) : fault ((frameB k body).take n) = 12 := by
  unfold fault
  have hlen : ((frameB k body).take n).length = n := by rw [List.length_take, frameB_length]; omega
  rw [hlen]
  by_cases h8 : n < 8
  · rw [if_pos h8]
  · have hsp : (frameB k body).take n = headB k body.length ++ (body ++ msum body).take (n - 8) := by
      rw [frameB, List.take_append, headB_length, List.take_of_length_le (by rw [headB_length]; omega)]
    have hl : lenOf ((frameB k body).take n) = body.length := by
      rw [hsp, headB, List.append_assoc]
      exact len_plain k _ (by omega) _
    rw [if_neg h8, hl, if_neg (by rw [hsp]; simp [headB, plain, msum, four]), if_neg (by omega), if_pos hn]

/-- How many frames are whole ahead of a cut, and where the last one ends. -/
def wholes : List (BitVec 8 × List (BitVec 8)) → Nat → Nat
  | [], _ => 0
  | f :: l, k => if k < f.2.length + 12 then 0 else 1 + wholes l (k - (f.2.length + 12))

theorem row_cut (l : List (BitVec 8 × List (BitVec 8))) (hl : ∀ f ∈ l, f.2.length ≤ 1048576) : ∀ k, k ≤ (rowB l).length →
    row ((rowB l).take k) = (l.take (wholes l k), (rowB (l.take (wholes l k))).length, if k = (rowB (l.take (wholes l k))).length then 0 else 12) := by
  induction l with
  | nil =>
    intro k hk
    have : k = 0 := by simpa [rowB] using hk
    subst this
    simp [rowB, row_nil, wholes]
  | cons f l ih =>
    intro k hk
    have hf := hl f (by simp)
    rw [rowB_cons] at hk ⊢
    rw [List.length_append, frameB_length] at hk
    by_cases hlt : k < f.2.length + 12
    · rw [wholes, if_pos hlt, List.take_append_of_le_length (by rw [frameB_length]; omega)]
      rcases Nat.eq_zero_or_pos k with rfl | h0
      · simp [row_nil, rowB_nil]
      · have hfa := fault_cut f.1 f.2 hf k hlt
        rw [row_torn (by rw [List.length_take, frameB_length]; omega) (by rw [hfa]; omega), hfa]
        have hk0 : k ≠ 0 := by omega
        simp [rowB_nil, hk0]
    · rw [wholes, if_neg hlt, List.take_append, frameB_length, List.take_of_length_le (by rw [frameB_length]; omega), row_frame _ _ _ hf, ih (fun g hg => hl g (by simp [hg])) _ (by omega), Nat.add_comm 1, List.take_succ_cons, rowB_cons, List.length_append, frameB_length]
      simp only [Prod.mk.injEq, true_and]
      by_cases e : k - (f.2.length + 12) = (rowB (l.take (wholes l (k - (f.2.length + 12))))).length
      · rw [if_pos e, if_pos (by omega)]
      · rw [if_neg e, if_neg (by omega)]

theorem turn_left (a b : List (BitVec 8)) (p : Nat) (h : p / 8 < a.length) : Crc32.turn (a ++ b) p = Crc32.turn a p ++ b := by
  unfold Crc32.turn
  apply List.ext_getElem?
  intro i
  simp only [List.getElem?_modify, List.getElem?_append, List.length_modify, Option.map_eq_map]
  by_cases hi : i < a.length
  · rw [if_pos hi, if_pos hi]
  · rw [if_neg hi, if_neg hi]
    simp only [show ¬ p / 8 = i by omega, if_false]
    cases b[i - a.length]? <;> rfl
theorem turn_right (a b : List (BitVec 8)) (p : Nat) (h : 8 * a.length ≤ p) : Crc32.turn (a ++ b) p = a ++ Crc32.turn b (p - 8 * a.length) := by
  unfold Crc32.turn
  apply List.ext_getElem?
  intro i
  simp only [List.getElem?_modify, List.getElem?_append, Option.map_eq_map]
  by_cases hi : i < a.length
  · rw [if_pos hi, if_pos hi]
    simp only [show ¬ p / 8 = i by omega, if_false]
    cases a[i]? <;> rfl
  · rw [if_neg hi, if_neg hi, show (p - 8 * a.length) % 8 = p % 8 by omega]
    by_cases e : p / 8 = i
    · simp only [e, show (p - 8 * a.length) / 8 = i - a.length by omega, if_true]
    · simp only [e, show ¬ (p - 8 * a.length) / 8 = i - a.length by omega, if_false]
theorem turn_ne (a : List (BitVec 8)) (p : Nat) (h : p / 8 < a.length) : Crc32.turn a p ≠ a := by
  intro e
  have e2 := congrArg (fun l => l[p / 8]?) e
  simp only [Crc32.turn, List.getElem?_modify, List.getElem?_eq_getElem h] at e2
  simp only [if_true, Option.map_eq_map, Option.map_some, Option.some.injEq] at e2
  have h3 : (1#8 <<< (p % 8)) = 0#8 := by
    have := congrArg (fun z => a[p / 8] ^^^ z) e2
    simpa [← BitVec.xor_assoc] using this
  have : ∀ r : Fin 8, (1#8 <<< r.val) ≠ 0#8 := by decide
  exact this ⟨p % 8, by omega⟩ h3
theorem turn_sum (a : List (BitVec 8)) (p : Nat) (h : p / 8 < a.length) : Crc32.sum (Crc32.turn a p) ≠ Crc32.sum a := by
  refine Crc32.sum_sees a (Crc32.turn a p) (8 * a.length - p) (1#32) (by decide) ?_
  have e := Crc32.upd_turn (~~~0#32) a p 0 (by omega) (by omega)
  exact e
/-- One bit of a frame is turned: it is not whole. -/
theorem fault_turn (k : BitVec 8) (body rest : List (BitVec 8)) (h : body.length ≤ 1048576) (p : Nat) (hp : p / 8 < body.length + 12) : fault (Crc32.turn (frameB k body ++ rest) p) ≠ 0 := by
  rw [frame_eq, List.append_assoc, List.append_assoc, List.append_assoc]
  by_cases h4 : p / 8 < 4
  · rw [turn_left _ _ _ (show p / 8 < (plain k body.length).length from h4)]
    have hne := turn_sum (plain k body.length) p h4
    have hm := msum_ne hne
    rw [fault_head _ _ _ (by rw [Crc32.turn_length]; rfl) rfl (fun e => hm e.symm)]
    omega
  · rw [turn_right _ _ _ (show 8 * (plain k body.length).length ≤ p by show 8 * 4 ≤ p; omega)]
    rw [show (plain k body.length).length = 4 from rfl]
    have hlp := lenOf_plain k body.length (by omega)
    by_cases h8 : p / 8 < 8
    · rw [turn_left _ _ _ (show (p - 8 * 4) / 8 < (msum (plain k body.length)).length by rw [msum_length]; omega)]
      rw [fault_parts _ _ _ _ _ rfl (by rw [Crc32.turn_length]; rfl) rfl hlp h, if_pos (turn_ne _ _ (by rw [msum_length]; omega))]
      omega
    · rw [turn_right _ _ _ (by rw [msum_length]; omega), msum_length]
      by_cases hb : p / 8 < 8 + body.length
      · rw [turn_left _ _ _ (show (p - 8 * 4 - 8 * 4) / 8 < body.length by omega)]
        rw [fault_parts _ _ _ _ _ rfl rfl rfl (by rw [Crc32.turn_length]; exact hlp) (by rw [Crc32.turn_length]; exact h)]
        have := msum_ne (turn_sum body (p - 8 * 4 - 8 * 4) (by omega))
        rw [if_neg (by simp), if_pos (fun e => this e.symm)]
        omega
      · rw [turn_right _ _ _ (by omega), turn_left _ _ _ (by rw [msum_length]; omega)]
        rw [fault_parts _ _ _ _ _ rfl rfl (by rw [Crc32.turn_length]; rfl) hlp h, if_neg (by simp), if_pos (turn_ne _ _ (by rw [msum_length]; omega))]
        omega

theorem row_turn (l : List (BitVec 8 × List (BitVec 8))) (hl : ∀ f ∈ l, f.2.length ≤ 1048576) : ∀ p, p / 8 < (rowB l).length →
    (row (Crc32.turn (rowB l) p)).1 = l.take (wholes l (p / 8)) ∧ (row (Crc32.turn (rowB l) p)).2.2 ≠ 0 := by
  induction l with
  | nil => intro p hp; simp [rowB] at hp
  | cons f l ih =>
    intro p hp
    have hf := hl f (by simp)
    rw [rowB_cons] at hp ⊢
    rw [List.length_append, frameB_length] at hp
    by_cases hlt : p / 8 < f.2.length + 12
    · have hfa := fault_turn f.1 f.2 (rowB l) hf p hlt
      rw [wholes, if_pos hlt, row_torn (by rw [Crc32.turn_length, List.length_append, frameB_length]; omega) hfa]
      exact ⟨rfl, hfa⟩
    · rw [wholes, if_neg hlt, turn_right _ _ _ (by rw [frameB_length]; omega), row_frame _ _ _ hf, frameB_length]
      have := ih (fun g hg => hl g (by simp [hg])) (p - 8 * (f.2.length + 12)) (by omega)
      rw [show (p - 8 * (f.2.length + 12)) / 8 = p / 8 - (f.2.length + 12) by omega] at this
      refine ⟨?_, this.2⟩
      rw [Nat.add_comm 1, List.take_succ_cons, this.1]

end Fr
end Go.Proofs.Ytpighnknldhigaa
