/-
  Short numbers, pieces, writes and batches as bytes: plain mathematics.
-/
import Derived.Test.YtkeglaplckfllaaV1
namespace Go.Proofs.Ytkeglaplckfllaa

/-- A short number. -/
def short (n : Nat) : List (BitVec 8) := if n < 128 then [BitVec.ofNat 8 n] else BitVec.ofNat 8 (n % 128 + 128) :: short (n / 128)
termination_by n
decreasing_by omega
theorem short_lt {n : Nat} (h : n < 128) : short n = [BitVec.ofNat 8 n] := by rw [short, if_pos h]
theorem short_ge {n : Nat} (h : ¬ n < 128) : short n = BitVec.ofNat 8 (n % 128 + 128) :: short (n / 128) := by rw [short, if_neg h]
theorem short_ne (n : Nat) : short n ≠ [] := by
  rw [short]
  split <;> simp

/-- What a reader of short numbers does behind i bytes that told x. -/
def rdGo (x i : Nat) (l : List (BitVec 8)) : Except Int (Nat × Nat) :=
  match l with
  | [] => .error 12
  | b :: r =>
    if i = 9 ∧ 1 < b.toNat then .error 4
    else if 0 < i ∧ b.toNat = 0 then .error 4
    else if b.toNat < 128 then .ok (x + b.toNat * 2 ^ (7 * i), i + 1)
    else rdGo (x + (b.toNat - 128) * 2 ^ (7 * i)) (i + 1) r
def rdShort (l : List (BitVec 8)) : Except Int (Nat × Nat) := rdGo 0 0 l

theorem rdGo_short : ∀ (n : Nat) (x i : Nat) (r : List (BitVec 8)), n * 2 ^ (7 * i) < 2 ^ 64 → (0 < i → 0 < n) → rdGo x i (short n ++ r) = .ok (x + n * 2 ^ (7 * i), i + (short n).length) := by
  intro n
  induction n using Nat.strongRecOn with
  | ind n ih =>
    intro x i r hb hi
    have hi9 : i ≤ 9 := by
      rcases Nat.lt_or_ge 9 i with h | h
      · have : 2 ^ (7 * 10) ≤ 2 ^ (7 * i) := Nat.pow_le_pow_right (by decide) (by omega)
        have := Nat.mul_le_mul (hi (by omega)) this
        omega
      · exact h
    by_cases hn : n < 128
    · rw [short_lt hn]
      have e : (BitVec.ofNat 8 n).toNat = n := by simp; omega
      simp only [List.cons_append, List.nil_append, rdGo, e, List.length_singleton]
      rw [if_neg, if_neg, if_pos hn]
      · omega
      · rintro ⟨rfl, h⟩
        omega
    · rw [short_ge hn]
      have e : (BitVec.ofNat 8 (n % 128 + 128)).toNat = n % 128 + 128 := by simp; omega
      have h9 : i ≠ 9 := by
        rintro rfl
        have : 128 * 2 ^ (7 * 9) ≤ n * 2 ^ (7 * 9) := Nat.mul_le_mul_right _ (by omega)
        omega
      simp only [List.cons_append, rdGo, e, List.length_cons]
      have h7 : 2 ^ (7 * (i + 1)) = 128 * 2 ^ (7 * i) := by rw [Nat.mul_add, Nat.pow_add, Nat.mul_comm]
      have hq : n / 128 * 2 ^ (7 * (i + 1)) ≤ n * 2 ^ (7 * i) := by
        rw [h7, ← Nat.mul_assoc]
        exact Nat.mul_le_mul_right _ (by omega)
      rw [if_neg (by omega), if_neg (by omega), if_neg (by omega), ih (n / 128) (by omega) _ (i + 1) r (by omega) (by omega)]
      congr 2
      · have hd : n % 128 + 128 * (n / 128) = n := Nat.mod_add_div n 128
        rw [h7, show n / 128 * (128 * 2 ^ (7 * i)) = (128 * (n / 128)) * 2 ^ (7 * i) by rw [← Nat.mul_assoc, Nat.mul_comm (n / 128)], Nat.add_sub_cancel, Nat.add_assoc, ← Nat.add_mul, hd]
      · rw [Nat.add_assoc, Nat.add_comm 1]
theorem rdShort_short (n : Nat) (h : n < 2 ^ 64) (r : List (BitVec 8)) : rdShort (short n ++ r) = .ok (n, (short n).length) := by
  have := rdGo_short n 0 0 r (by rw [Nat.mul_zero, Nat.pow_zero, Nat.mul_one]; exact h) (by omega)
  rw [Nat.mul_zero, Nat.pow_zero, Nat.mul_one, Nat.zero_add, Nat.zero_add] at this
  exact this
/-- What is read is shorter than what there is. -/
theorem rdGo_le : ∀ (l : List (BitVec 8)) (x i y n : Nat), rdGo x i l = .ok (y, n) → i < n ∧ n ≤ i + l.length
  | [], x, i, y, n, h => by simp [rdGo] at h
  | b :: r, x, i, y, n, h => by
    simp only [rdGo] at h
    split at h
    · cases h
    · split at h
      · cases h
      · split at h
        · simp only [Except.ok.injEq, Prod.mk.injEq] at h
          simp only [List.length_cons]
          omega
        · have := rdGo_le r _ _ _ _ h
          simp only [List.length_cons]
          omega
theorem rdShort_le {l : List (BitVec 8)} {y n : Nat} (h : rdShort l = .ok (y, n)) : 0 < n ∧ n ≤ l.length := by
  have := rdGo_le l _ _ _ _ h
  omega
/-- The bits that are told stay below the bits to come. -/
theorem rdGo_bound : ∀ (l : List (BitVec 8)) (x i y n : Nat), x < 2 ^ (7 * i) → i ≤ 9 → rdGo x i l = .ok (y, n) → y < 2 ^ 64
  | [], x, i, y, n, _, _, h => by simp [rdGo] at h
  | b :: r, x, i, y, n, hx, hi, h => by
    have hb := b.isLt
    have h7 : 2 ^ (7 * (i + 1)) = 128 * 2 ^ (7 * i) := by rw [Nat.mul_add, Nat.pow_add, Nat.mul_comm]
    simp only [rdGo] at h
    split at h
    · cases h
    · rename_i h1
      split at h
      · cases h
      · split at h
        · simp only [Except.ok.injEq, Prod.mk.injEq] at h
          rcases Nat.lt_or_ge i 9 with h9 | h9
          · have hm : (b.toNat + 1) * 2 ^ (7 * i) ≤ 128 * 2 ^ (7 * i) := Nat.mul_le_mul_right _ (by omega)
            have hp : 128 * 2 ^ (7 * i) ≤ 2 ^ 63 := by rw [← h7]; exact Nat.pow_le_pow_right (by decide) (by omega)
            rw [Nat.add_mul] at hm
            omega
          · obtain rfl : i = 9 := by omega
            have : b.toNat ≤ 1 := by omega
            have hm : b.toNat * 2 ^ (7 * 9) ≤ 1 * 2 ^ (7 * 9) := Nat.mul_le_mul_right _ this
            omega
        · rename_i h3
          have h9 : i < 9 := by
            rcases Nat.lt_or_ge i 9 with h9 | h9
            · exact h9
            · omega
          refine rdGo_bound r _ (i + 1) _ _ ?_ (by omega) h
          have hm : (b.toNat - 128 + 1) * 2 ^ (7 * i) ≤ 128 * 2 ^ (7 * i) := Nat.mul_le_mul_right _ (by omega)
          rw [Nat.add_mul] at hm
          omega
theorem rdShort_bound {l : List (BitVec 8)} {y n : Nat} (h : rdShort l = .ok (y, n)) : y < 2 ^ 64 := rdGo_bound l 0 0 y n (by decide) (by decide) h

/-- A piece, read. -/
def rdPiece (l : List (BitVec 8)) : Except Int (List (BitVec 8) × List (BitVec 8)) :=
  match rdShort l with
  | .error e => .error e
  | .ok (m, n) => if 1048576 < m then .error 3 else if l.length - n < m then .error 12 else .ok ((l.drop n).take m, (l.drop n).drop m)
def pieceB (p : List (BitVec 8)) : List (BitVec 8) := short p.length ++ p
theorem rdPiece_ok (p r : List (BitVec 8)) (h : p.length ≤ 1048576) : rdPiece (pieceB p ++ r) = .ok (p, r) := by
  unfold rdPiece pieceB
  rw [List.append_assoc, rdShort_short _ (by omega)]
  simp only
  rw [if_neg (by omega), if_neg (by simp)]
  rw [List.drop_left]
  simp
/-- A piece whose last byte is gone. -/
theorem rdPiece_cut (p : List (BitVec 8)) (h : p.length ≤ 1048576) : rdPiece (pieceB p).dropLast = .error 12 := by
  unfold rdPiece pieceB
  rcases Nat.eq_zero_or_pos p.length with h0 | h0
  · obtain rfl : p = [] := by simpa using h0
    rw [List.length_nil, short_lt (by decide)]
    rfl
  · have hp : p ≠ [] := by intro e; subst e; simp at h0
    rw [List.dropLast_append_of_ne_nil hp, rdShort_short _ (by omega)]
    simp only
    rw [if_neg (by omega), if_pos (by simp; omega)]

/-- A write: its kind, key and value. -/
abbrev Wr := Int × List (BitVec 8) × List (BitVec 8)
def writeB (x : Wr) : List (BitVec 8) := BitVec.ofInt 8 x.1 :: (pieceB x.2.1 ++ if x.1 = 1 then pieceB x.2.2 else [])
def rdWrite (l : List (BitVec 8)) : Except Int (Wr × List (BitVec 8)) :=
  match l with
  | [] => .error 12
  | k :: r =>
    if ¬ (k.toNat = 1 ∨ k.toNat = 2) then .error 4
    else match rdPiece r with
      | .error e => .error e
      | .ok (key, r1) =>
        if k.toNat = 1 then
          match rdPiece r1 with
          | .error e => .error e
          | .ok (val, r2) => .ok ((1, key, val), r2)
        else .ok ((2, key, []), r1)
/-- A write that may be, its lengths aside. -/
def fineW (x : Wr) : Prop := (x.1 = 1 ∨ x.1 = 2 ∧ x.2.2 = []) ∧ x.2.1 ≠ []
theorem rdWrite_ok (x : Wr) (r : List (BitVec 8)) (hf : fineW x) (h1 : x.2.1.length ≤ 1048576) (h2 : x.2.2.length ≤ 1048576) : rdWrite (writeB x ++ r) = .ok (x, r) := by
  obtain ⟨k, key, val⟩ := x
  obtain ⟨hk, _⟩ := hf
  simp only at hk h1 h2
  rcases hk with rfl | ⟨rfl, rfl⟩
  · simp only [writeB, if_pos, rdWrite, List.cons_append, List.append_assoc]
    rw [rdPiece_ok _ _ h1]
    simp only
    rw [rdPiece_ok _ _ h2]
    rfl
  · simp only [writeB, rdWrite, List.cons_append, List.append_assoc]
    rw [rdPiece_ok _ _ h1]
    rfl
theorem pieceB_ne (p : List (BitVec 8)) : pieceB p ≠ [] := by simp [pieceB, short_ne]
theorem rdWrite_cut (x : Wr) (hf : fineW x) (h1 : x.2.1.length ≤ 1048576) (h2 : x.2.2.length ≤ 1048576) : rdWrite (writeB x).dropLast = .error 12 := by
  obtain ⟨k, key, val⟩ := x
  obtain ⟨hk, hne⟩ := hf
  simp only at hk h1 h2 hne
  rcases hk with rfl | ⟨rfl, rfl⟩
  · simp only [writeB, if_pos]
    rw [List.dropLast_cons_of_ne_nil (by simp [pieceB_ne]), List.dropLast_append_of_ne_nil (pieceB_ne val)]
    simp only [rdWrite]
    rw [rdPiece_ok _ _ h1]
    simp only
    rw [rdPiece_cut _ h2]
    rfl
  · simp only [writeB]
    rw [if_neg (by decide), List.append_nil, List.dropLast_cons_of_ne_nil (pieceB_ne key)]
    simp only [rdWrite]
    rw [rdPiece_cut _ h1]
    rfl
/-- So many writes, read. -/
def rdWrites : Nat → List (BitVec 8) → Except Int (List Wr × List (BitVec 8))
  | 0, l => .ok ([], l)
  | n + 1, l =>
    match rdWrite l with
    | .error e => .error e
    | .ok (x, r) =>
      match rdWrites n r with
      | .error e => .error e
      | .ok (xs, r') => .ok (x :: xs, r')
def writesB (xs : List Wr) : List (BitVec 8) := (xs.map writeB).flatten
def shortW (x : Wr) : Prop := x.2.1.length ≤ 1048576 ∧ x.2.2.length ≤ 1048576
theorem rdWrites_ok : ∀ (xs : List Wr) (r : List (BitVec 8)), (∀ x ∈ xs, fineW x ∧ shortW x) → rdWrites xs.length (writesB xs ++ r) = .ok (xs, r)
  | [], r, _ => rfl
  | x :: xs, r, h => by
    obtain ⟨hf, hs⟩ := h x (by simp)
    simp only [List.length_cons, rdWrites, writesB, List.map_cons, List.flatten_cons, List.append_assoc]
    rw [rdWrite_ok x _ hf hs.1 hs.2]
    simp only
    have := rdWrites_ok xs r (fun y hy => h y (by simp [hy]))
    unfold writesB at this
    rw [this]
theorem writeB_ne (x : Wr) : writeB x ≠ [] := by simp [writeB]
theorem writesB_ne {xs : List Wr} (h : xs ≠ []) : writesB xs ≠ [] := by
  cases xs with
  | nil => exact absurd rfl h
  | cons x r => simp [writesB, writeB]
theorem rdWrites_cut : ∀ (xs : List Wr), xs ≠ [] → (∀ x ∈ xs, fineW x ∧ shortW x) → rdWrites xs.length (writesB xs).dropLast = .error 12
  | [], h, _ => absurd rfl h
  | [x], _, h => by
    obtain ⟨hf, hs⟩ := h x (by simp)
    simp only [List.length_cons, List.length_nil, rdWrites, writesB, List.map_cons, List.map_nil, List.flatten_cons, List.flatten_nil, List.append_nil]
    rw [rdWrite_cut x hf hs.1 hs.2]
  | x :: y :: xs, _, h => by
    obtain ⟨hf, hs⟩ := h x (by simp)
    have ih := rdWrites_cut (y :: xs) (by simp) (fun z hz => h z (by simp [hz]))
    have hne := writesB_ne (xs := y :: xs) (by simp)
    rw [show writesB (x :: y :: xs) = writeB x ++ writesB (y :: xs) from rfl, List.dropLast_append_of_ne_nil hne, List.length_cons, rdWrites, rdWrite_ok x _ hf hs.1 hs.2]
    simp only
    rw [ih]

/-- What Check answers, where all is short enough together. -/
def wrongW (x : Wr) : Bool := !(x.1 == 1 || x.1 == 2) || x.2.1.length == 0 || (x.1 == 2 && decide (0 < x.2.2.length))
def longW (x : Wr) : Bool := decide (4096 < x.2.1.length) || decide (65536 < x.2.2.length)
def chk (seq : Nat) (xs : List Wr) : Int :=
  if seq = 0 ∨ xs = [] ∨ xs.any wrongW = true then 2
  else if xs.any longW = true ∨ 72057594037927935 < seq ∨ 72057594037927935 < seq + xs.length - 1 then 3 else 0
theorem chk_fine {seq : Nat} {xs : List Wr} (h : chk seq xs = 0) : 0 < seq ∧ seq < 2 ^ 64 ∧ xs ≠ [] ∧ ∀ x ∈ xs, fineW x ∧ shortW x := by
  unfold chk at h
  split at h
  · cases h
  · rename_i h1
    split at h
    · cases h
    · rename_i h2
      refine ⟨by omega, by omega, fun e => h1 (.inr (.inl e)), fun x hx => ?_⟩
      have hw : wrongW x = false := by
        rcases hq : wrongW x
        · rfl
        · exact absurd (.inr (.inr (List.any_eq_true.2 ⟨x, hx, hq⟩))) h1
      have hl : longW x = false := by
        rcases hq : longW x
        · rfl
        · exact absurd (.inl (List.any_eq_true.2 ⟨x, hx, hq⟩)) h2
      simp only [wrongW, longW, Bool.or_eq_false_iff, Bool.and_eq_false_iff, Bool.not_eq_false', Bool.or_eq_true, beq_iff_eq, beq_eq_false_iff_ne, decide_eq_false_iff_not] at hw hl
      refine ⟨⟨?_, fun e => hw.1.2 (by simp [e])⟩, by unfold shortW; omega⟩
      rcases hw.1.1 with h | h
      · exact .inl h
      · rcases hw.2 with h' | h'
        · exact absurd h h'
        · exact .inr ⟨h, by simpa using h'⟩

/-- A batch's bytes. -/
def batchB (seq : Nat) (xs : List Wr) : List (BitVec 8) := short seq ++ (short xs.length ++ writesB xs)
/-- What Parse answers: an error, or a batch. -/
def parseB (l : List (BitVec 8)) : Except Int (Nat × List Wr) :=
  match rdShort l with
  | .error e => .error e
  | .ok (seq, n) =>
    match rdShort (l.drop n) with
    | .error e => .error e
    | .ok (m, n') =>
      match rdWrites m ((l.drop n).drop n') with
      | .error e => .error e
      | .ok (xs, r) => if r ≠ [] then .error 4 else if chk seq xs ≠ 0 then .error (chk seq xs) else .ok (seq, xs)
theorem parse_back (seq : Nat) (xs : List Wr) (h : chk seq xs = 0) (hl : xs.length < 2 ^ 64) : parseB (batchB seq xs) = .ok (seq, xs) := by
  obtain ⟨_, h2, _, h4⟩ := chk_fine h
  unfold parseB batchB
  rw [rdShort_short _ h2]
  simp only [List.drop_left]
  rw [rdShort_short _ hl]
  simp only [List.drop_left]
  have := rdWrites_ok xs [] h4
  rw [List.append_nil] at this
  rw [this]
  simp [h]
theorem parse_more (seq : Nat) (xs : List Wr) (h : chk seq xs = 0) (hl : xs.length < 2 ^ 64) (b : BitVec 8) : parseB (batchB seq xs ++ [b]) = .error 4 := by
  obtain ⟨_, h2, _, h4⟩ := chk_fine h
  unfold parseB batchB
  rw [List.append_assoc, List.append_assoc, rdShort_short _ h2]
  simp only [List.drop_left]
  rw [rdShort_short _ hl]
  simp only [List.drop_left]
  rw [rdWrites_ok xs [b] h4]
  simp
theorem parse_cut (seq : Nat) (xs : List Wr) (h : chk seq xs = 0) (hl : xs.length < 2 ^ 64) : parseB (batchB seq xs).dropLast = .error 12 := by
  obtain ⟨_, h2, h3, h4⟩ := chk_fine h
  unfold parseB batchB
  rw [List.dropLast_append_of_ne_nil (by simp [short_ne]), List.dropLast_append_of_ne_nil (writesB_ne h3), rdShort_short _ h2]
  simp only [List.drop_left]
  rw [rdShort_short _ hl]
  simp only [List.drop_left]
  rw [rdWrites_cut xs h3 h4]
end Go.Proofs.Ytkeglaplckfllaa
