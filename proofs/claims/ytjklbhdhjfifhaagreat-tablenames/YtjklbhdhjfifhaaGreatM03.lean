
/-
  The plain mathematics of CRC-32C over 32-bit words: one step is linear and one to one, matrices of rows are linear maps, and a sum of two pieces is a sum moved on and put together. Nothing of any program is named here.
-/
namespace Go.Proofs.Crc32

/-- f, done n times. -/
def it {α : Type} (f : α → α) : Nat → α → α
  | 0, a => a
  | n + 1, a => it f n (f a)

theorem it_succ {α : Type} (f : α → α) (n : Nat) (a : α) : it f (n + 1) a = f (it f n a) := by
  induction n generalizing a with
  | zero => rfl
  | succ n ih => exact ih (f a)

theorem it_add {α : Type} (f : α → α) (m n : Nat) (a : α) : it f (m + n) a = it f m (it f n a) := by
  induction m generalizing a with
  | zero => simp [it]
  | succ m ih => rw [show m + 1 + n = (m + n) + 1 by omega, it_succ, ih, it_succ]

theorem it_mul {α : Type} (f : α → α) (m n : Nat) (a : α) : it f (m * n) a = it (it f m) n a := by
  induction n generalizing a with
  | zero => rfl
  | succ n ih => rw [Nat.mul_succ, Nat.add_comm, it_add, ih, it_succ (it f m)]

/-- One bit 0. -/
def step (x : BitVec 32) : BitVec 32 := if x[0] then (x >>> 1) ^^^ 0x82F63B78#32 else x >>> 1

/-- A linear map. -/
def Lin (f : BitVec 32 → BitVec 32) : Prop := ∀ x y, f (x ^^^ y) = f x ^^^ f y

theorem Lin.zero {f : BitVec 32 → BitVec 32} (h : Lin f) : f 0#32 = 0#32 := by
  have := h 0#32 0#32
  rw [BitVec.xor_self] at this
  rw [this, BitVec.xor_self]

theorem Lin.it {f : BitVec 32 → BitVec 32} (h : Lin f) (n : Nat) : Lin (it f n) := by
  induction n with
  | zero => intro x y; rfl
  | succ n ih => intro x y; rw [it_succ, it_succ, it_succ, ih, h]

theorem xor_cancel (a b p : BitVec 32) : (a ^^^ p) ^^^ (b ^^^ p) = a ^^^ b := by
  ext i hi; simp; cases a[i] <;> cases b[i] <;> cases p[i] <;> rfl

theorem step_lin : Lin step := by
  intro x y
  simp only [step, BitVec.ushiftRight_xor_distrib, BitVec.getElem_xor]
  cases x[0] <;> cases y[0] <;> simp
  · ac_rfl
  · ac_rfl
  · exact (xor_cancel _ _ _).symm

/-- The top bit tells whether the bit that went was set. -/
theorem step_top (x : BitVec 32) : (step x)[31] = x[0] := by
  unfold step
  cases h : x[0] <;> simp

theorem step_inj {x y : BitVec 32} (h : step x = step y) : x = y := by
  have h0 : x[0] = y[0] := by rw [← step_top x, ← step_top y, h]
  have hs : x >>> 1 = y >>> 1 := by
    unfold step at h
    rw [h0] at h
    cases hy : y[0] <;> simp [hy] at h
    · exact h
    · exact h
  ext i hi
  rcases i with _ | i
  · exact h0
  · have : (x >>> 1)[i] = (y >>> 1)[i] := by rw [hs]
    simpa [Nat.add_comm, BitVec.getLsbD_eq_getElem hi] using this

theorem it_step_inj (n : Nat) {x y : BitVec 32} (h : it step n x = it step n y) : x = y := by
  induction n generalizing x y with
  | zero => exact h
  | succ n ih => exact step_inj (ih h)

theorem it_step_ne (n : Nat) {x : BitVec 32} (h : x ≠ 0#32) : it step n x ≠ 0#32 := by
  intro e
  exact h (it_step_inj n (e.trans (step_lin.it n).zero.symm))

/-- Eight bits 0. -/
def s8 (x : BitVec 32) : BitVec 32 := it step 8 x
theorem s8_lin : Lin s8 := step_lin.it 8
theorem s8_it (n : Nat) (x : BitVec 32) : it s8 n x = it step (8 * n) x := (it_mul step 8 n x).symm

/-- The register behind some bytes. -/
def upd (c : BitVec 32) : List (BitVec 8) → BitVec 32
  | [] => c
  | b :: r => upd (s8 (c ^^^ b.setWidth 32)) r

theorem upd_append (c : BitVec 32) (x y : List (BitVec 8)) : upd c (x ++ y) = upd (upd c x) y := by
  induction x generalizing c with
  | nil => rfl
  | cons b r ih => exact ih _

theorem upd_snoc (c : BitVec 32) (x : List (BitVec 8)) (b : BitVec 8) : upd c (x ++ [b]) = s8 (upd c x ^^^ b.setWidth 32) := upd_append c x [b]

theorem upd_lin (c d : BitVec 32) (x : List (BitVec 8)) : upd (c ^^^ d) x = it s8 x.length c ^^^ upd d x := by
  induction x generalizing c d with
  | nil => rfl
  | cons b r ih =>
    show upd (s8 ((c ^^^ d) ^^^ b.setWidth 32)) r = it s8 r.length (s8 c) ^^^ upd (s8 (d ^^^ b.setWidth 32)) r
    rw [BitVec.xor_assoc, s8_lin, ih]

/-- The sum that goes on from s. -/
def update (s : BitVec 32) (x : List (BitVec 8)) : BitVec 32 := ~~~(upd (~~~s) x)
def sum (x : List (BitVec 8)) : BitVec 32 := update 0#32 x
def join (a b : BitVec 32) (n : Nat) : BitVec 32 := it s8 n a ^^^ b

theorem not_eq (x : BitVec 32) : ~~~x = x ^^^ 4294967295#32 := by
  have : 4294967295#32 = BitVec.allOnes 32 := by decide
  rw [this, BitVec.xor_allOnes]

theorem update_append (s : BitVec 32) (x y : List (BitVec 8)) : update s (x ++ y) = update (update s x) y := by
  simp [update, upd_append]

theorem join_sum (x y : List (BitVec 8)) : join (sum x) (sum y) y.length = sum (x ++ y) := by
  unfold join sum
  rw [update_append]
  generalize update 0#32 x = a
  unfold update
  have h1 : ~~~(0#32) = 0#32 ^^^ 4294967295#32 := by decide
  rw [not_eq a, not_eq (upd _ y), not_eq (upd _ y), upd_lin a, h1, upd_lin 0#32, (s8_lin.it _).zero, BitVec.zero_xor, BitVec.xor_assoc]


/-- What becomes of a byte's register. -/
def tab (i : Nat) : BitVec 32 := s8 (BitVec.ofNat 32 i)

theorem tab_half : ∀ r : Fin 8, step (it step r.val 1#32) = tab (2 ^ (7 - r.val)) := by decide +kernel
theorem tab_add : ∀ r : Fin 8, ∀ i : Fin 256, i.val % 2 ^ (8 - r.val) = 0 → tab (i.val + 2 ^ (7 - r.val)) = tab i.val ^^^ tab (2 ^ (7 - r.val)) := by decide +kernel

theorem step_shl (y : BitVec 32) (h : y.getLsbD 31 = false) : step (y <<< 1) = y := by
  unfold step
  have h0 : (y <<< 1)[0] = false := by simp
  rw [h0]
  ext i hi
  by_cases h31 : i = 31
  · subst h31; simp at h; simp [h]
  · simp [show i + 1 < 32 by omega, Nat.add_comm]

theorem it_step_shl (c : BitVec 32) (n : Nat) (h : n ≤ 8) : it step n ((c >>> 8) <<< n) = c >>> 8 := by
  induction n with
  | zero => simp [it]
  | succ n ih =>
    show it step n (step ((c >>> 8) <<< (n + 1))) = _
    rw [BitVec.shiftLeft_add, step_shl, ih (by omega)]
    simp
    intro _
    exact BitVec.getLsbD_of_ge _ _ (by omega)

theorem split8 (x : BitVec 32) : x = BitVec.ofNat 32 (x.setWidth 8).toNat ^^^ ((x >>> 8) <<< 8) := by
  have e : BitVec.ofNat 32 (x.setWidth 8).toNat = (x.setWidth 8).setWidth 32 := by
    apply BitVec.eq_of_toNat_eq
    simp
  rw [e]
  ext i hi
  by_cases h : i < 8
  · simp [h, BitVec.getLsbD_eq_getElem hi]
  · simp [h, show 8 + (i - 8) = i by omega, BitVec.getLsbD_eq_getElem hi]

theorem s8_table (c : BitVec 32) (b : BitVec 8) : s8 (c ^^^ b.setWidth 32) = tab (c.setWidth 8 ^^^ b).toNat ^^^ (c >>> 8) := by
  have e1 : (c ^^^ b.setWidth 32).setWidth 8 = c.setWidth 8 ^^^ b := by
    ext i hi
    simp [show i < 32 by omega]
  have e2 : (c ^^^ b.setWidth 32) >>> 8 = c >>> 8 := by
    rw [BitVec.ushiftRight_xor_distrib]
    have : (b.setWidth 32) >>> 8 = 0#32 := by ext i hi; simp
    rw [this, BitVec.xor_zero]
  have e := split8 (c ^^^ b.setWidth 32)
  rw [e1, e2] at e
  rw [e, s8_lin]
  congr 1
  exact it_step_shl c 8 (Nat.le_refl _)

/-- The lowest bit that is set. -/
theorem nat_low (x : Nat) : 0 < x → ∃ t, (x &&& (x - 1)) ^^^ 2 ^ t = x ∧ x &&& (x - 1) < x ∧ 2 ^ t ≤ x := by
  induction x using Nat.strongRecOn with
  | ind x ih =>
    intro hx
    by_cases ho : x % 2 = 1
    · refine ⟨0, ?_, ?_, hx⟩
      · apply Nat.eq_of_testBit_eq
        intro i
        cases i with
        | zero =>
          have : (x - 1) % 2 = 0 := by omega
          simp [Nat.testBit_zero, ho, this]
        | succ i =>
          have : (x - 1) / 2 = x / 2 := by omega
          rw [Nat.testBit_xor, Nat.testBit_and, Nat.testBit_succ, Nat.testBit_succ, Nat.testBit_succ, this]; simp
      · have : x &&& (x - 1) ≤ x - 1 := Nat.and_le_right
        omega
    · obtain ⟨t, h1, h2, h3⟩ := ih (x / 2) (by omega) (by omega)
      have e : x &&& (x - 1) = 2 * (x / 2 &&& (x / 2 - 1)) := by
        apply Nat.eq_of_testBit_eq
        intro i
        cases i with
        | zero => simp [Nat.testBit_zero, show x % 2 = 0 by omega]
        | succ i =>
          have e1 : (x - 1) / 2 = x / 2 - 1 := by omega
          have e2 : 2 * (x / 2 &&& (x / 2 - 1)) / 2 = x / 2 &&& (x / 2 - 1) := by omega
          rw [Nat.testBit_and, Nat.testBit_succ, Nat.testBit_succ, Nat.testBit_succ, e1, e2, Nat.testBit_and]
      refine ⟨t + 1, ?_, by omega, by rw [Nat.pow_succ]; omega⟩
      rw [e]
      apply Nat.eq_of_testBit_eq
      intro i
      cases i with
      | zero => simp [Nat.testBit_zero, Nat.pow_succ, show x % 2 = 0 by omega]
      | succ i =>
        have e2 : 2 * (x / 2 &&& (x / 2 - 1)) / 2 = x / 2 &&& (x / 2 - 1) := by omega
        have e3 : 2 ^ (t + 1) / 2 = 2 ^ t := by rw [Nat.pow_succ]; omega
        rw [Nat.testBit_xor, Nat.testBit_succ, Nat.testBit_succ, e2, e3, ← Nat.testBit_xor, h1, Nat.testBit_succ]

theorem low (x : BitVec 32) (h : x ≠ 0#32) : ∃ t, t < 32 ∧ x &&& -x = 1#32 <<< t ∧ x &&& (x - 1#32) = x ^^^ 1#32 <<< t ∧ (x &&& (x - 1#32)).toNat < x.toNat := by
  have hx : 0 < x.toNat := by
    rcases Nat.eq_zero_or_pos x.toNat with h0 | h0
    · exact absurd (BitVec.eq_of_toNat_eq (by simpa using h0)) h
    · exact h0
  obtain ⟨t, h1, h2, h3⟩ := nat_low x.toNat hx
  have ht : t < 32 := by
    rcases Nat.lt_or_ge t 32 with h0 | h0
    · exact h0
    · have := Nat.pow_le_pow_right (n := 2) (by omega) h0
      have := x.isLt
      omega
  have hp : (1#32 <<< t).toNat = 2 ^ t := by
    have : 2 ^ t < 2 ^ 32 := Nat.pow_lt_pow_right (by omega) ht
    rw [BitVec.toNat_shiftLeft, Nat.shiftLeft_eq]
    simp
    omega
  have hs : (x - 1#32).toNat = x.toNat - 1 := by
    have := x.isLt
    rw [BitVec.toNat_sub]
    simp
    omega
  have ea : (x &&& (x - 1#32)) ^^^ 1#32 <<< t = x := by
    apply BitVec.eq_of_toNat_eq
    rw [BitVec.toNat_xor, BitVec.toNat_and, hs, hp, h1]
  have eb : x &&& (x - 1#32) = x ^^^ 1#32 <<< t := by
    conv => rhs; arg 1; rw [← ea]
    rw [BitVec.xor_assoc, BitVec.xor_self, BitVec.xor_zero]
  refine ⟨t, ht, ?_, eb, ?_⟩
  · have en : -x = ~~~(x - 1#32) := by
      apply BitVec.eq_of_toNat_eq
      rw [BitVec.toNat_neg, BitVec.toNat_not, hs]
      have := x.isLt
      omega
    have eo : x &&& ~~~(x - 1#32) = x ^^^ (x &&& (x - 1#32)) := by
      generalize x - 1#32 = y
      ext i hi
      simp
      cases x[i] <;> cases y[i] <;> rfl
    rw [en, eo, eb, ← BitVec.xor_assoc, BitVec.xor_self, BitVec.zero_xor]
  · rw [BitVec.toNat_and, hs]
    exact h2

theorem Lin.low {f : BitVec 32 → BitVec 32} (h : Lin f) (x : BitVec 32) (t : Nat) (e : x &&& (x - 1#32) = x ^^^ 1#32 <<< t) : f x = f (x &&& (x - 1#32)) ^^^ f (1#32 <<< t) := by
  rw [e, h, BitVec.xor_assoc, BitVec.xor_self, BitVec.xor_zero]

/-- The lowest bits, one by one. -/
def lows (x : BitVec 32) : Nat → BitVec 32
  | 0 => 0#32
  | n + 1 => if x.getLsbD n then lows x n ^^^ 1#32 <<< n else lows x n

theorem lows_get (x : BitVec 32) (n i : Nat) : (lows x n).getLsbD i = (decide (i < n) && x.getLsbD i) := by
  induction n with
  | zero => simp [lows]
  | succ n ih =>
    unfold lows
    by_cases hi : i < 32
    · by_cases hx : x.getLsbD n
      · rw [if_pos hx, BitVec.getLsbD_xor, ih]
        by_cases e : i = n
        · subst e
          simp [hx, hi]
        · by_cases l : i < n
          · have : i - n = 0 ∧ i < n := by omega
            simp [l, show i < n + 1 by omega, hi]
          · simp [l, show ¬ i < n + 1 by omega, hi, show ¬ i - n = 0 by omega]
      · rw [if_neg hx, ih]
        by_cases e : i = n
        · subst e; simp [hx]
        · simp [show (i < n + 1) = (i < n) by simp; omega]
    · rw [BitVec.getLsbD_of_ge _ _ (by omega), BitVec.getLsbD_of_ge x _ (by omega), Bool.and_false]

theorem lows_all (x : BitVec 32) : lows x 32 = x := by
  apply BitVec.eq_of_getLsbD_eq
  intro i hi
  rw [lows_get]
  simp [hi]

/-- A matrix's rows, put together by a word's bits, from the lowest on. -/
theorem Lin.lows {f : BitVec 32 → BitVec 32} (h : Lin f) (x : BitVec 32) (n : Nat) : f (lows x (n + 1)) = if x.getLsbD n then f (Crc32.lows x n) ^^^ f (1#32 <<< n) else f (Crc32.lows x n) := by
  show f (if x.getLsbD n then _ else _) = _
  split
  · exact h _ _
  · rfl

theorem unmask_mask (s : BitVec 32) : let r := (s >>> 15) ||| (s <<< 17); (r <<< 15) ||| (r >>> 17) = s := by
  intro r
  ext i hi
  simp only [r, BitVec.getElem_or, BitVec.getElem_shiftLeft, BitVec.getElem_ushiftRight, BitVec.getLsbD_or, BitVec.getLsbD_ushiftRight, BitVec.getLsbD_shiftLeft]
  by_cases h : i < 15
  · simp [h, show ¬ 17 + i < 17 by omega, show 17 + i < 32 by omega, BitVec.getLsbD_eq_getElem hi]
    intro e
    rw [BitVec.getLsbD_of_ge _ _ (by omega)] at e
    cases e
  · have e : s.getLsbD (15 + (17 + i)) = false := BitVec.getLsbD_of_ge _ _ (by omega)
    simp [h, show 15 + (i - 15) = i by omega, BitVec.getLsbD_eq_getElem hi, show i - 15 < 17 by omega, show ¬ 17 + i < 32 by omega, e]

/-- One bit turned. -/
def turn (x : List (BitVec 8)) (p : Nat) : List (BitVec 8) := x.modify (p / 8) (fun b => b ^^^ 1#8 <<< (p % 8))

theorem upd_modify (c : BitVec 32) (x : List (BitVec 8)) (q : Nat) (h : q < x.length) (e : BitVec 8) :
    upd c (x.modify q (fun b => b ^^^ e)) = upd c x ^^^ it s8 (x.length - q) (e.setWidth 32) := by
  induction x generalizing c q with
  | nil => simp at h
  | cons b r ih =>
    cases q with
    | zero =>
      simp only [List.modify_zero_cons, upd, List.length_cons, Nat.sub_zero]
      have : (b ^^^ e).setWidth 32 = e.setWidth 32 ^^^ b.setWidth 32 := by rw [BitVec.xor_comm, BitVec.setWidth_xor]
      rw [this, ← BitVec.xor_assoc, BitVec.xor_comm c, BitVec.xor_assoc, s8_lin, upd_lin]
      exact BitVec.xor_comm _ _
    | succ q =>
      simp only [List.modify_succ_cons, upd, List.length_cons, Nat.add_sub_add_right]
      exact ih _ q (by simpa using h)

theorem it_step_one (j : Nat) (h : j < 32) : it step j (1#32 <<< j) = 1#32 := by
  have : ∀ j : Fin 32, it step j.val (1#32 <<< j.val) = 1#32 := by decide +kernel
  exact this ⟨j, h⟩

theorem upd_turn (c : BitVec 32) (x : List (BitVec 8)) (k i : Nat) (hi : i < 32) (h : k + i < 8 * x.length) :
    upd c (turn x (k + i)) = upd c x ^^^ it step (8 * x.length - k) (1#32 <<< i) := by
  unfold turn
  rw [upd_modify c x _ (by omega)]
  congr 1
  have e : (1#8 <<< ((k + i) % 8)).setWidth 32 = 1#32 <<< ((k + i) % 8) := by
    have : ∀ j : Fin 8, (1#8 <<< j.val).setWidth 32 = 1#32 <<< j.val := by decide +kernel
    exact this ⟨(k + i) % 8, by omega⟩
  rw [e, s8_it, show 8 * (x.length - (k + i) / 8) = (8 * x.length - k - i) + (k + i) % 8 by omega, it_add, it_step_one _ (by omega),
    show it step (8 * x.length - k) (1#32 <<< i) = it step ((8 * x.length - k - i) + i) (1#32 <<< i) by rw [show (8 * x.length - k - i) + i = 8 * x.length - k by omega], it_add, it_step_one i hi]

theorem turn_length (x : List (BitVec 8)) (p : Nat) : (turn x p).length = x.length := by simp [turn]

/-- 32 bits side by side that are turned change the sum. -/
theorem sum_sees (x y : List (BitVec 8)) (n : Nat) (d : BitVec 32) (hd : d ≠ 0#32) (h : upd (~~~0#32) y = upd (~~~0#32) x ^^^ it step n d) : sum y ≠ sum x := by
  intro e
  have e' : upd (~~~0#32) y = upd (~~~0#32) x := BitVec.not_inj.1 e
  rw [h] at e'
  have : it step n d = 0#32 := by
    have := congrArg (upd (~~~0#32) x ^^^ ·) e'
    simpa [← BitVec.xor_assoc] using this
  exact it_step_ne n hd this

end Go.Proofs.Crc32
