/-
  Blocks: their bytes, and what such bytes tell. Plain mathematics.
-/
import Derived.Test.YtolaaodhnhdadaaCm
import Derived.Test.YtolaaodhnhdadaaAn
namespace Go.Proofs.Ytolaaodhnhdadaa
/-- An entry. -/
structure Ent where
  key : List (BitVec 8)
  seq : Nat
  kind : Int
  val : List (BitVec 8)
def Ent.en (e : Ent) : En := (e.key, e.seq)
def chk1 (e : Ent) : Int := chk e.seq [(e.kind, e.key, e.val)]
theorem chk1_fine {e : Ent} (h : chk1 e = 0) : 0 < e.seq ∧ e.seq ≤ 72057594037927935 ∧ (e.kind = 1 ∨ e.kind = 2 ∧ e.val = []) ∧ e.key ≠ [] ∧ e.key.length ≤ 4096 ∧ e.val.length ≤ 65536 := by
  have h1 := chk_fine h
  have h2 := h1.2.2.2 (e.kind, e.key, e.val) (by simp)
  unfold chk1 chk at h
  split at h
  · cases h
  · split at h
    · cases h
    · rename_i h3
      have hl : longW (e.kind, e.key, e.val) = false := by
        rcases hq : longW (e.kind, e.key, e.val)
        · rfl
        · exact absurd (.inl (by simp [hq])) h3
      simp only [longW, Bool.or_eq_false_iff, decide_eq_false_iff_not] at hl
      refine ⟨h1.1, by omega, h2.1.1, h2.1.2, by omega, by omega⟩

/-- How many bytes two keys begin with that are the same. -/
def alike : List (BitVec 8) → List (BitVec 8) → Nat
  | a :: l, b :: r => if a = b then alike l r + 1 else 0
  | _, _ => 0
theorem alike_le : ∀ a b : List (BitVec 8), alike a b ≤ a.length ∧ alike a b ≤ b.length
  | [], _ => by simp [alike]
  | _ :: _, [] => by simp [alike]
  | a :: l, b :: r => by
    have := alike_le l r
    simp only [alike, List.length_cons]
    split <;> omega
theorem alike_take : ∀ a b : List (BitVec 8), a.take (alike a b) = b.take (alike a b)
  | [], b => by cases b <;> simp [alike]
  | _ :: _, [] => by simp [alike]
  | a :: l, b :: r => by
    have := alike_take l r
    simp only [alike]
    split
    · rename_i h
      rw [List.take_succ_cons, List.take_succ_cons, this, h]
    · rfl
/-- What an entry at a place shares. -/
def shr (i : Nat) (ah key : List (BitVec 8)) : Nat := if i % 16 = 0 then 0 else alike ah key
theorem shr_le (i : Nat) (ah key : List (BitVec 8)) : shr i ah key ≤ ah.length ∧ shr i ah key ≤ key.length := by
  have := alike_le ah key
  unfold shr
  split <;> omega
theorem shr_take (i : Nat) (ah key : List (BitVec 8)) : ah.take (shr i ah key) ++ key.drop (shr i ah key) = key := by
  unfold shr
  split
  · simp
  · rw [alike_take, List.take_append_drop]

/-- An entry's bytes. -/
def entB (s : Nat) (e : Ent) : List (BitVec 8) := short s ++ (short (e.key.length - s) ++ (short (e.seq * 4 + e.kind.toNat) ++ (short e.val.length ++ (e.key.drop s ++ e.val))))
theorem short_pos (n : Nat) : 1 ≤ (short n).length := by
  have := short_ne n
  cases h : short n with
  | nil => exact absurd h this
  | cons a l => simp
theorem entB_ge (s : Nat) (e : Ent) : 4 ≤ (entB s e).length := by
  have h1 := short_pos s
  have h2 := short_pos (e.key.length - s)
  have h3 := short_pos (e.seq * 4 + e.kind.toNat)
  have h4 := short_pos e.val.length
  simp only [entB, List.length_append]
  omega
theorem entB_le {s : Nat} {e : Ent} (h : chk1 e = 0) (hs : s ≤ e.key.length) : (entB s e).length ≤ 40 + (e.key.length + e.val.length) := by
  obtain ⟨h1, h2, h3, h4, h5, h6⟩ := chk1_fine h
  have k1 := short_len s (by omega)
  have k2 := short_len (e.key.length - s) (by omega)
  have k3 := short_len (e.seq * 4 + e.kind.toNat) (by rcases h3 with x | ⟨x, _⟩ <;> rw [x] <;> simp <;> omega)
  have k4 := short_len e.val.length (by omega)
  simp only [entB, List.length_append, List.length_drop]
  omega

/-- A short number that is read stands there as it is put. -/
theorem rdGo_sound : ∀ (l : List (BitVec 8)) (x i Y n : Nat), rdGo x i l = .ok (Y, n) → ∃ y, Y = x + y * 2 ^ (7 * i) ∧ l = short y ++ l.drop (n - i) ∧ (0 < i → 0 < y)
  | [], x, i, Y, n, h => by simp [rdGo] at h
  | b :: r, x, i, Y, n, h => by
    have hb := b.isLt
    simp only [rdGo] at h
    split at h
    · cases h
    · split at h
      · cases h
      · rename_i h2
        split at h
        · rename_i h3
          simp only [Except.ok.injEq, Prod.mk.injEq] at h
          obtain ⟨rfl, rfl⟩ := h
          refine ⟨b.toNat, rfl, ?_, fun hi => by omega⟩
          rw [short_lt h3, show i + 1 - i = 1 by omega]
          simp
        · rename_i h3
          obtain ⟨y, e1, e2, e3⟩ := rdGo_sound r _ _ _ _ h
          have hle := rdGo_le r _ _ _ _ h
          have hy := e3 (by omega)
          refine ⟨b.toNat - 128 + 128 * y, ?_, ?_, fun _ => by omega⟩
          · rw [e1, Nat.mul_add 7 i 1, Nat.pow_add, Nat.add_mul, show 2 ^ (7 * 1) = 128 from rfl, Nat.mul_comm (2 ^ (7 * i)) 128, ← Nat.mul_assoc, Nat.mul_comm y 128, Nat.add_assoc]
          · rw [short_ge (by omega), show (b.toNat - 128 + 128 * y) % 128 = b.toNat - 128 by omega, show (b.toNat - 128 + 128 * y) / 128 = y by omega, show b.toNat - 128 + 128 = b.toNat by omega, show n - i = (n - (i + 1)) + 1 by omega, List.drop_succ_cons, List.cons_append, ← e2]
            simp
theorem rdShort_sound {l : List (BitVec 8)} {y n : Nat} (h : rdShort l = .ok (y, n)) : l = short y ++ l.drop n := by
  obtain ⟨z, e1, e2, _⟩ := rdGo_sound l _ _ _ _ h
  rw [Nat.mul_zero, Nat.pow_zero, Nat.mul_one, Nat.zero_add] at e1
  subst e1
  exact e2

/-- Four short numbers, read. -/
def rd4 (l : List (BitVec 8)) : Option (Nat × Nat × Nat × Nat × List (BitVec 8)) :=
  match rdShort l with
  | .error _ => none
  | .ok (s, n1) => match rdShort (l.drop n1) with
    | .error _ => none
    | .ok (m, n2) => match rdShort ((l.drop n1).drop n2) with
      | .error _ => none
      | .ok (x, n3) => match rdShort (((l.drop n1).drop n2).drop n3) with
        | .error _ => none
        | .ok (v, n4) => some (s, m, x, v, (((l.drop n1).drop n2).drop n3).drop n4)
theorem rd4_back (s m x v : Nat) (hs : s < 2 ^ 64) (hm : m < 2 ^ 64) (hx : x < 2 ^ 64) (hv : v < 2 ^ 64) (r : List (BitVec 8)) : rd4 (short s ++ (short m ++ (short x ++ (short v ++ r)))) = some (s, m, x, v, r) := by
  unfold rd4
  rw [rdShort_short _ hs]
  simp only [List.drop_left]
  rw [rdShort_short _ hm]
  simp only [List.drop_left]
  rw [rdShort_short _ hx]
  simp only [List.drop_left]
  rw [rdShort_short _ hv]
  simp only [List.drop_left]
theorem rd4_sound {l : List (BitVec 8)} {s m x v : Nat} {r : List (BitVec 8)} (h : rd4 l = some (s, m, x, v, r)) : l = short s ++ (short m ++ (short x ++ (short v ++ r))) := by
  unfold rd4 at h
  split at h
  · cases h
  · rename_i h1
    split at h
    · cases h
    · rename_i h2
      split at h
      · cases h
      · rename_i h3
        split at h
        · cases h
        · rename_i h4
          simp only [Option.some.injEq, Prod.mk.injEq] at h
          obtain ⟨rfl, rfl, rfl, rfl, rfl⟩ := h
          rw [← rdShort_sound h4, ← rdShort_sound h3, ← rdShort_sound h2, ← rdShort_sound h1]
/-- The entry that such numbers tell. -/
def entOf (ah r : List (BitVec 8)) (s m x v : Nat) : Ent := ⟨ah.take s ++ r.take m, x / 4, ((x % 4 : Nat) : Int), (r.drop m).take v⟩
/-- One entry, read behind a key. -/
def rdEnt (i : Nat) (ah l : List (BitVec 8)) : Option (Ent × List (BitVec 8)) :=
  match rd4 l with
  | none => none
  | some (s, m, x, v, r) =>
    if ah.length < s ∨ r.length < m ∨ (r.drop m).length < v ∨ chk1 (entOf ah r s m x v) ≠ 0 ∨ s ≠ shr i ah (entOf ah r s m x v).key then none
    else some (entOf ah r s m x v, (r.drop m).drop v)
theorem rdEnt_back {e : Ent} (h : chk1 e = 0) (i : Nat) (ah r : List (BitVec 8)) : rdEnt i ah (entB (shr i ah e.key) e ++ r) = some (e, r) := by
  obtain ⟨h1, h2, h3, h4, h5, h6⟩ := chk1_fine h
  have hs := shr_le i ah e.key
  have ht := shr_take i ah e.key
  generalize hsv : shr i ah e.key = s at *
  unfold rdEnt entB
  simp only [List.append_assoc]
  rw [rd4_back _ _ _ _ (by omega) (by omega) (by rcases h3 with x | ⟨x, _⟩ <;> rw [x] <;> simp <;> omega) (by omega)]
  have hE : entOf ah (e.key.drop s ++ (e.val ++ r)) s (e.key.length - s) (e.seq * 4 + e.kind.toNat) e.val.length = e := by
    obtain ⟨key, seq, kind, val⟩ := e
    simp only at *
    unfold entOf
    rw [List.take_append_of_le_length (by simp), List.take_of_length_le (l := key.drop s) (by simp), ht, List.drop_append_of_le_length (by simp), List.drop_of_length_le (l := key.drop s) (by simp), List.nil_append, List.take_left]
    congr 1
    · rcases h3 with x | ⟨x, _⟩ <;> subst x <;> simp <;> omega
    · rcases h3 with x | ⟨x, _⟩ <;> subst x <;> simp <;> omega
  simp only [hE]
  rw [if_neg]
  · congr 2
    rw [List.drop_append_of_le_length (by simp), List.drop_of_length_le (l := e.key.drop s) (by simp), List.nil_append, List.drop_left]
  · rintro (q | q | q | q | q)
    · omega
    · simp only [List.length_append, List.length_drop] at q; omega
    · simp only [List.length_append, List.length_drop] at q; omega
    · exact q h
    · exact q hsv.symm
theorem rdEnt_sound {i : Nat} {ah l : List (BitVec 8)} {e : Ent} {r : List (BitVec 8)} (h : rdEnt i ah l = some (e, r)) : chk1 e = 0 ∧ l = entB (shr i ah e.key) e ++ r := by
  unfold rdEnt at h
  split at h
  · cases h
  · rename_i s m x v r0 h4
    split at h
    · cases h
    · rename_i hn
      simp only [Option.some.injEq, Prod.mk.injEq] at h
      obtain ⟨he, hr⟩ := h
      have hl := rd4_sound h4
      rw [he] at hn
      have hc : chk1 e = 0 := Classical.byContradiction fun q => hn (.inr (.inr (.inr (.inl q))))
      have hsr : s = shr i ah e.key := Classical.byContradiction fun q => hn (.inr (.inr (.inr (.inr q))))
      have n1 : ¬ ah.length < s := fun q => hn (.inl q)
      have n2 : ¬ r0.length < m := fun q => hn (.inr (.inl q))
      have n3 : ¬ (r0.drop m).length < v := fun q => hn (.inr (.inr (.inl q)))
      refine ⟨hc, ?_⟩
      rw [← hsr, hl]
      have k1 : e.key = ah.take s ++ r0.take m := by rw [← he]; rfl
      have k2 : e.seq * 4 + e.kind.toNat = x := by rw [← he]; show x / 4 * 4 + ((x % 4 : Nat) : Int).toNat = x; rw [Int.toNat_natCast]; omega
      have k3 : e.val = (r0.drop m).take v := by rw [← he]; rfl
      have l1 : (ah.take s).length = s := by rw [List.length_take]; omega
      have l2 : e.key.length - s = m := by rw [k1, List.length_append, l1, List.length_take]; omega
      have l3 : e.val.length = v := by rw [k3, List.length_take]; omega
      have l4 : e.key.drop s = r0.take m := by rw [k1, List.drop_append_of_le_length (by omega), List.drop_of_length_le (by omega), List.nil_append]
      unfold entB
      simp only [List.append_assoc]
      rw [l2, k2, l3, l4, ← hr, k3, List.take_append_drop, List.take_append_drop]
theorem rdEnt_lt {i : Nat} {ah l : List (BitVec 8)} {e : Ent} {r : List (BitVec 8)} (h : rdEnt i ah l = some (e, r)) : r.length < l.length := by
  have h1 := (rdEnt_sound h).2
  have h2 := entB_ge (shr i ah e.key) e
  have := congrArg List.length h1
  rw [List.length_append] at this
  omega

/-- The bytes of entries, one behind the other. -/
def rowB : Nat → List (BitVec 8) → List Ent → List (BitVec 8)
  | _, _, [] => []
  | i, ah, e :: r => entB (shr i ah e.key) e ++ rowB (i + 1) e.key r
/-- Where the restarts' bytes begin. -/
def marks : Nat → Nat → List (BitVec 8) → List Ent → List Nat
  | _, _, _, [] => []
  | i, o, ah, e :: r => (if i % 16 = 0 then [o] else []) ++ marks (i + 1) (o + (entB (shr i ah e.key) e).length) e.key r
def lastK (ah : List (BitVec 8)) : List Ent → List (BitVec 8)
  | [] => ah
  | e :: r => lastK e.key r
theorem lastK_snoc (e : Ent) : ∀ (ah : List (BitVec 8)) (l : List Ent), lastK ah (l ++ [e]) = e.key
  | _, [] => rfl
  | _, x :: r => lastK_snoc e x.key r
theorem rowB_snoc (e : Ent) : ∀ (i : Nat) (ah : List (BitVec 8)) (l : List Ent), rowB i ah (l ++ [e]) = rowB i ah l ++ entB (shr (i + l.length) (lastK ah l) e.key) e
  | i, ah, [] => by simp [rowB, lastK]
  | i, ah, x :: r => by
    have := rowB_snoc e (i + 1) x.key r
    simp only [List.cons_append, rowB, this, List.append_assoc, List.length_cons, lastK]
    rw [show i + 1 + r.length = i + (r.length + 1) by omega]
theorem marks_snoc (e : Ent) : ∀ (i o : Nat) (ah : List (BitVec 8)) (l : List Ent), marks i o ah (l ++ [e]) = marks i o ah l ++ if (i + l.length) % 16 = 0 then [o + (rowB i ah l).length] else []
  | i, o, ah, [] => by simp [marks, rowB]
  | i, o, ah, x :: r => by
    have := marks_snoc e (i + 1) (o + (entB (shr i ah x.key) x).length) x.key r
    simp only [List.cons_append, marks, this, List.append_assoc, List.length_cons, rowB, List.length_append]
    rw [show i + 1 + r.length = i + (r.length + 1) by omega, show o + (entB (shr i ah x.key) x).length + (rowB (i + 1) x.key r).length = o + ((entB (shr i ah x.key) x).length + (rowB (i + 1) x.key r).length) by omega]
def rdRow (i : Nat) (ah l : List (BitVec 8)) : Option (List Ent) :=
  if l = [] then some [] else
  match rdEnt i ah l with
  | none => none
  | some (e, r) => if r.length < l.length then (rdRow (i + 1) e.key r).map (e :: ·) else none
termination_by l.length
theorem rdRow_nil (i : Nat) (ah : List (BitVec 8)) : rdRow i ah [] = some [] := by rw [rdRow, if_pos rfl]
theorem rdRow_none {i : Nat} {ah l : List (BitVec 8)} (h : l ≠ []) (he : rdEnt i ah l = none) : rdRow i ah l = none := by rw [rdRow, if_neg h, he]
theorem rdRow_some {i : Nat} {ah l : List (BitVec 8)} {e : Ent} {r : List (BitVec 8)} (h : l ≠ []) (he : rdEnt i ah l = some (e, r)) : rdRow i ah l = (rdRow (i + 1) e.key r).map (e :: ·) := by
  rw [rdRow, if_neg h, he]
  simp only
  rw [if_pos (rdEnt_lt he)]
theorem rowB_ne (i : Nat) (ah : List (BitVec 8)) (e : Ent) (r : List Ent) : rowB i ah (e :: r) ≠ [] := by
  have h := entB_ge (shr i ah e.key) e
  intro q
  have := congrArg List.length q
  simp only [rowB, List.length_append, List.length_nil] at this
  omega
theorem rdRow_back : ∀ (es : List Ent) (i : Nat) (ah : List (BitVec 8)), (∀ e ∈ es, chk1 e = 0) → rdRow i ah (rowB i ah es) = some es
  | [], i, ah, _ => rdRow_nil i ah
  | e :: r, i, ah, h => by
    rw [rdRow_some (rowB_ne i ah e r) (rdEnt_back (h e (by simp)) i ah (rowB (i + 1) e.key r)), rdRow_back r (i + 1) e.key fun x hx => h x (by simp [hx])]
    rfl
theorem rdRow_sound : ∀ (n : Nat) (l : List (BitVec 8)), l.length ≤ n → ∀ (i : Nat) (ah : List (BitVec 8)) (es : List Ent), rdRow i ah l = some es → l = rowB i ah es ∧ ∀ e ∈ es, chk1 e = 0 := by
  intro n
  induction n with
  | zero =>
    intro l hl i ah es h
    obtain rfl : l = [] := List.eq_nil_of_length_eq_zero (by omega)
    rw [rdRow_nil] at h
    obtain rfl : [] = es := by simpa using h
    exact ⟨rfl, fun e he => by simp at he⟩
  | succ n ih =>
    intro l hl i ah es h
    by_cases h0 : l = []
    · subst h0
      rw [rdRow_nil] at h
      obtain rfl : [] = es := by simpa using h
      exact ⟨rfl, fun e he => by simp at he⟩
    · cases he : rdEnt i ah l with
      | none => rw [rdRow_none h0 he] at h; cases h
      | some er =>
        obtain ⟨e, r⟩ := er
        have hlt := rdEnt_lt he
        rw [rdRow_some h0 he] at h
        cases hr : rdRow (i + 1) e.key r with
        | none => rw [hr] at h; cases h
        | some es' =>
          rw [hr] at h
          obtain rfl : e :: es' = es := by simpa using h
          obtain ⟨k1, k2⟩ := ih r (by omega) (i + 1) e.key es' hr
          obtain ⟨k3, k4⟩ := rdEnt_sound he
          refine ⟨?_, fun x hx => ?_⟩
          · rw [k4, k1]; rfl
          · rcases List.mem_cons.1 hx with rfl | hx
            · exact k3
            · exact k2 x hx
end Go.Proofs.Ytolaaodhnhdadaa
