/-
  Restarts' places, whole blocks, and what a block cut by one byte tells. Plain mathematics.
-/
import Derived.Test.YtolaaodhnhdadaaBl
namespace Go.Proofs.Ytolaaodhnhdadaa
/-- A number's four bytes, the lowest first. -/
def four (n : Nat) : List (BitVec 8) := [BitVec.ofNat 8 n, BitVec.ofNat 8 (n / 256), BitVec.ofNat 8 (n / 65536), BitVec.ofNat 8 (n / 16777216)]
def le4 (a b c d : BitVec 8) : Nat := a.toNat + 256 * b.toNat + 65536 * c.toNat + 16777216 * d.toNat
theorem le4_four (n : Nat) (h : n < 4294967296) : le4 (BitVec.ofNat 8 n) (BitVec.ofNat 8 (n / 256)) (BitVec.ofNat 8 (n / 65536)) (BitVec.ofNat 8 (n / 16777216)) = n := by
  simp only [le4, BitVec.toNat_ofNat]
  omega
theorem four_le4 (a b c d : BitVec 8) : four (le4 a b c d) = [a, b, c, d] := by
  have h1 := a.isLt
  have h2 := b.isLt
  have h3 := c.isLt
  have h4 := d.isLt
  unfold four le4
  congr 1
  · apply BitVec.eq_of_toNat_eq; simp only [BitVec.toNat_ofNat]; omega
  congr 1
  · apply BitVec.eq_of_toNat_eq; simp only [BitVec.toNat_ofNat]; omega
  congr 1
  · apply BitVec.eq_of_toNat_eq; simp only [BitVec.toNat_ofNat]; omega
  congr 1
  · apply BitVec.eq_of_toNat_eq; simp only [BitVec.toNat_ofNat]; omega
theorem four_len (n : Nat) : (four n).length = 4 := rfl
/-- The number that four bytes at a place tell. -/
def at4 (p : List (BitVec 8)) (k : Nat) : Nat := le4 (p.getD k 0) (p.getD (k + 1) 0) (p.getD (k + 2) 0) (p.getD (k + 3) 0)
theorem at4_four (x y : List (BitVec 8)) (n : Nat) (h : n < 4294967296) : at4 (x ++ (four n ++ y)) x.length = n := by
  have e : ∀ j, (x ++ (four n ++ y)).getD (x.length + j) 0 = (four n ++ y).getD j 0 := fun j => by
    simp [List.getD, List.getElem?_append_right]
  unfold at4
  rw [show (x ++ (four n ++ y)).getD x.length 0 = (x ++ (four n ++ y)).getD (x.length + 0) 0 from rfl, e 0, e 1, e 2, e 3]
  exact le4_four n h
theorem at4_lt (p : List (BitVec 8)) (k : Nat) : at4 p k < 4294967296 := by
  unfold at4 le4
  have h1 := (p.getD k 0).isLt
  have h2 := (p.getD (k + 1) 0).isLt
  have h3 := (p.getD (k + 2) 0).isLt
  have h4 := (p.getD (k + 3) 0).isLt
  omega
theorem four_at4 (p : List (BitVec 8)) (k : Nat) (h : k + 4 ≤ p.length) : four (at4 p k) = (p.drop k).take 4 := by
  unfold at4
  rw [four_le4]
  have e : ∀ j, j < 4 → p.getD (k + j) 0 = ((p.drop k).take 4).getD j 0 := fun j hj => by
    simp [List.getD, hj]
  have hl : ((p.drop k).take 4).length = 4 := by simp; omega
  have e0 := e 0 (by omega)
  rw [Nat.add_zero] at e0
  rw [e0, e 1 (by omega), e 2 (by omega), e 3 (by omega)]
  match h4 : (p.drop k).take 4, hl with
  | [a, b, c, d], _ => rfl
/-- So many numbers from a place on. -/
def pls (p : List (BitVec 8)) : Nat → Nat → List Nat
  | _, 0 => []
  | k, n + 1 => at4 p k :: pls p (k + 4) n
theorem pls_len (p : List (BitVec 8)) : ∀ (n k : Nat), (pls p k n).length = n
  | 0, _ => rfl
  | n + 1, k => by simp [pls, pls_len p n]
theorem pls_snoc (p : List (BitVec 8)) : ∀ (n k : Nat), pls p k (n + 1) = pls p k n ++ [at4 p (k + 4 * n)]
  | 0, k => by simp [pls]
  | n + 1, k => by
    rw [show pls p k (n + 1 + 1) = at4 p k :: pls p (k + 4) (n + 1) from rfl, pls_snoc p n (k + 4)]
    simp only [pls, List.cons_append]
    rw [show k + 4 + 4 * n = k + 4 * (n + 1) by omega]
theorem pls_four (ms : List Nat) (hm : ∀ m ∈ ms, m < 4294967296) : ∀ x y : List (BitVec 8), pls (x ++ (ms.flatMap four ++ y)) x.length ms.length = ms := by
  induction ms with
  | nil => intro x y; rfl
  | cons m r ih =>
    intro x y
    have h1 := at4_four x (r.flatMap four ++ y) m (hm m (by simp))
    have h2 := ih (fun z hz => hm z (by simp [hz])) (x ++ four m) y
    rw [List.length_append, four_len] at h2
    simp only [List.flatMap_cons, List.append_assoc, List.length_cons, pls] at h1 h2 ⊢
    rw [h1, h2]
theorem four_pls (p : List (BitVec 8)) : ∀ (n k : Nat), k + 4 * n ≤ p.length → (pls p k n).flatMap four = (p.drop k).take (4 * n)
  | 0, k, _ => by simp [pls]
  | n + 1, k, h => by
    rw [show pls p k (n + 1) = at4 p k :: pls p (k + 4) n from rfl, List.flatMap_cons, four_pls p n (k + 4) (by omega), four_at4 p k (by omega), show 4 * (n + 1) = 4 + 4 * n by omega, List.take_add, List.drop_drop]
/-- Are entries in order, none twice? -/
def inOrd : List Ent → Bool
  | x :: y :: r => decide (cmpE x.en y.en < 0) && inOrd (y :: r)
  | _ => true
def mk (es : List Ent) : List Nat := marks 0 0 [] es
/-- A block's bytes. -/
def blkB (es : List Ent) : List (BitVec 8) := rowB 0 [] es ++ ((mk es).flatMap four ++ four (mk es).length)
def parseK (p : List (BitVec 8)) : Option (List Ent) :=
  if p.length < 4 then none
  else if (p.length - 4) / 4 < at4 p (p.length - 4) then none
  else match rdRow 0 [] (p.take (p.length - 4 - 4 * at4 p (p.length - 4))) with
    | none => none
    | some es => if es = [] ∨ inOrd es = false ∨ mk es ≠ pls p (p.length - 4 - 4 * at4 p (p.length - 4)) (at4 p (p.length - 4)) then none else some es
theorem marks_ge : ∀ (es : List Ent) (i o : Nat) (ah : List (BitVec 8)) (k m : Nat), (marks i o ah es)[k]? = some m → o + 4 * ((16 - i % 16) % 16 + 16 * k) ≤ m
  | [], i, o, ah, k, m, h => by simp [marks] at h
  | e :: r, i, o, ah, k, m, h => by
    have hg := entB_ge (shr i ah e.key) e
    simp only [marks] at h
    by_cases hi : i % 16 = 0
    · rw [if_pos hi] at h
      cases k with
      | zero =>
        obtain rfl : o = m := by simpa using h
        omega
      | succ k =>
        have := marks_ge r (i + 1) _ _ k m (by simpa using h)
        omega
    · rw [if_neg hi, List.nil_append] at h
      have := marks_ge r (i + 1) _ _ k m h
      omega
theorem marks_lt : ∀ (es : List Ent) (i o : Nat) (ah : List (BitVec 8)) (m : Nat), m ∈ marks i o ah es → o ≤ m ∧ m < o + (rowB i ah es).length
  | [], i, o, ah, m, h => by simp [marks] at h
  | e :: r, i, o, ah, m, h => by
    have hg := entB_ge (shr i ah e.key) e
    simp only [marks, List.mem_append] at h
    simp only [rowB, List.length_append]
    rcases h with h | h
    · split at h
      · obtain rfl : m = o := by simpa using h
        omega
      · simp at h
    · have := marks_lt r (i + 1) _ _ m h
      omega
theorem marks_len : ∀ (es : List Ent) (i o : Nat) (ah : List (BitVec 8)), (marks i o ah es).length + (i + 15) / 16 = (i + es.length + 15) / 16
  | [], i, o, ah => by simp [marks]
  | e :: r, i, o, ah => by
    have := marks_len r (i + 1) (o + (entB (shr i ah e.key) e).length) e.key
    simp only [marks, List.length_append, List.length_cons]
    split
    · simp only [List.length_singleton]; omega
    · simp only [List.length_nil]; omega
theorem mk_len (es : List Ent) : (mk es).length = (es.length + 15) / 16 := by
  have := marks_len es 0 0 []
  unfold mk
  omega
theorem rowB_ge : ∀ (es : List Ent) (i : Nat) (ah : List (BitVec 8)), 4 * es.length ≤ (rowB i ah es).length
  | [], _, _ => by simp [rowB]
  | e :: r, i, ah => by
    have h1 := entB_ge (shr i ah e.key) e
    have h2 := rowB_ge r (i + 1) e.key
    simp only [rowB, List.length_append, List.length_cons]
    omega
def wt (es : List Ent) : Nat := (es.map fun e => e.key.length + e.val.length).sum
theorem rowB_le : ∀ (es : List Ent) (i : Nat) (ah : List (BitVec 8)), (∀ e ∈ es, chk1 e = 0) → (rowB i ah es).length ≤ 40 * es.length + wt es
  | [], _, _, _ => by simp [rowB]
  | e :: r, i, ah, h => by
    have h1 := entB_le (s := shr i ah e.key) (h e (by simp)) (shr_le i ah e.key).2
    have h2 := rowB_le r (i + 1) e.key fun x hx => h x (by simp [hx])
    simp only [rowB, List.length_append, List.length_cons, wt, List.map_cons, List.sum_cons] at h2 ⊢
    omega
theorem blkB_len (es : List Ent) : (blkB es).length = (rowB 0 [] es).length + 4 * (mk es).length + 4 := by
  have : ∀ l : List Nat, (l.flatMap four).length = 4 * l.length := fun l => by
    induction l with
    | nil => rfl
    | cons a r ih => simp only [List.flatMap_cons, List.length_append, ih, four_len, List.length_cons]; omega
  simp only [blkB, List.length_append, this, four_len]
  omega
/-- What may be a block, and is not too long. -/
structure Fine (es : List Ent) : Prop where
  each : ∀ e ∈ es, chk1 e = 0
  ne : es ≠ []
  ord : inOrd es = true
theorem blk_back {es : List Ent} (h : Fine es) (hl : (blkB es).length ≤ 262144) : parseK (blkB es) = some es := by
  have hlen := blkB_len es
  have hm : ∀ m ∈ mk es, m < 4294967296 := fun m hm => by have := (marks_lt es 0 0 [] m hm).2; omega
  have h1 : at4 (blkB es) ((blkB es).length - 4) = (mk es).length := by
    have := at4_four (rowB 0 [] es ++ (mk es).flatMap four) [] (mk es).length (by omega)
    rw [List.append_nil, List.append_assoc] at this
    rw [show (blkB es).length - 4 = (rowB 0 [] es ++ (mk es).flatMap four).length by
      have h2 : (blkB es).length = (rowB 0 [] es ++ (mk es).flatMap four).length + 4 := by
        rw [show blkB es = (rowB 0 [] es ++ (mk es).flatMap four) ++ four (mk es).length by simp [blkB], List.length_append, four_len]
      omega]
    exact this
  unfold parseK
  rw [h1, if_neg (by omega), if_neg (by omega)]
  have h2 : (blkB es).length - 4 - 4 * (mk es).length = (rowB 0 [] es).length := by omega
  rw [h2, show (blkB es).take (rowB 0 [] es).length = rowB 0 [] es by rw [blkB, List.take_left], rdRow_back es 0 [] h.each]
  simp only
  rw [if_neg]
  have h3 := pls_four (mk es) hm (rowB 0 [] es) (four (mk es).length)
  rintro (q | q | q)
  · exact h.ne q
  · rw [h.ord] at q; cases q
  · exact q (by rw [blkB]; exact h3.symm)
theorem blk_sound {p : List (BitVec 8)} {es : List Ent} (h : parseK p = some es) : Fine es ∧ p = blkB es := by
  unfold parseK at h
  split at h
  · cases h
  · rename_i h4
    split at h
    · cases h
    · rename_i hc
      split at h
      · cases h
      · rename_i es' hr
        split at h
        · cases h
        · rename_i hn
          obtain rfl : es' = es := by simpa using h
          obtain ⟨k1, k2⟩ := rdRow_sound _ _ (Nat.le_refl _) _ _ _ hr
          have n1 : es' ≠ [] := fun q => hn (.inl q)
          have n2 : inOrd es' = true := by
            cases hq : inOrd es'
            · exact absurd (.inr (.inl hq)) hn
            · rfl
          have n3 : mk es' = pls p (p.length - 4 - 4 * at4 p (p.length - 4)) (at4 p (p.length - 4)) := Classical.byContradiction fun q => hn (.inr (.inr q))
          refine ⟨⟨k2, n1, n2⟩, ?_⟩
          generalize hC : at4 p (p.length - 4) = C at *
          have hb : p.length - 4 - 4 * C + 4 * C = p.length - 4 := by omega
          unfold blkB
          rw [← k1, n3, pls_len, four_pls p C _ (by omega), ← hC, four_at4 p _ (by omega), hC]
          rw [List.take_of_length_le (l := p.drop (p.length - 4)) (by simp; omega)]
          have e1 : p.drop (p.length - 4) = (p.drop (p.length - 4 - 4 * C)).drop (4 * C) := by rw [List.drop_drop, hb]
          rw [e1, List.take_append_drop, List.take_append_drop]
/-- A block whose last byte is gone. -/
theorem blk_cut {es : List Ent} (h : Fine es) (hn : es.length ≤ 200) (hw : wt es ≤ 20000) : parseK (blkB es).dropLast = none := by
  cases hq : parseK (blkB es).dropLast with
  | none => rfl
  | some es' =>
    exfalso
    obtain ⟨f', e'⟩ := blk_sound hq
    have hR := rowB_le es 0 [] h.each
    have hlen := blkB_len es
    have hlen' := blkB_len es'
    have hml := mk_len es
    have hml' := mk_len es'
    have p1 : 0 < es.length := by
      rcases Nat.eq_zero_or_pos es.length with q | q
      · exact absurd (List.eq_nil_of_length_eq_zero q) h.ne
      · exact q
    have p2 : 0 < es'.length := by
      rcases Nat.eq_zero_or_pos es'.length with q | q
      · exact absurd (List.eq_nil_of_length_eq_zero q) f'.ne
      · exact q
    have hdl : (blkB es).length = (blkB es').length + 1 := by
      have := congrArg List.length e'
      rw [List.length_dropLast] at this
      omega
    obtain ⟨Mi, m, hM⟩ : ∃ Mi m, mk es = Mi ++ [m] := ⟨_, _, (List.dropLast_concat_getLast (l := mk es) (by intro q; rw [q] at hml; simp at hml; omega)).symm⟩
    obtain ⟨Mi', m', hM'⟩ : ∃ Mi m, mk es' = Mi ++ [m] := ⟨_, _, (List.dropLast_concat_getLast (l := mk es') (by intro q; rw [q] at hml'; simp at hml'; omega)).symm⟩
    have hmm := marks_lt es 0 0 [] m (by show m ∈ mk es; rw [hM]; simp)
    have hmm' := marks_lt es' 0 0 [] m' (by show m' ∈ mk es'; rw [hM']; simp)
    have hge := marks_ge es' 0 0 [] Mi'.length m' (by show (mk es')[Mi'.length]? = some m'; rw [hM']; simp)
    have hge0 := marks_ge es 0 0 [] Mi.length m (by show (mk es)[Mi.length]? = some m; rw [hM]; simp)
    have hMl : (mk es).length = Mi.length + 1 := by rw [hM]; simp
    have hMl' : (mk es').length = Mi'.length + 1 := by rw [hM']; simp
    generalize hN : (mk es).length = N at *
    generalize hN' : (mk es').length = N' at *
    have b1 : blkB es = (rowB 0 [] es ++ Mi.flatMap four) ++ (four m ++ four N) := by
      rw [blkB, hN, hM]; simp
    have b2 : blkB es' = (rowB 0 [] es' ++ Mi'.flatMap four) ++ (four m' ++ four N') := by
      rw [blkB, hN', hM']; simp
    have hdl0 := hdl
    rw [b1, b2] at e'
    rw [b1, b2] at hdl
    generalize rowB 0 [] es ++ Mi.flatMap four = X at *
    generalize rowB 0 [] es' ++ Mi'.flatMap four = Y at *
    simp only [List.length_append, four_len] at hdl
    obtain ⟨Xi, z, hX⟩ : ∃ Xi z, X = Xi ++ [z] := ⟨_, _, (List.dropLast_concat_getLast (l := X) (by intro q; rw [q] at hdl; simp at hdl)).symm⟩
    subst hX
    have e2 : (Xi ++ [z] ++ (four m ++ four N)).dropLast = Xi ++ [z, BitVec.ofNat 8 m, BitVec.ofNat 8 (m / 256), BitVec.ofNat 8 (m / 65536), BitVec.ofNat 8 (m / 16777216), BitVec.ofNat 8 N, BitVec.ofNat 8 (N / 256), BitVec.ofNat 8 (N / 65536)] := by
      rw [show Xi ++ [z] ++ (four m ++ four N) = (Xi ++ [z, BitVec.ofNat 8 m, BitVec.ofNat 8 (m / 256), BitVec.ofNat 8 (m / 65536), BitVec.ofNat 8 (m / 16777216), BitVec.ofNat 8 N, BitVec.ofNat 8 (N / 256), BitVec.ofNat 8 (N / 65536)]) ++ [BitVec.ofNat 8 (N / 16777216)] by simp [four], List.dropLast_concat]
    rw [e2] at e'
    obtain ⟨_, e3⟩ := List.append_inj' e' rfl
    simp only [four, List.cons_append, List.nil_append, List.cons.injEq, and_true] at e3
    obtain ⟨q0, q1, q2, q3, q4, q5, q6, q7⟩ := e3
    have hm32 : m' < 4294967296 := by omega
    have hN32 : N' < 4294967296 := by omega
    have g1 := le4_four m' hm32
    have g2 := le4_four N' hN32
    rw [← q0, ← q1, ← q2, ← q3] at g1
    rw [← q4, ← q5, ← q6, ← q7] at g2
    have hz := z.isLt
    simp only [le4, BitVec.toNat_ofNat] at g1 g2
    have hrl : 4 * es'.length ≤ (rowB 0 [] es').length := rowB_ge es' 0 []
    have gN : N' = 256 * N := by omega
    have gm : m' ≤ 255 + 256 * m := by omega
    by_cases h1 : N = 1
    · have hMi : Mi.length = 0 := by omega
      have hm0 : m = 0 := by
        have hh : Mi = [] := List.eq_nil_of_length_eq_zero hMi
        rw [hh, List.nil_append] at hM
        match es, p1, hM with
        | e :: r, _, hM =>
          simp only [mk, marks, Nat.zero_mod, if_true, List.singleton_append, List.cons.injEq] at hM
          omega
      omega
    · omega
end Go.Proofs.Ytolaaodhnhdadaa
