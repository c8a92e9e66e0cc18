/-
  Bloom filters, as plain mathematics: the hash, its probes, the bits of a filter.
-/
import Derived.Test.YtppikddjdjmakaaV1
namespace Go.Proofs.Ytppikddjdjmakaa
def fnvStep (h : BitVec 64) (c : BitVec 8) : BitVec 64 := (h ^^^ BitVec.ofNat 64 c.toNat) * 1099511628211#64
def fnv (bs : List (BitVec 8)) : BitVec 64 := bs.foldl fnvStep 14695981039346656037#64
def mixA (h : BitVec 64) : BitVec 64 := (h ^^^ (h >>> 33)) * 18397679294719823053#64
def mixC (h : BitVec 64) : BitVec 64 := (h ^^^ (h >>> 33)) * 14181476777654086739#64
def mixB (h : BitVec 64) : BitVec 64 := mixC (mixA h) ^^^ (mixC (mixA h) >>> 33)
def hashB (bs : List (BitVec 8)) : BitVec 64 := mixB (fnv bs)
def stp (h : Nat) : Nat := h / 4294967296 ||| 1
def sumN (h i : Nat) : Nat := (h % 4294967296 + i * stp h) % 4294967296
def prb (h n i : Nat) : Nat := sumN h i % n
def probes (h n k : Nat) : List Nat := (List.range k).map (prb h n)
def setB (f : List (BitVec 8)) (p : Nat) : List (BitVec 8) := f.set (p / 8) (f.getD (p / 8) 0 ||| (1#8 <<< (p % 8)))
def bitOf (f : List (BitVec 8)) (p : Nat) : Bool := (f.getD (p / 8) 0).getLsbD (p % 8)
def setAll (f : List (BitVec 8)) (ps : List Nat) : List (BitVec 8) := ps.foldl setB f
def keyBits (n k : Nat) (keys : List (List (BitVec 8))) (f : List (BitVec 8)) : List (BitVec 8) := keys.foldl (fun f key => setAll f (probes (hashB key).toNat n k)) f
def nBits (m c : Nat) : Nat := (max (m * c) 64 + 7) / 8 * 8
def kOf (c : Nat) : Nat := min (max (c * 69 / 100) 1) 30
def zeros (n : Nat) : List (BitVec 8) := List.replicate n 0#8
/-- The filter of some keys. -/
def filt (keys : List (List (BitVec 8))) (c : Nat) : List (BitVec 8) := keyBits (nBits keys.length c) (kOf c) keys (zeros (nBits keys.length c / 8)) ++ [BitVec.ofNat 8 (kOf c)]
def lastB (f : List (BitVec 8)) : Nat := (f.getD (f.length - 1) 0).toNat
def hasB (f key : List (BitVec 8)) : Bool := decide (f.length < 2) || decide (1048577 < f.length) || decide (lastB f < 1) || decide (30 < lastB f) || (probes (hashB key).toNat ((f.length - 1) * 8) (lastB f)).all (bitOf f)

theorem sumN_zero (h : Nat) : sumN h 0 = h % 4294967296 := by unfold sumN; omega
theorem sumN_succ (h i : Nat) : sumN h (i + 1) = (sumN h i + stp h) % 4294967296 := by
  unfold sumN
  rw [Nat.mod_add_mod ((h % 4294967296 + i * stp h)), Nat.add_mul, Nat.one_mul, Nat.add_assoc]
theorem sumN_lt (h i : Nat) : sumN h i < 4294967296 := Nat.mod_lt _ (by decide)
theorem prb_lt (h n i : Nat) (hn : 0 < n) : prb h n i < n := Nat.mod_lt _ hn
theorem stp_lt (h : Nat) (hh : h < 18446744073709551616) : stp h < 4294967296 := by
  unfold stp
  have h1 : h / 4294967296 < 2 ^ 32 := by omega
  exact Nat.or_lt_two_pow h1 (by decide)
theorem probes_length (h n k : Nat) : (probes h n k).length = k := by simp [probes]
theorem probes_succ (h n k : Nat) : probes h n (k + 1) = probes h n k ++ [prb h n k] := by simp [probes, List.range_succ]
theorem mem_probes {h n k p : Nat} (hn : 0 < n) (hp : p ∈ probes h n k) : p < n := by
  obtain ⟨i, _, rfl⟩ := List.mem_map.1 hp
  exact prb_lt _ _ _ hn

theorem setB_length (f : List (BitVec 8)) (p : Nat) : (setB f p).length = f.length := by simp [setB]
theorem setAll_length : ∀ (ps : List Nat) (f : List (BitVec 8)), (setAll f ps).length = f.length
  | [], _ => rfl
  | p :: r, f => by
    show (setAll (setB f p) r).length = _
    rw [setAll_length r, setB_length]
theorem keyBits_length (n k : Nat) : ∀ (keys : List (List (BitVec 8))) (f : List (BitVec 8)), (keyBits n k keys f).length = f.length
  | [], _ => rfl
  | x :: r, f => by
    show (keyBits n k r (setAll f _)).length = _
    rw [keyBits_length n k r, setAll_length]
theorem bit_shift (q p : Nat) (hq : q < 8) (hp : p < 8) : (1#8 <<< q).getLsbD p = decide (p = q) := by
  have : ∀ q p : Fin 8, (1#8 <<< q.val).getLsbD p.val = decide (p.val = q.val) := by decide
  exact this ⟨q, hq⟩ ⟨p, hp⟩
theorem bitOf_set (f : List (BitVec 8)) (p q : Nat) (hp : p / 8 < f.length) : bitOf (setB f p) q = (bitOf f q || decide (q = p)) := by
  unfold bitOf setB
  by_cases e : q / 8 = p / 8
  · rw [e, List.getD_eq_getElem?_getD, List.getElem?_set_self hp, Option.getD_some, BitVec.getLsbD_or, bit_shift _ _ (by omega) (by omega)]
    congr 1
    rw [decide_eq_decide]
    omega
  · rw [List.getD_eq_getElem?_getD, List.getElem?_set_ne (Ne.symm e), ← List.getD_eq_getElem?_getD, decide_eq_false (by intro h; exact e (by rw [h])), Bool.or_false]
theorem bitOf_setAll : ∀ (ps : List Nat) (f : List (BitVec 8)) (q : Nat), (∀ p, p ∈ ps → p / 8 < f.length) → bitOf (setAll f ps) q = (bitOf f q || decide (q ∈ ps))
  | [], f, q, _ => by simp [setAll]
  | p :: r, f, q, h => by
    show bitOf (setAll (setB f p) r) q = _
    rw [bitOf_setAll r _ q (fun x hx => by rw [setB_length]; exact h x (List.mem_cons_of_mem _ hx)), bitOf_set f p q (h p (List.mem_cons_self ..)), Bool.or_assoc]
    congr 1
    simp [Bool.decide_or]
theorem bitOf_keyBits (n k : Nat) (hn : 0 < n) : ∀ (keys : List (List (BitVec 8))) (f : List (BitVec 8)) (q : Nat), n ≤ f.length * 8 → (bitOf f q = true ∨ ∃ key, key ∈ keys ∧ q ∈ probes (hashB key).toNat n k) → bitOf (keyBits n k keys f) q = true
  | [], f, q, _, h => by
    rcases h with h | ⟨_, h, _⟩
    · exact h
    · cases h
  | x :: r, f, q, hl, h => by
    refine bitOf_keyBits n k hn r _ q (by rw [setAll_length]; exact hl) ?_
    have hps : ∀ p, p ∈ probes (hashB x).toNat n k → p / 8 < f.length := fun p hp => by have := mem_probes hn hp; omega
    rw [bitOf_setAll _ _ _ hps]
    rcases h with h | ⟨key, hk, hq⟩
    · left; rw [h]; rfl
    · rcases List.mem_cons.1 hk with rfl | hk
      · left; rw [decide_eq_true hq, Bool.or_true]
      · right; exact ⟨key, hk, hq⟩
theorem getD_app (f g : List (BitVec 8)) {i : Nat} (h : i < f.length) : (f ++ g).getD i 0 = f.getD i 0 := by
  rw [List.getD_eq_getElem?_getD, List.getElem?_append_left h, ← List.getD_eq_getElem?_getD]
/-- Bits of the first part of a list. -/
theorem setB_append (f g : List (BitVec 8)) (p : Nat) (hp : p / 8 < f.length) : setB (f ++ g) p = setB f p ++ g := by
  unfold setB
  rw [List.set_append_left _ _ hp, getD_app _ _ hp]
theorem setAll_append (g : List (BitVec 8)) : ∀ (ps : List Nat) (f : List (BitVec 8)), (∀ p, p ∈ ps → p / 8 < f.length) → setAll (f ++ g) ps = setAll f ps ++ g
  | [], _, _ => rfl
  | p :: r, f, h => by
    show setAll (setB (f ++ g) p) r = setAll (setB f p) r ++ g
    rw [setB_append f g p (h p (List.mem_cons_self ..)), setAll_append g r _ (fun x hx => by rw [setB_length]; exact h x (List.mem_cons_of_mem _ hx))]
theorem bitOf_append (f g : List (BitVec 8)) (p : Nat) (hp : p / 8 < f.length) : bitOf (f ++ g) p = bitOf f p := by
  unfold bitOf
  rw [getD_app _ _ hp]
theorem setAll_snoc (f : List (BitVec 8)) (ps : List Nat) (p : Nat) : setAll f (ps ++ [p]) = setB (setAll f ps) p := by simp [setAll, List.foldl_append]
theorem keyBits_snoc (n k : Nat) (keys : List (List (BitVec 8))) (x : List (BitVec 8)) (f : List (BitVec 8)) : keyBits n k (keys ++ [x]) f = setAll (keyBits n k keys f) (probes (hashB x).toNat n k) := by simp [keyBits, List.foldl_append]
theorem kOf_bd (c : Nat) : 1 ≤ kOf c ∧ kOf c ≤ 30 := by unfold kOf; omega
theorem nBits_pos (m c : Nat) : 64 ≤ nBits m c ∧ nBits m c % 8 = 0 := by unfold nBits; omega
theorem nBits_le (m c : Nat) (h : m * c ≤ 8388608) : nBits m c ≤ 8388608 := by unfold nBits; omega
theorem filt_length (keys : List (List (BitVec 8))) (c : Nat) : (filt keys c).length = nBits keys.length c / 8 + 1 := by simp [filt, keyBits_length, zeros]
theorem filt_last (keys : List (List (BitVec 8))) (c : Nat) : lastB (filt keys c) = kOf c := by
  unfold lastB
  rw [filt_length, Nat.add_sub_cancel]
  unfold filt
  rw [List.getD_eq_getElem?_getD, List.getElem?_append_right (by simp [keyBits_length, zeros])]
  simp [keyBits_length, zeros]
  have := kOf_bd c
  omega
/-- Bits that are set in a filter, whatever else is set, tell its keys. -/
theorem has_keeps (keys : List (List (BitVec 8))) (c : Nat) (f : List (BitVec 8)) (hl : f.length = (filt keys c).length) (hlast : lastB f = kOf c) (hb : ∀ p, p < nBits keys.length c → bitOf (filt keys c) p = true → bitOf f p = true) (key : List (BitVec 8)) (hk : key ∈ keys) : hasB f key = true := by
  unfold hasB
  simp only [Bool.or_eq_true]
  right
  rw [List.all_eq_true]
  intro p hp
  have hn := nBits_pos keys.length c
  rw [hl, filt_length, hlast, Nat.add_sub_cancel, Nat.div_mul_cancel (Nat.dvd_of_mod_eq_zero hn.2)] at hp
  have hpn := mem_probes (by omega) hp
  refine hb p hpn ?_
  unfold filt
  rw [bitOf_append _ _ _ (by simp [keyBits_length, zeros]; omega)]
  exact bitOf_keyBits _ _ (by omega) keys _ p (by simp [zeros]; omega) (.inr ⟨key, hk, hp⟩)
end Go.Proofs.Ytppikddjdjmakaa
