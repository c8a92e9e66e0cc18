/-
  The part of a row between two keys, as a row.
-/
import Derived.Test.YtjnpendihdlgnaaSb
import Derived.Test.YtjnpendihdlgnaaSn
namespace Go.Proofs.Ytjnpendihdlgnaa
open Go.RowKit
set_option maxRecDepth 100000
set_option maxHeartbeats 4000000
def rng (fk tk : Ky) (x : Tow) : Bool := atOr fk x && (tk.isEmpty || !atOr tk x)
theorem filter_interval {α : Type} : ∀ (R : List α) (f : α → Bool) (s e : Nat), s ≤ e → (∀ i x, R[i]? = some x → (f x = true ↔ s ≤ i ∧ i < e)) → R.filter f = (R.drop s).take (e - s)
  | [], f, s, e, _, _ => by simp
  | x :: r, f, s, e, hse, h => by
    have h0 := h 0 x rfl
    cases e with
    | zero =>
      obtain rfl : s = 0 := by omega
      have ih := filter_interval r f 0 0 (Nat.le_refl _) fun i y hy => by have := h (i + 1) y (by simpa using hy); rw [this]; omega
      have hf : ¬ f x = true := by rw [h0]; omega
      rw [List.filter_cons_of_neg hf, ih]
      simp
    | succ e =>
      cases s with
      | zero =>
        have ih := filter_interval r f 0 e (Nat.zero_le _) fun i y hy => by have := h (i + 1) y (by simpa using hy); rw [this]; omega
        have hf : f x = true := by rw [h0]; omega
        rw [List.filter_cons_of_pos hf, ih]
        simp
      | succ s =>
        have ih := filter_interval r f s e (by omega) fun i y hy => by have := h (i + 1) y (by simpa using hy); rw [this]; omega
        have hf : ¬ f x = true := by rw [h0]; omega
        rw [List.filter_cons_of_neg hf, ih, show e + 1 - (s + 1) = e - s by omega]
        simp
theorem found_at {R : List Tow} {key : Ky} {k i : Nat} {x : Tow} (h : Found (atN R key) R.length k) (hi : R[i]? = some x) : atOr key x = true ↔ k ≤ i := by
  have hl := (List.getElem?_eq_some_iff.1 hi).1
  have e : atN R key i = atOr key x := by unfold atN; rw [hi]
  rw [← e]
  constructor
  · intro h1
    rcases Nat.lt_or_ge i k with h2 | h2
    · rw [h.2.1 i h2] at h1; cases h1
    · exact h2
  · intro h1
    exact h.2.2 i h1 hl
theorem rng_part {R : List Tow} {fk tk : Ky} {k1 k2 : Nat} (h1 : Found (atN R fk) R.length k1) (h2 : Found (atN R tk) R.length k2) (hto : tk ≠ []) : R.filter (rng fk tk) = (R.drop k1).take (max k1 k2 - k1) := by
  refine filter_interval R _ k1 (max k1 k2) (by omega) fun i x hx => ?_
  have e : tk.isEmpty = false := by simpa using hto
  simp only [rng, e, Bool.false_or, Bool.and_eq_true, Bool.not_eq_true', found_at h1 hx]
  have := found_at h2 hx
  cases h3 : atOr tk x with
  | true => have := this.1 h3; simp; omega
  | false =>
    have : ¬ k2 ≤ i := fun h => by rw [this.2 h] at h3; cases h3
    simp
    omega
theorem rng_all {R : List Tow} {fk : Ky} {k1 : Nat} (h1 : Found (atN R fk) R.length k1) : R.filter (rng fk []) = (R.drop k1).take (R.length - k1) := by
  have hk := h1.1
  refine filter_interval R _ k1 R.length hk fun i x hx => ?_
  have hl := (List.getElem?_eq_some_iff.1 hx).1
  simp only [rng, List.isEmpty_nil, Bool.true_or, Bool.and_true, found_at h1 hx]
  omega
/-- A part of a row. -/
theorem RwOk.part {w : World} {b off c s m : Nat} {R : List Tow} (h : RwOk w ⟨some ⟨b, off, none⟩, c, R⟩) (hs : s + m ≤ R.length) (c' : Nat) (hc : m ≤ c') : RwOk w ⟨some ⟨b, off + s * 4, none⟩, c', (R.drop s).take m⟩ := by
  have hl : ((R.drop s).take m).length = m := by rw [List.length_take, List.length_drop]; omega
  refine ⟨fun k x hx => ?_, by simp only [hl]; exact hc, by have := h.size; simp only at this; simp only [hl]; omega⟩
  have hk := (List.getElem?_eq_some_iff.1 hx).1
  simp only [hl] at hk
  have hx' : R[s + k]? = some x := by
    simp only at hx
    rw [List.getElem?_take_of_lt hk, List.getElem?_drop] at hx
    exact hx
  obtain ⟨⟨b', off', e, hc'⟩, h1, h2⟩ := h.ents (s + k) x hx'
  simp only [Option.some.injEq, Addr.mk.injEq, and_true] at e
  obtain ⟨rfl, rfl⟩ := e
  refine ⟨⟨_, _, rfl, fun j u hu => ?_⟩, h1, h2⟩
  have := hc' j u hu
  rw [show off + (s + k) * 4 + j = off + s * 4 + k * 4 + j by omega] at this
  exact this
theorem RwOk.piece {w : World} {ad : Addr} {c s m : Nat} {R : List Tow} (h : RwOk w ⟨some ad, c, R⟩) (hs : s + m ≤ R.length) (c' : Nat) (hc : m ≤ c') : RwOk w ⟨some (ad.add (s * 4)), c', (R.drop s).take m⟩ := by
  cases m with
  | zero => exact ⟨fun k x hx => by simp at hx, by simp, by simp⟩
  | succ m =>
    obtain ⟨y, r, e⟩ := List.exists_cons_of_ne_nil (show R ≠ [] from fun e => by rw [e] at hs; simp at hs)
    obtain ⟨⟨b', o', e2, _⟩, _⟩ := h.ents 0 y (by simp only; rw [e]; rfl)
    simp only [Option.some.injEq] at e2
    subst e2
    rw [Go.WideShapes.add_plain]
    exact h.part hs c' hc
/-- What a slice of a row comes to. -/
theorem piece_end {w : World} {ad : Addr} {c s m n : Nat} {R : List Tow} (h : RwOk w ⟨some ad, c, R⟩) (hs : s + m ≤ n) (hn : n = R.length) (f : Tow → Bool) (hf : R.filter f = (R.drop s).take m) :
    (s < c → ∃ x' : Rw, Value.slice (some (ad.add (s * 4))) m (c - s) = .slice x'.a x'.R.length x'.c ∧ (∀ u, RwOk u ⟨some ad, c, R⟩ → RwOk u x') ∧ x'.R = R.filter f ∧ (x'.a = none → x'.c = 0)) ∧
    (c ≤ s → m = 0 ∧ ∃ x' : Rw, Value.slice (some ad) m 0 = .slice x'.a x'.R.length x'.c ∧ (∀ u, RwOk u ⟨some ad, c, R⟩ → RwOk u x') ∧ x'.R = R.filter f ∧ (x'.a = none → x'.c = 0)) := by
  have hc := h.cap
  simp only at hc
  have hl : ((R.drop s).take m).length = m := by rw [List.length_take, List.length_drop]; omega
  refine ⟨fun h1 => ⟨⟨_, c - s, (R.drop s).take m⟩, by simp only [hl], fun u hu => hu.piece (by omega) _ (by omega), hf.symm, fun e => by cases e⟩, fun h1 => ?_⟩
  obtain rfl : m = 0 := by omega
  exact ⟨rfl, ⟨some ad, 0, []⟩, rfl, fun u _ => ⟨fun k x hx => by simp at hx, by simp, by simp⟩, by rw [hf]; simp, fun e => by cases e⟩
theorem between_any (x : Rw) (fa ta : Option Addr) (fn fc tn tc : Nat) (fk tk : Ky) (w : World) (h : RwOk w x) (hnil : x.a = none → x.c = 0) (hf : Bytes w (.slice fa fn fc) fk) (ht : Bytes w (.slice ta tn tc) tk) (hup : x.R.Pairwise ltT) :
    Calls Try.prog 38 #[.slice x.a x.R.length x.c, .slice fa fn fc, .slice ta tn tc] w fun e w' => ∃ x' : Rw, e = .returned (.slice x'.a x'.R.length x'.c) ∧ (∀ u, RwOk u x → RwOk u x') ∧ x'.R = x.R.filter (rng fk tk) ∧ (x'.a = none → x'.c = 0) ∧ Below w.heap.size w w' := by
  have htl := ht.len
  have BF := hide (below_any x.a x.R.length x.c x.R fa fn fc fk w h.ents rfl h.size hf hup)
  have BT := hide (fun (u : World) (t : Turns (fun _ => False) w u) => below_any x.a x.R.length x.c x.R ta tn tc tk u (h.ents.quiet t) rfl h.size (ht.quiet t) hup)
  have H0 := hide h
  have hcap := h.cap
  have hsz := h.size
  obtain ⟨xa, xc, R⟩ := x
  simp only at *
  cases xa with
  | none =>
    obtain rfl : xc = 0 := hnil rfl
    obtain rfl : R = [] := List.eq_nil_of_length_eq_zero (by omega)
    have X := hide (fun (w' : World) (hb : Below w.heap.size w w') => show ∃ x' : Rw, Ending.returned (.slice none 0 0) = .returned (.slice x'.a x'.R.length x'.c) ∧ (∀ u, RwOk u ⟨none, 0, []⟩ → RwOk u x') ∧ x'.R = ([] : List Tow).filter (rng fk tk) ∧ (x'.a = none → x'.c = 0) ∧ Below w.heap.size w w' from ⟨⟨none, 0, []⟩, rfl, fun u _ => ⟨fun k x hx => by simp at hx, by simp, by simp⟩, rfl, fun _ => rfl, hb⟩)
    clear h hf ht hup hnil H0 hcap hsz htl
    by_cases hto : tn = 0
    · subst hto
      go_enter Try.func38, Try.ntmps38
      go_wp2_with fail
      refine BF.out.mono ?_
      rintro e w1 ⟨k1, rfl, hF, hb1⟩
      obtain rfl : k1 = 0 := Nat.le_zero.1 hF.1
      have HB1 := hide (X.out _ hb1)
      clear hF hb1
      go_wp2_with fail
      go_ret
      exact HB1.out
    · have hpos : 0 < tn := by omega
      go_enter Try.func38, Try.ntmps38
      go_wp2_with fail
      refine BF.out.mono ?_
      rintro e w1 ⟨k1, rfl, hF, hb1⟩
      obtain rfl : k1 = 0 := Nat.le_zero.1 hF.1
      have HB1 := hide hb1
      have CB := hide (BT.out w1 (Turns.of_below hb1 _))
      clear hF hb1
      go_wp2_with fail
      refine CB.out.mono ?_
      rintro e w2 ⟨k2, rfl, hF2, hb2⟩
      obtain rfl : k2 = 0 := Nat.le_zero.1 hF2.1
      have HB2 := hide (X.out _ (then_below HB1.out hb2 (Nat.le_refl _)))
      clear hF2 hb2
      go_wp2_with fail
      go_ret
      exact HB2.out
  | some ad =>
    by_cases hto : tk = []
    · subst hto
      obtain rfl : tn = 0 := htl
      have HRP := hide (fun (k1 : Nat) (h1 : Found (atN R fk) R.length k1) => piece_end h (show k1 + (R.length - k1) ≤ R.length by have := h1.1; omega) rfl _ (rng_all (fk := fk) h1))
      clear h hf ht hup
      generalize hn : R.length = n at *
      have HN := hide hn
      clear hn
      go_enter Try.func38, Try.ntmps38
      go_wp2_with fail
      refine BF.out.mono ?_
      rintro e w1 ⟨k1, rfl, hF, hb1⟩
      have hk1 := hF.1
      have HP := hide (HRP.out k1 hF)
      have hk1i : (k1 : Int) ≤ (n : Int) := by omega
      have hni : (n : Int) ≤ (xc : Int) := by omega
      have HB1 := hide hb1
      clear hF hb1
      by_cases hkc : k1 < xc
      · have hkci : (k1 : Int) < (xc : Int) := by omega
        have X := hide (HP.out.1 hkc)
        go_wp2_with fail
        go_ret
        obtain ⟨x', e1, e2, e3, e4⟩ := X.out
        exact ⟨x', congrArg Ending.returned e1, e2, e3, e4, HB1.out⟩
      · obtain rfl : xc = k1 := by omega
        obtain ⟨hm0, x', e1, e2, e3, e4⟩ := HP.out.2 (by omega)
        obtain rfl : n = xc := by omega
        rw [Nat.sub_self] at e1
        have X := hide (show ∃ x' : Rw, Value.slice (some ad) 0 0 = .slice x'.a x'.R.length x'.c ∧ (∀ u, RwOk u ⟨some ad, _, R⟩ → RwOk u x') ∧ x'.R = R.filter (rng fk []) ∧ (x'.a = none → x'.c = 0) from ⟨x', e1, e2, e3, e4⟩)
        clear e1 e2 e3 e4 hm0
        go_wp2_with fail
        go_ret
        obtain ⟨x', e1, e2, e3, e4⟩ := X.out
        exact ⟨x', congrArg Ending.returned e1, e2, e3, e4, HB1.out⟩
    · have hpos : 0 < tn := by rw [htl]; exact List.length_pos_iff.2 hto
      have HRP := hide (fun (k1 k2 : Nat) (h1 : Found (atN R fk) R.length k1) (h2 : Found (atN R tk) R.length k2) => piece_end h (show k1 + (max k1 k2 - k1) ≤ R.length by have := h1.1; have := h2.1; omega) rfl _ (rng_part (fk := fk) (tk := tk) h1 h2 hto))
      clear h hf ht hup htl
      generalize hn : R.length = n at *
      have HN := hide hn
      clear hn
      go_enter Try.func38, Try.ntmps38
      go_wp2_with fail
      refine BF.out.mono ?_
      rintro e w1 ⟨k1, rfl, hF, hb1⟩
      have hk1 := hF.1
      have HF := hide hF
      have hk1i : (k1 : Int) ≤ (n : Int) := by omega
      have hni : (n : Int) ≤ (xc : Int) := by omega
      have HB1 := hide hb1
      have CB := hide (BT.out w1 (Turns.of_below hb1 _))
      clear hF hb1
      go_wp2_with fail
      refine CB.out.mono ?_
      rintro e w2 ⟨k2, rfl, hF2, hb2⟩
      have hk2 := hF2.1
      have HP := hide (HRP.out k1 k2 HF.out hF2)
      have hk2i : (k2 : Int) ≤ (n : Int) := by omega
      have HB2 := hide (then_below HB1.out hb2 (Nat.le_refl _))
      clear hF2 hb2 CB
      have fin : ∀ v, (∃ x' : Rw, v = .slice x'.a x'.R.length x'.c ∧ (∀ u, RwOk u ⟨some ad, xc, R⟩ → RwOk u x') ∧ x'.R = R.filter (rng fk tk) ∧ (x'.a = none → x'.c = 0)) → ∃ x' : Rw, Ending.returned v = .returned (.slice x'.a x'.R.length x'.c) ∧ (∀ u, RwOk u ⟨some ad, xc, R⟩ → RwOk u x') ∧ x'.R = R.filter (rng fk tk) ∧ (x'.a = none → x'.c = 0) ∧ Below w.heap.size w w2 := fun v hv => by
        obtain ⟨x', e1, e2, e3, e4⟩ := hv
        exact ⟨x', congrArg Ending.returned e1, e2, e3, e4, HB2.out⟩
      have FN := hide fin
      clear fin
      by_cases hk : k1 < k2
      · have hki : (k1 : Int) < (k2 : Int) := by omega
        rw [show max k1 k2 = k2 by omega] at HP
        have hmx : max (k1 : Int) (k2 : Int) = k2 := by omega
        by_cases hkc : k1 < xc
        · have hkci : (k1 : Int) < (xc : Int) := by omega
          have X := hide (FN.out _ (HP.out.1 hkc))
          go_wp2_with fail
          go_ret
          exact X.out
        · obtain ⟨hm0, hx⟩ := HP.out.2 (by omega)
          obtain rfl : xc = k1 := by omega
          omega
      · have hki : ¬ (k1 : Int) < (k2 : Int) := by omega
        rw [show max k1 k2 = k1 by omega, Nat.sub_self] at HP
        have hmx : max (k1 : Int) (k2 : Int) = k1 := by omega
        by_cases hkc : k1 < xc
        · have hkci : (k1 : Int) < (xc : Int) := by omega
          have X := hide (FN.out _ (HP.out.1 hkc))
          go_wp2_with fail
          all_goals go_ret
          all_goals exact X.out
        · obtain ⟨_, hx⟩ := HP.out.2 (by omega)
          obtain rfl : xc = k1 := by omega
          have X := hide (FN.out _ hx)
          clear hx
          go_wp2_with fail
          go_ret
          exact X.out
end Go.Proofs.Ytjnpendihdlgnaa
