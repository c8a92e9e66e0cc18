/-
  The lists are sorted.
-/
import Derived.Test.YtmmcikbedegigaaVt
namespace Go.Proofs.Ytmmcikbedegigaa
open Go.RowKit Go.Shelf
set_option maxRecDepth 100000
set_option maxHeartbeats 4000000
/-- One list is put in another order. -/
theorem DR.again {w w' : World} {B G N k : Nat} {L : List Lv} (h : DR w B G N L) {x : Lv} (hx : L[k]? = some x) (t : Turns (fun j => x.a = some ⟨j, 0, none⟩) w w') {R' : List Tf} (hr : RowOk w' B x.a x.c R') (hl : R'.length = x.l.length) (hf : ∀ y ∈ R', FT w' B y) : DR w' B G N (L.set k ⟨x.a, x.c, R'⟩) := by
  have hkl := (List.getElem?_eq_some_iff.1 hx).1
  obtain ⟨cs, h1, h2, h3⟩ := h.head
  have hG' : w'.heap[G]? = some (.cells cs 50 (0, 0)) := t.heap h1 (fun e => (h.rows k x hx).ne h1 (by decide) G e rfl)
  have hat : ∀ (j : Nat) (y : Lv), (L.set k ⟨x.a, x.c, R'⟩)[j]? = some y → (j ≠ k ∧ L[j]? = some y) ∨ (j = k ∧ y = ⟨x.a, x.c, R'⟩) := fun j y hy => by
    by_cases hj : j = k
    · subst hj; rw [List.getElem?_set_self hkl] at hy; exact .inr ⟨rfl, (Option.some.inj hy).symm⟩
    · rw [List.getElem?_set_ne (by omega)] at hy; exact .inl ⟨hj, hy⟩
  have hrow : ∀ (j : Nat) (y : Lv), j ≠ k → L[j]? = some y → RowOk w' B y.a y.c y.l := fun j y hj hy => (h.rows j y hy).keep t fun g e e2 => h.apart j k y x hj hy hx g e e2
  refine ⟨⟨cs, hG', h2, fun j y hy => ?_⟩, h.hG, fun j y hy => ?_, fun i j y z hij hy hz g e => ?_, fun y hy z hz => ?_⟩
  · rcases hat j y hy with ⟨hj, hy⟩ | ⟨rfl, rfl⟩
    · exact h3 j y hy
    · simp only [hl]; exact h3 j x hx
  · rcases hat j y hy with ⟨hj, hy⟩ | ⟨rfl, rfl⟩
    · exact hrow j y hj hy
    · exact hr
  · rcases hat i y hy with ⟨hi, hy1⟩ | ⟨rfl, rfl⟩
    · rcases hat j z hz with ⟨hj, hz1⟩ | ⟨rfl, rfl⟩
      · exact h.apart i j y z hij hy1 hz1 g e
      · exact h.apart i j y x hi hy1 hx g e
    · rcases hat j z hz with ⟨hj, hz1⟩ | ⟨rfl, rfl⟩
      · exact h.apart i j x z hij hx hz1 g e
      · omega
  · obtain ⟨j, hj⟩ := List.getElem?_of_mem hy
    rcases hat j y hj with ⟨hj2, hy1⟩ | ⟨rfl, rfl⟩
    · exact (h.files y (List.mem_of_getElem? hy1) z hz).keep t fun j e _ cs' z' e2 => (h.rows k x hx).ne e2 (by decide) j e rfl
    · exact hf z hz
theorem sort_any (G c B : Nat) (L : List Lv) (w : World) (h : DR w B G 5 L) (hl : L.length = 5) (hc : cnt L ≤ 100000) :
    Calls Try.prog 55 #[.agg #[.slice (some ⟨G, 0, none⟩) 5 c]] w fun e w' => e = .returned (.tuple #[]) ∧ ∃ L', L'.length = 5 ∧ DR w' B G 5 L' ∧ (∀ (k : Nat) (x x' : Lv), L[k]? = some x → L'[k]? = some x' → x'.l.Perm x.l ∧ SortF k x'.l ∧ x'.a = x.a) ∧ Turns (own G L) w w' := by
  have TA := hide ((Turns.refl (fun _ => False) w).alloc (.cells #[.slice (some ⟨G, 0, none⟩) 5 c] 54))
  have H := hide (h.quiet TA.out)
  have HL := hide hl
  have HC := hide hc
  clear h hl hc
  go_enter Try.func55, Try.ntmps55
  go_wp2_with fail
  generalize w.alloc (.cells #[.slice (some ⟨G, 0, none⟩) 5 c] 54) = w0 at *
  go_loopw [7] (fun i wr => ∃ (k : Nat) (L2 : List Lv), i = .int .i64 (k : Nat) ∧ k ≤ 5 ∧ L2.length = 5 ∧ DR wr B G 5 L2 ∧ (∀ (j : Nat) (x x' : Lv), L[j]? = some x → L2[j]? = some x' → x'.l.Perm x.l ∧ (j < k → SortF j x'.l) ∧ x'.a = x.a) ∧ Turns (own G L) w wr) (fun i _ => 5 - (intOf i).toNat)
  case atStart => exact ⟨0, L, rfl, Nat.zero_le _, HL.out, H.out, fun j x x' hx hx' => by rw [hx] at hx'; cases hx'; exact ⟨.refl _, fun h => by omega, rfl⟩, TA.out.mono fun _ _ x => x.elim⟩
  case round =>
    obtain ⟨k, L2, rfl, hk, hl2, hd, hp, ht⟩ := hrel
    have HL2 := hide hl2
    have HD := hide hd
    have HP := hide hp
    have HT := hide ht
    clear hl2 hd hp ht
    by_cases hkn : k < 5
    · obtain ⟨x, hx⟩ : ∃ x, L2[k]? = some x := ⟨_, List.getElem?_eq_getElem (by have := HL2.out; omega)⟩
      obtain ⟨x0, hx0⟩ : ∃ x, L[k]? = some x := ⟨_, List.getElem?_eq_getElem (by have := HL.out; omega)⟩
      have hpx := HP.out k x0 x hx0 hx
      have hxl : x.l.length ≤ 1000000 := by
        have h1 := hpx.1.length_eq
        have := cnt_take hx0; have := cnt_take_le L (k + 1); have := HC.out; omega
      obtain ⟨⟨b, off, e, hcl⟩, _⟩ := HD.out.levs k x hx
      cases e
      rw [Nat.zero_add] at hcl
      have i1 : (k : Int) < 5 := by omega
      have i0 : (0 : Int) ≤ k := by omega
      have TV := hide ((Turns.refl (fun _ => False) wr).alloc (.cells #[.int .i64 (k : Nat)] 3))
      have RV := hide (heap_alloc_new wr (.cells #[.int .i64 (k : Nat)] 3))
      have CS := hide (show Calls Try.prog 72 #[.slice x.a x.l.length x.c, .func (.func 73) #[] #[.pointer (some ⟨wr.heap.size, 0, none⟩)]] (wr.alloc (.cells #[.int .i64 (k : Nat)] 3)) fun e w' => e = .returned (.tuple #[]) ∧ ∃ R', R'.Perm x.l ∧ SortF k R' ∧ RowOk w' B x.a x.c R' ∧ Turns (fun j => x.a = some ⟨j, 0, none⟩) wr w' from by
        rcases (HD.out.rows k x hx).keep TV.out (fun _ _ x => x) with ⟨e1, e2, e3⟩ | ⟨g, e1, e2, e3, hrow⟩
        · rw [e1, e2, e3]
          exact (sort_none none 0 _ _).mono fun e w' ⟨q1, q2⟩ => by
            subst q2
            exact ⟨q1, [], .refl _, fun i j x y _ hx => by simp at hx, .inl ⟨rfl, rfl, rfl⟩, TV.out.mono fun _ _ x => x.elim⟩
        · rw [e1]
          exact (sortFunc_any k wr.heap.size g x.c B x.l _ hrow e3 (fun y hy => (HD.out.files x (List.mem_of_getElem? hx) y hy).quiet TV.out) RV.out hxl).mono fun e w' ⟨q1, R', q2, q3, q4, q5⟩ =>
            ⟨q1, R', q2, q3, .inr ⟨g, rfl, e2, by rw [q2.length_eq]; exact e3, q4⟩, (TV.out.mono fun _ _ x => x.elim).trans (q5.mono fun j _ e => by rw [e])⟩)
      have HX := hide hx
      have HX0 := hide hx0
      have HPX := hide hpx
      obtain ⟨xa, xc, xl⟩ := x
      simp only at *
      generalize xl.length = XL at *
      clear hx hx0 hpx hxl
      go_wp2_with fail
      refine CS.out.mono ?_
      rintro e w1 ⟨rfl, R', hp, hs, hro, htn⟩
      have REL := hide (show ∃ L3 : List Lv, L3.length = 5 ∧ DR w1 B G 5 L3 ∧ (∀ (j : Nat) (x x' : Lv), L[j]? = some x → L3[j]? = some x' → x'.l.Perm x.l ∧ (j < k + 1 → SortF j x'.l) ∧ x'.a = x.a) ∧ Turns (own G L) w w1 from by
        have hkl := (List.getElem?_eq_some_iff.1 HX.out).1
        refine ⟨L2.set k ⟨xa, xc, R'⟩, by rw [List.length_set]; exact HL2.out, HD.out.again HX.out htn hro hp.length_eq (fun y hy => (HD.out.files _ (List.mem_of_getElem? HX.out) y (hp.mem_iff.1 hy)).keep htn fun j e _ cs' z' e2 => (HD.out.rows k _ HX.out).ne e2 (by decide) j e rfl), fun j y y' hy hy' => ?_, HT.out.trans (htn.mono fun j _ e => .inr ⟨k, x0, HX0.out, ?_⟩)⟩
        · by_cases hj : j = k
          · subst hj
            rw [List.getElem?_set_self hkl] at hy'
            cases hy'
            rw [HX0.out] at hy
            cases hy
            exact ⟨hp.trans HPX.out.1, fun _ => hs, HPX.out.2.2⟩
          · rw [List.getElem?_set_ne (by omega)] at hy'
            have h1 := HP.out j y y' hy hy'
            exact ⟨h1.1, fun h => h1.2.1 (by omega), h1.2.2⟩
        · rw [← HPX.out.2.2]; exact e)
      clear hp hs hro htn CS
      go_wp2_with fail
      obtain ⟨L3, r1, r2, r3, r4⟩ := REL.out
      go_roundw
      case rel => exact ⟨k + 1, L3, by go_num, by omega, r1, r2, r3, r4⟩
      case measure => simp [intOf]; omega
    · obtain rfl : k = 5 := by omega
      go_wp2_with fail
      go_end0
      refine ⟨rfl, L2, HL2.out, HD.out, fun j x x' hx hx' => ?_, HT.out⟩
      have h1 := HP.out j x x' hx hx'
      exact ⟨h1.1, h1.2.1 (by have := (List.getElem?_eq_some_iff.1 hx).1; have := HL.out; omega), h1.2.2⟩
end Go.Proofs.Ytmmcikbedegigaa
