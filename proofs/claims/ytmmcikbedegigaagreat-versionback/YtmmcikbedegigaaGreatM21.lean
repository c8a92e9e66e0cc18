import Derived.Test.YtmmcikbedegigaaGreatM20
import Derived.Test.YtmmcikbedegigaaGreatM13
/-
  The reader of an edit: its calls.
-/
namespace Go.Proofs.YtmmcikbedegigaaGreat
open Go.RowKit
set_option maxRecDepth 100000
set_option maxHeartbeats 4000000
/-- What wire's Number answers, whatever the reader's error is. -/
def WNum (p : List (BitVec 8)) (i : Nat) (e : Int) (x i' : Nat) (e' : Int) : Prop :=
  (e = 0 ∧ ((∃ z, rdShort (p.drop i) = .error z ∧ x = 0 ∧ i' = i ∧ e' = z ∧ z ≠ 0) ∨ ∃ k, rdShort (p.drop i) = .ok (x, k) ∧ i' = i + k ∧ e' = 0)) ∨ (e ≠ 0 ∧ x = 0 ∧ i' = i ∧ e' = e)
theorem wnum_any (Q : Nat) (p : List (BitVec 8)) (i : Nat) (e : Int) (w : World) (h : Rdr w Q p i e) (hp : p.length ≤ 1000000) (hi : i ≤ p.length) :
    Calls Tryz.prog 64 #[.pointer (some ⟨Q, 0, none⟩)] w fun en w' => ∃ (x i' : Nat) (e' : Int), en = .returned (.int .u64 (x : Nat)) ∧ x < 18446744073709551616 ∧ Rdr w' Q p i' e' ∧ i' ≤ p.length ∧ WNum p i e x i' e' ∧ Turns (fun j => j = Q) w w' := by
  by_cases he : e = 0
  · subst he
    refine (number_ok Q p i w h hp hi).mono ?_
    rintro en w' ⟨h1, t⟩
    cases hq : rdShort (p.drop i) with
    | error z =>
      rw [hq] at h1
      obtain ⟨rfl, hr⟩ := h1
      exact ⟨0, i, z, rfl, by omega, hr, hi, .inl ⟨rfl, .inl ⟨z, hq, rfl, rfl, rfl, by rcases rdShort_err hq with rfl | rfl <;> decide⟩⟩, t⟩
    | ok xk =>
      obtain ⟨x, k⟩ := xk
      rw [hq] at h1
      obtain ⟨rfl, hr⟩ := h1
      have hk := rdShort_le hq
      rw [List.length_drop] at hk
      exact ⟨x, i + k, 0, rfl, rdShort_bound hq, hr, by omega, .inl ⟨rfl, .inr ⟨k, hq, rfl, rfl⟩⟩, t⟩
  · refine (number_err Q p i e he w h).mono ?_
    rintro en w' ⟨rfl, m, rfl⟩
    exact ⟨0, i, e, rfl, by omega, h.drewN m, hi, .inr ⟨he, rfl, rfl, rfl⟩, turnsN w m⟩
theorem wpiece_err (Q : Nat) (p : List (BitVec 8)) (i : Nat) (z : Int) (hz : z ≠ 0) (w : World) (h : Rdr w Q p i z) :
    Calls Tryz.prog 89 #[.pointer (some ⟨Q, 0, none⟩)] w fun e w' => e = .returned (.slice none 0 0) ∧ ∃ m, w' = w.drewN m := by
  have H := hide h
  clear h
  go_enter Tryz.func89, Tryz.ntmps89
  go_wp2_with fail
  refine (ready_any Q p i z w H.out).mono ?_
  rintro e w1 ⟨rfl, m, rfl⟩
  rw [decide_eq_false hz]
  go_wp2_with fail
  go_ret
  exact ⟨rfl, m, rfl⟩
/-- The reader of an edit in memory: what is left, as long as nothing was wrong. -/
structure Rd (w : World) (R Q : Nat) (p : List (BitVec 8)) (i : Nat) (e f : Int) (g : GS) : Prop where
  hR : w.heap[R]? = some (.cells #[.pointer (some ⟨Q, 0, none⟩), .int .i64 f] 79 (0, 0))
  rdr : Rdr w Q p i e
  le : i ≤ p.length
  lt : Q < R
  ok : ∀ l, g = some l → e = 0 ∧ f = 0 ∧ p.drop i = l
  bad : g = none → f ≠ 0
def noteI (f e : Int) : Int := if f = 0 then e else f
theorem note_any (R Q : Nat) (f e : Int) (w : World) (h : w.heap[R]? = some (.cells #[.pointer (some ⟨Q, 0, none⟩), .int .i64 f] 79 (0, 0))) :
    Calls Tryz.prog 65 #[.pointer (some ⟨R, 0, none⟩), .int .i64 e] w fun en w' => en = .returned (.tuple #[]) ∧ w'.heap[R]? = some (.cells #[.pointer (some ⟨Q, 0, none⟩), .int .i64 (noteI f e)] 79 (0, 0)) ∧ Turns (fun j => j = R) w w' := by
  have c1 := cell_of_row w R 1 _ 79 (0, 0) h
  have z1 := frozen_of_row w R 1 _ 79 h
  simp at c1
  have H := hide h
  by_cases hf : f = 0
  · subst hf
    have T1 := hide ((Tick.refl H.out).set 1 (.int .i64 e))
    clear h
    go_enter Tryz.func65, Tryz.ntmps65
    go_wp2_with fail
    go_end0
    exact ⟨rfl, T1.out.1, Turns.of_tick T1.out⟩
  · have hf' : (f == 0) = false := by simpa using hf
    have e1 : noteI f e = f := if_neg hf
    rw [e1]
    have HF := hide hf
    clear h hf e1
    go_enter Tryz.func65, Tryz.ntmps65
    go_wp2_with fail
    go_end0
    exact ⟨rfl, H.out, Turns.refl _ _⟩
theorem numG_of (l : List (BitVec 8)) : numG (some l) = match rdShort l with | .error _ => none | .ok (x, k) => if x ≤ 4611686018427387904 then some (x, l.drop k) else none := rfl
theorem Rd.keep {S : Nat → Prop} {w w' : World} {R Q : Nat} {p : List (BitVec 8)} {i : Nat} {e f : Int} {g : GS} (h : Rd w R Q p i e f g) (t : Turns S w w') (hS : ∀ k, S k → R < k) : Rd w' R Q p i e f g :=
  { h with hR := t.heap h.hR (fun x => by have := hS R x; omega), rdr := h.rdr.keep t fun k x => by have := hS k x; have := h.lt; omega }
/-- The same, with what only the reader itself knows left out. -/
def RdE (w : World) (R Q : Nat) (p : List (BitVec 8)) (g : GS) : Prop := ∃ i e f, Rd w R Q p i e f g
theorem RdE.keep {S : Nat → Prop} {w w' : World} {R Q : Nat} {p : List (BitVec 8)} {g : GS} (h : RdE w R Q p g) (t : Turns S w w') (hS : ∀ k, S k → R < k) : RdE w' R Q p g := by
  obtain ⟨i, e, f, h⟩ := h
  exact ⟨i, e, f, h.keep t hS⟩
theorem number_fin {w : World} {R Q : Nat} {p : List (BitVec 8)} {i i' x : Nat} {e f e' : Int} {g : GS} (h0 : Rd w R Q p i e f g) (hw : WNum p i e x i' e') {w' : World} (hx : x ≤ 4611686018427387904) (hR : w'.heap[R]? = some (.cells #[.pointer (some ⟨Q, 0, none⟩), .int .i64 (noteI f e')] 79 (0, 0))) (hr : Rdr w' Q p i' e') (hi : i' ≤ p.length) :
    RdE w' R Q p (sndG (numG g)) ∧ ∀ q, numG g = some q → x = q.1 := by
  refine ⟨⟨i', e', noteI f e', hR, hr, hi, h0.lt, fun l hl => ?_, fun hn => ?_⟩, fun q hq => ?_⟩
  · cases g with
    | none => cases hl
    | some l0 =>
      obtain ⟨rfl, rfl, rfl⟩ := h0.ok l0 rfl
      rw [numG_of] at hl
      rcases hw with ⟨_, ⟨z, hq, _⟩ | ⟨k, hq, rfl, rfl⟩⟩ | ⟨hne, _⟩
      · rw [hq] at hl; cases hl
      · rw [hq] at hl
        simp only [if_pos hx, sndG, Option.map_some, Option.some.injEq] at hl
        exact ⟨rfl, rfl, by rw [← hl, List.drop_drop]⟩
      · exact absurd rfl hne
  · cases g with
    | none => unfold noteI; rw [if_neg (h0.bad rfl)]; exact h0.bad rfl
    | some l0 =>
      obtain ⟨rfl, rfl, rfl⟩ := h0.ok l0 rfl
      rw [numG_of] at hn
      rcases hw with ⟨_, ⟨z, hq, _, _, rfl, hz⟩ | ⟨k, hq, rfl, rfl⟩⟩ | ⟨hne, _⟩
      · exact hz
      · rw [hq] at hn
        simp only [if_pos hx, sndG, Option.map_some] at hn
        cases hn
      · exact absurd rfl hne
  · cases g with
    | none => cases hq
    | some l0 =>
      obtain ⟨rfl, rfl, rfl⟩ := h0.ok l0 rfl
      rw [numG_of] at hq
      rcases hw with ⟨_, ⟨z, hz, _⟩ | ⟨k, hk, _⟩⟩ | ⟨hne, _⟩
      · rw [hz] at hq; cases hq
      · rw [hk] at hq
        simp only [if_pos hx, Option.some.injEq] at hq
        rw [← hq]
      · exact absurd rfl hne
theorem number_big {w : World} {R Q : Nat} {p : List (BitVec 8)} {i i' x : Nat} {e f e' : Int} {g : GS} (h0 : Rd w R Q p i e f g) (hw : WNum p i e x i' e') {w' : World} (hx : ¬ x ≤ 4611686018427387904) (hR : w'.heap[R]? = some (.cells #[.pointer (some ⟨Q, 0, none⟩), .int .i64 (noteI (noteI f e') 4)] 79 (0, 0))) (hr : Rdr w' Q p i' e') (hi : i' ≤ p.length) :
    RdE w' R Q p (sndG (numG g)) ∧ ∀ q, numG g = some q → 0 = q.1 := by
  have hn : numG g = none := by
    cases g with
    | none => rfl
    | some l0 =>
      obtain ⟨rfl, rfl, rfl⟩ := h0.ok l0 rfl
      rw [numG_of]
      rcases hw with ⟨_, ⟨z, hz, _⟩ | ⟨k, hk, _⟩⟩ | ⟨hne, _⟩
      · rw [hz]
      · rw [hk]; simp only [if_neg hx]
      · exact absurd rfl hne
  have hz : noteI (noteI f e') 4 ≠ 0 := by
    by_cases q : noteI f e' = 0
    · rw [noteI, if_pos q]; decide
    · rw [noteI, if_neg q]; exact q
  rw [hn]
  exact ⟨⟨i', e', _, hR, hr, hi, h0.lt, fun l hl => (by cases hl), fun _ => hz⟩, fun q hq => (by cases hq)⟩
/-- What reading a number does. -/
def NumG (w w' : World) (R Q : Nat) (p : List (BitVec 8)) (g : GS) (x : Nat) : Prop := x ≤ 4611686018427387904 ∧ RdE w' R Q p (sndG (numG g)) ∧ (∀ q, numG g = some q → x = q.1) ∧ Turns (fun j => j = R ∨ j = Q) w w'
theorem rnumber_any (R Q : Nat) (p : List (BitVec 8)) (g : GS) (w : World) (h : RdE w R Q p g) (hp : p.length ≤ 1000000) :
    Calls Tryz.prog 33 #[.pointer (some ⟨R, 0, none⟩)] w fun en w' => ∃ x, en = .returned (.int .u64 (x : Nat)) ∧ NumG w w' R Q p g x := by
  obtain ⟨i, e, f, h⟩ := h
  have H := hide h
  have HP := hide hp
  have c0 := cell_of_row w R 0 _ 79 (0, 0) h.hR
  clear h hp
  go_enter Tryz.func33, Tryz.ntmps33
  go_wp2_with fail
  refine (wnum_any Q p i e w H.out.rdr HP.out H.out.le).mono ?_
  rintro en w1 ⟨x, i', e', rfl, hx, hr, hi, hw, t⟩
  have HW := hide hw
  have HR := hide hr
  have HI := hide hi
  have T := hide t
  have hRQ : ¬ R = Q := by have := H.out.lt; omega
  have h1 := t.heap H.out.hR hRQ
  have H1 := hide h1
  have c0 := cell_of_row w1 R 0 _ 79 (0, 0) h1
  have HX := hide hx
  clear hw hr hi t h1 hRQ hx
  go_wp2_with fail
  refine (err_any Q p i' e' w1 HR.out).mono ?_
  rintro en w2 ⟨rfl, m, rfl⟩
  go_wp2_with fail
  refine (note_any R Q f e' (w1.drewN m) H1.out).mono ?_
  rintro en w3 ⟨rfl, hR3, t3⟩
  have H3 := hide hR3
  have T3 := hide ((turnsN (S := fun j => j = R) w1 m).trans t3)
  have HR3 := hide (HR.out.keep T3.out fun k e => by have := H.out.lt; omega)
  clear hR3 t3 c0
  by_cases hx : x ≤ 4611686018427387904
  · have i1 : ¬ (4611686018427387904 : Int) < (x : Int) := by omega
    have FIN := hide (number_fin H.out HW.out hx H3.out HR3.out HI.out)
    clear hx
    go_wp2_with fail
    go_ret
    exact ⟨x, rfl, by omega, FIN.out.1, FIN.out.2, (T.out.mono fun k _ e => .inr e).trans (T3.out.mono fun k _ e => .inl e)⟩
  · have i1 : (4611686018427387904 : Int) < (x : Int) := by omega
    have HXX := hide hx
    clear hx
    go_wp2_with fail
    refine (note_any R Q _ 4 w3 H3.out).mono ?_
    rintro en w4 ⟨rfl, hR4, t4⟩
    have HR4 := hide (HR3.out.keep t4 fun k e => by have := H.out.lt; omega)
    have T4 := hide (T3.out.trans t4)
    have FIN := hide (number_big H.out HW.out HXX.out hR4 HR4.out HI.out)
    clear hR4 t4
    go_wp2_with fail
    go_ret
    exact ⟨0, rfl, by omega, FIN.out.1, FIN.out.2, (T.out.mono fun k _ e => .inr e).trans (T4.out.mono fun k _ e => .inl e)⟩
theorem rinteger_any (R Q : Nat) (p : List (BitVec 8)) (g : GS) (w : World) (h : RdE w R Q p g) (hp : p.length ≤ 1000000) :
    Calls Tryz.prog 36 #[.pointer (some ⟨R, 0, none⟩)] w fun en w' => ∃ x : Nat, en = .returned (.int .i64 (x : Nat)) ∧ NumG w w' R Q p g x := by
  have CN := hide (rnumber_any R Q p g w h hp)
  clear h hp
  go_enter Tryz.func36, Tryz.ntmps36
  go_wp2_with fail
  refine CN.out.mono ?_
  rintro en w1 ⟨x, rfl, hn⟩
  have HN := hide hn
  have hx := hn.1
  clear hn
  have hx' : (x : Int) ≤ 4611686018427387904 := by omega
  go_wp2_with fail
  go_ret
  exact ⟨x, rfl, HN.out⟩
end Go.Proofs.YtmmcikbedegigaaGreat

/-
  The reader of an edit: counts, pieces, files, the end.
-/
namespace Go.Proofs.YtmmcikbedegigaaGreat
open Go.RowKit
set_option maxRecDepth 100000
set_option maxHeartbeats 4000000
/-- What reading a count does. -/
def CntG (w w' : World) (R Q : Nat) (p : List (BitVec 8)) (g : GS) (x : Nat) : Prop := x ≤ 10000 ∧ RdE w' R Q p (sndG (cntG g)) ∧ (∀ q, cntG g = some q → x = q.1) ∧ (cntG g = none → x = 0) ∧ Turns (fun j => j = R ∨ j = Q) w w'
theorem rcount_any (R Q : Nat) (p : List (BitVec 8)) (g : GS) (w : World) (h : RdE w R Q p g) (hp : p.length ≤ 1000000) :
    Calls Tryz.prog 34 #[.pointer (some ⟨R, 0, none⟩)] w fun en w' => ∃ x : Nat, en = .returned (.int .i64 (x : Nat)) ∧ CntG w w' R Q p g x := by
  have CN := hide (rinteger_any R Q p g w h hp)
  clear h hp
  go_enter Tryz.func34, Tryz.ntmps34
  go_wp2_with fail
  refine CN.out.mono ?_
  rintro en w1 ⟨x, rfl, hn⟩
  have HN := hide hn
  have hx0 := hn.1
  have hx' : (x : Int) ≤ 4611686018427387904 := by omega
  clear hx0
  obtain ⟨_, ⟨i, e, f, hrd⟩, _, t⟩ := hn
  have HR := hide hrd
  have T := hide t
  clear hrd t
  by_cases hx : x ≤ 10000
  · have i1 : ¬ (10000 : Int) < (x : Int) := by omega
    have c1 := cell_of_row w1 R 1 _ 79 (0, 0) HR.out.hR
    have HX := hide hx
    clear hx
    by_cases hf : f = 0
    · have FIN := hide (show RdE w1 R Q p (sndG (cntG g)) ∧ (∀ q, cntG g = some q → x = q.1) ∧ (cntG g = none → x = 0) from by
        unfold cntG
        cases hq : numG g with
        | none =>
          have h3 : sndG (numG g) = none := by rw [hq]; rfl
          exact absurd hf (HR.out.bad h3)
        | some q =>
          have e1 := HN.out.2.2.1 q hq
          rw [Option.bind_some, if_pos (by rw [← e1]; exact HX.out)]
          have h3 := HN.out.2.1
          rw [hq] at h3
          exact ⟨h3, fun q' e' => (by cases e'; exact e1), fun e' => (by cases e')⟩)
      subst hf
      go_wp2_with fail
      go_ret
      exact ⟨x, rfl, HX.out, FIN.out.1, FIN.out.2.1, FIN.out.2.2, T.out⟩
    · have hf' : (f == 0) = false := by simpa using hf
      have FIN := hide (show RdE w1 R Q p (sndG (cntG g)) ∧ cntG g = none from by
        unfold cntG
        cases hq : numG g with
        | none =>
          have h3 := HN.out.2.1
          rw [hq] at h3
          exact ⟨h3, rfl⟩
        | some q =>
          have h3 : sndG (numG g) = some q.2 := by rw [hq]; rfl
          exact absurd (HR.out.ok q.2 h3).2.1 hf)
      clear hf
      go_wp2_with fail
      go_ret
      exact ⟨0, rfl, by omega, FIN.out.1, fun q e' => (by rw [FIN.out.2] at e'; cases e'), fun _ => rfl, T.out⟩
  · have i1 : (10000 : Int) < (x : Int) := by omega
    have HX := hide hx
    clear hx
    go_wp2_with fail
    refine (note_any R Q f 3 w1 HR.out.hR).mono ?_
    rintro en w2 ⟨rfl, h2, t2⟩
    have H2 := hide h2
    have T2 := hide t2
    have hne : noteI f 3 ≠ 0 := by unfold noteI; split <;> first | decide | assumption
    have hf' : (noteI f 3 == 0) = false := by simpa using hne
    have c1 := cell_of_row w2 R 1 _ 79 (0, 0) h2
    have NONE := hide (show cntG g = none from by
      unfold cntG
      cases hq : numG g with
      | none => rfl
      | some q =>
        have e1 := HN.out.2.2.1 q hq
        rw [Option.bind_some, if_neg (by rw [← e1]; exact HX.out)])
    have FIN := hide (show RdE w2 R Q p (sndG (cntG g)) from by
      rw [NONE.out]
      exact ⟨i, e, noteI f 3, h2, HR.out.rdr.keep t2 fun k e => by have := HR.out.lt; omega, HR.out.le, HR.out.lt, fun l hl => (by cases hl), fun _ => hne⟩)
    clear h2 t2 hne
    generalize noteI f 3 = F at *
    go_wp2_with fail
    go_ret
    exact ⟨0, rfl, by omega, FIN.out, fun q e' => (by rw [NONE.out] at e'; cases e'), fun _ => rfl, T.out.trans (T2.out.mono fun k _ e => .inl e)⟩
/-- What wire's Piece answers, whatever the reader's error is. -/
def WPiece (p : List (BitVec 8)) (i : Nat) (e : Int) (l : List (BitVec 8)) (i' : Nat) (e' : Int) : Prop :=
  (e = 0 ∧ ((∃ z, rdPiece (p.drop i) = .error z ∧ e' ≠ 0) ∨ ∃ r, rdPiece (p.drop i) = .ok (l, r) ∧ p.drop i' = r ∧ e' = 0)) ∨ (e ≠ 0 ∧ e' = e)
theorem rdPiece_max {l q r : List (BitVec 8)} (h : rdPiece l = .ok (q, r)) : q.length ≤ 1048576 := by
  unfold rdPiece at h
  split at h
  · cases h
  · split at h
    · cases h
    · split at h
      · cases h
      · simp only [Except.ok.injEq, Prod.mk.injEq] at h
        rw [← h.1, List.length_take]
        omega
theorem wpiece_any (Q : Nat) (p : List (BitVec 8)) (i : Nat) (e : Int) (w : World) (h : Rdr w Q p i e) (hp : p.length ≤ 1000000) (hi : i ≤ p.length) :
    Calls Tryz.prog 89 #[.pointer (some ⟨Q, 0, none⟩)] w fun en w' => ∃ (a : Option Addr) (c : Nat) (l : List (BitVec 8)) (i' : Nat) (e' : Int), en = .returned (.slice a l.length c) ∧ Bytes w' (.slice a l.length c) l ∧ l.length ≤ 1048576 ∧ NB w' w.heap.size a ∧ Rdr w' Q p i' e' ∧ i' ≤ p.length ∧ WPiece p i e l i' e' ∧ Turns (fun j => j = Q) w w' := by
  by_cases he : e = 0
  · subst he
    refine (piece_any Q p (p.drop i) w ⟨i, hi, rfl, h⟩ hp).mono ?_
    rintro en w' ⟨h1, t⟩
    cases hq : rdPiece (p.drop i) with
    | error z =>
      rw [hq] at h1
      obtain ⟨rfl, hz, rest, i', hi', _, hr⟩ := h1
      exact ⟨none, 0, [], i', z, rfl, Bytes.empty _, by simp, fun x e => (by cases e), hr, hi', .inl ⟨rfl, .inl ⟨z, hq, hz⟩⟩, t⟩
    | ok xk =>
      obtain ⟨l, r⟩ := xk
      rw [hq] at h1
      obtain ⟨⟨a', c', rfl, hb, hnew⟩, i', hi', hd, hr⟩ := h1
      exact ⟨a', c', l, i', 0, rfl, hb, rdPiece_max hq, hnew, hr, hi', .inl ⟨rfl, .inr ⟨r, hq, hd, rfl⟩⟩, t⟩
  · refine (wpiece_err Q p i e he w h).mono ?_
    rintro en w' ⟨rfl, m, rfl⟩
    exact ⟨none, 0, [], i, e, rfl, Bytes.empty _, by simp, fun x e => (by cases e), h.drewN m, hi, .inr ⟨he, rfl⟩, turnsN w m⟩
/-- What reading a piece does. -/
def PieceG (w w' : World) (R Q : Nat) (p : List (BitVec 8)) (g : GS) (a : Option Addr) (c : Nat) (l : List (BitVec 8)) : Prop := Bytes w' (.slice a l.length c) l ∧ l.length ≤ 1048576 ∧ NB w' w.heap.size a ∧ RdE w' R Q p (sndG (pieceG g)) ∧ (∀ q, pieceG g = some q → l = q.1) ∧ Turns (fun j => j = R ∨ j = Q) w w'
theorem piece_fin {w : World} {R Q : Nat} {p l : List (BitVec 8)} {i i' : Nat} {e f e' : Int} {g : GS} (h0 : Rd w R Q p i e f g) (hw : WPiece p i e l i' e') {w' : World} (hR : w'.heap[R]? = some (.cells #[.pointer (some ⟨Q, 0, none⟩), .int .i64 (noteI f e')] 79 (0, 0))) (hr : Rdr w' Q p i' e') (hi : i' ≤ p.length) :
    RdE w' R Q p (sndG (pieceG g)) ∧ ∀ q, pieceG g = some q → l = q.1 := by
  cases g with
  | none =>
    refine ⟨⟨i', e', noteI f e', hR, hr, hi, h0.lt, fun l hl => (by cases hl), fun _ => ?_⟩, fun q hq => (by cases hq)⟩
    unfold noteI
    rw [if_neg (h0.bad rfl)]
    exact h0.bad rfl
  | some l0 =>
    obtain ⟨rfl, rfl, rfl⟩ := h0.ok l0 rfl
    rcases hw with ⟨_, ⟨z, hq, hz⟩ | ⟨r, hq, hd, rfl⟩⟩ | ⟨hne, _⟩
    · have e1 : pieceG (some (p.drop i)) = none := by unfold pieceG; simp only; rw [hq]
      rw [e1]
      exact ⟨⟨i', e', _, hR, hr, hi, h0.lt, fun l hl => (by cases hl), fun _ => hz⟩, fun q hq => (by cases hq)⟩
    · have e1 : pieceG (some (p.drop i)) = some (l, r) := by unfold pieceG; simp only; rw [hq]
      rw [e1]
      refine ⟨⟨i', 0, _, hR, hr, hi, h0.lt, fun l' hl => ⟨rfl, rfl, ?_⟩, fun hn => (by cases hn)⟩, fun q hq => (by cases hq; rfl)⟩
      rw [hd]
      exact Option.some.inj hl
    · exact absurd rfl hne
theorem rpiece_any (R Q : Nat) (p : List (BitVec 8)) (g : GS) (w : World) (h : RdE w R Q p g) (hp : p.length ≤ 1000000) :
    Calls Tryz.prog 69 #[.pointer (some ⟨R, 0, none⟩)] w fun en w' => ∃ (a : Option Addr) (c : Nat) (l : List (BitVec 8)), en = .returned (.slice a l.length c) ∧ PieceG w w' R Q p g a c l := by
  obtain ⟨i, e, f, h⟩ := h
  have H := hide h
  have HP := hide hp
  have c0 := cell_of_row w R 0 _ 79 (0, 0) h.hR
  clear h hp
  go_enter Tryz.func69, Tryz.ntmps69
  go_wp2_with fail
  refine (wpiece_any Q p i e w H.out.rdr HP.out H.out.le).mono ?_
  rintro en w1 ⟨a, c, l, i', e', rfl, hb, hl, hnew, hr, hi, hw, t⟩
  have HW := hide hw
  have HR := hide hr
  have HI := hide hi
  have T := hide t
  have HB := hide hb
  have HL := hide hl
  have HN := hide hnew
  have hRQ : ¬ R = Q := by have := H.out.lt; omega
  have h1 := t.heap H.out.hR hRQ
  have HRlt := hide (lt_of_heap H.out.hR)
  have H1 := hide h1
  have c0 := cell_of_row w1 R 0 _ 79 (0, 0) h1
  clear hw hr hi t h1 hRQ hb hl hnew
  generalize hLL : l.length = LL at *
  have HLL := hide hLL
  clear hLL
  go_wp2_with fail
  refine (err_any Q p i' e' w1 HR.out).mono ?_
  rintro en w2 ⟨rfl, m, rfl⟩
  go_wp2_with fail
  refine (note_any R Q f e' (w1.drewN m) H1.out).mono ?_
  rintro en w3 ⟨rfl, hR3, t3⟩
  have T3 := hide ((turnsN (S := fun j => j = R) w1 m).trans t3)
  have HR3 := hide (HR.out.keep T3.out fun k e => by have := H.out.lt; omega)
  have FIN := hide (piece_fin H.out HW.out hR3 HR3.out HI.out)
  clear hR3 t3 c0
  go_wp2_with fail
  go_ret
  refine ⟨a, c, l, by rw [HLL.out]; rfl, ?_⟩
  have hbb := HB.out
  rw [← HLL.out] at hbb
  exact ⟨hbb.turns T3.out fun x n c e => (by cases e; have := (HN.out _ rfl).1; have := HRlt.out; show ¬ x.block = R; omega), by have := HL.out; rw [HLL.out]; exact this, fun x e => (by obtain ⟨q1, cs, z, q2⟩ := HN.out x e; exact ⟨q1, cs, z, T3.out.heap q2 (by have := HRlt.out; omega)⟩), FIN.out.1, FIN.out.2, (T.out.mono fun k _ e => .inr e).trans (T3.out.mono fun k _ e => .inl e)⟩
theorem rend_any (R Q : Nat) (p : List (BitVec 8)) (g : GS) (w : World) (h : RdE w R Q p g) (hp : p.length ≤ 1000000) :
    Calls Tryz.prog 39 #[.pointer (some ⟨R, 0, none⟩)] w fun en w' => ∃ z : Int, en = .returned (.int .i64 z) ∧ (z = 0 ↔ g = some []) ∧ Turns (fun j => j = R ∨ j = Q) w w' := by
  obtain ⟨i, e, f, h⟩ := h
  have H := hide h
  have HP := hide hp
  have c0 := cell_of_row w R 0 _ 79 (0, 0) h.hR
  clear h hp
  go_enter Tryz.func39, Tryz.ntmps39
  go_wp2_with fail
  refine (end_any Q p i e w H.out.rdr HP.out H.out.le).mono ?_
  rintro en w1 ⟨rfl, m, rfl⟩
  go_wp2_with fail
  refine (note_any R Q f (endN e i p.length) (w.drewN m) H.out.hR).mono ?_
  rintro en w2 ⟨rfl, hR2, t2⟩
  have c1 := cell_of_row w2 R 1 _ 79 (0, 0) hR2
  have T2 := hide ((turnsN (S := fun j => j = R) w m).trans t2)
  have FIN := hide (show noteI f (endN e i p.length) = 0 ↔ g = some [] from by
    cases g with
    | none =>
      have hf := H.out.bad rfl
      unfold noteI
      rw [if_neg hf]
      exact ⟨fun h => absurd h hf, fun h => (by cases h)⟩
    | some l0 =>
      obtain ⟨he, hf, hl⟩ := H.out.ok l0 rfl
      have hle := H.out.le
      rw [he, hf]
      unfold noteI endN
      rw [if_pos rfl, if_neg (by omega)]
      rw [← hl, Option.some.injEq, List.drop_eq_nil_iff]
      split <;> omega)
  generalize noteI f (endN e i p.length) = F at *
  clear hR2 t2 c0
  go_wp2_with fail
  go_ret
  exact ⟨F, rfl, FIN.out, T2.out.mono fun k _ e => .inl e⟩
end Go.Proofs.YtmmcikbedegigaaGreat
