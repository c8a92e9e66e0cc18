/-
  The reader's calls, whether it has an error or not.
-/
import Derived.Test.YtolaaodhnhdadaaB8
namespace Go.Proofs.Ytolaaodhnhdadaa
open Go.RowKit
set_option maxRecDepth 100000
set_option maxHeartbeats 4000000
theorem new_any (a : Option Addr) (n c : Nat) (p : List (BitVec 8)) (w : World) (h : Bytes w (.slice a n c) p) (hn : n ≤ 1000000) :
    Calls Try.prog 40 #[.slice a n c] w fun e w' => ∃ r, e = .returned (.pointer (some ⟨r, 0, none⟩)) ∧ w.heap.size ≤ r ∧ r < w'.heap.size ∧ Rdr w' r p 0 0 ∧ Below w.heap.size w w' := by
  have hl := h.len
  have H := hide h
  have HL := hide hl
  clear h hl
  go_enter Try.func40, Try.ntmps40
  go_wp2_with fail
  refine (clone_any a n c p _ H.out hn).mono ?_
  rintro e w1 ⟨a1, c1, rfl, hb1, hk1, hc1, hn1, b1⟩
  have HB1 := hide hb1
  have HK1 := hide hk1
  have B1 := hide b1
  clear hb1 hk1 b1
  go_wp2_with fail
  go_ret
  have b2 := (Below.refl w1.heap.size w1).alloc (Nat.le_refl _) (.cells #[.slice a1 n c1, .int .i64 0, .bool true, .int .i64 0] 92)
  have n2 := heap_alloc_new w1 (.cells #[.slice a1 n c1, .int .i64 0, .bool true, .int .i64 0] 92)
  refine ⟨w1.heap.size, rfl, B1.out.size, by simp, ⟨a1, c1, ?_, ?_, by rw [← HL.out]; exact hc1, ?_, fun x e => (HK1.out x e).2⟩, B1.out.trans (b2.mono B1.out.size)⟩
  · rw [← HL.out]; exact n2
  · rw [← HL.out]; exact HB1.out.below b2
  · exact hn1
theorem leftR_any (r : Nat) (p : List (BitVec 8)) (i : Nat) (e : Int) (w : World) (h : Rdr w r p i e) (hp : p.length ≤ 1000000) (hi : i ≤ p.length) :
    Calls Try.prog 41 #[.pointer (some ⟨r, 0, none⟩)] w fun e' w' => e' = .returned (.int .i64 ((p.length - i : Nat) : Int)) ∧ ∃ m, w' = w.drewN m := by
  have H := hide h
  clear h
  go_enter Try.func41, Try.ntmps41
  go_wp2_with fail
  refine (made_any r p i e w H.out).mono ?_
  rintro e' w1 ⟨rfl, m, rfl⟩
  go_wp2_with fail
  refine (left_any r p i e (w.drewN m) (H.out.drewN m) hp hi).mono ?_
  rintro e' w2 ⟨rfl, m2, hw2⟩
  rw [World.drewN_drewN] at hw2
  subst hw2
  generalize hLd : p.length - i = L at *
  have HLd := hide hLd
  clear hLd
  go_wp2_with fail
  go_ret
  exact ⟨by rw [HLd.out]; rfl, _, rfl⟩
theorem atR_any (r : Nat) (p : List (BitVec 8)) (i : Nat) (e : Int) (w : World) (h : Rdr w r p i e) :
    Calls Try.prog 55 #[.pointer (some ⟨r, 0, none⟩)] w fun e' w' => e' = .returned (.int .i64 (i : Nat)) ∧ ∃ m, w' = w.drewN m := by
  obtain ⟨a, c, c0, c1, c2, c3⟩ := h.cells
  have H := hide h
  clear h
  go_enter Try.func55, Try.ntmps55
  go_wp2_with fail
  refine (made_any r p i e w H.out).mono ?_
  rintro e' w1 ⟨rfl, m, rfl⟩
  go_wp2_with fail
  go_ret
  exact ⟨rfl, m, rfl⟩
/-- What Number answers, where the reader stands then, and its error. -/
def numR (p : List (BitVec 8)) (i : Nat) (e : Int) : Nat × Nat × Int :=
  if e = 0 then match rdShort (p.drop i) with
    | .error z => (0, i, z)
    | .ok (x, k) => (x, i + k, 0)
  else (0, i, e)
theorem numR_le {p : List (BitVec 8)} {i : Nat} (e : Int) (h : i ≤ p.length) : (numR p i e).2.1 ≤ p.length := by
  unfold numR
  split
  · split
    · exact h
    · rename_i hq
      have := rdShort_le hq
      rw [List.length_drop] at this
      simp only
      omega
  · exact h
theorem numR_lt {p : List (BitVec 8)} {i : Nat} (e : Int) : (numR p i e).1 < 18446744073709551616 := by
  unfold numR
  split
  · split
    · exact Nat.zero_lt_succ _
    · rename_i hq
      exact rdShort_bound hq
  · exact Nat.zero_lt_succ _
theorem number_all (r : Nat) (p : List (BitVec 8)) (i : Nat) (z : Int) (w : World) (h : Rdr w r p i z) (hp : p.length ≤ 1000000) (hi : i ≤ p.length) :
    Calls Try.prog 56 #[.pointer (some ⟨r, 0, none⟩)] w fun e w' => e = .returned (.int .u64 ((numR p i z).1 : Nat)) ∧ Rdr w' r p (numR p i z).2.1 (numR p i z).2.2 ∧ Turns (fun j => j = r) w w' := by
  by_cases hz : z = 0
  · subst hz
    refine (number_ok r p i w h hp hi).mono ?_
    rintro e w' ⟨h1, h2⟩
    unfold numR
    rw [if_pos rfl]
    cases hq : rdShort (p.drop i) with
    | error q => rw [hq] at h1; exact ⟨h1.1, h1.2, h2⟩
    | ok xk => obtain ⟨x, k⟩ := xk; rw [hq] at h1; exact ⟨h1.1, h1.2, h2⟩
  · have hn : numR p i z = (0, i, z) := by rw [numR, if_neg hz]
    rw [hn]
    have H := hide h
    clear h
    go_enter Try.func56, Try.ntmps56
    go_wp2_with fail
    refine (ready_any r p i z w H.out).mono ?_
    rintro e w1 ⟨rfl, m, rfl⟩
    rw [decide_eq_false hz]
    go_wp2_with fail
    go_ret
    exact ⟨rfl, H.out.drewN m, turnsN _ _⟩
/-- What Fixed answers. -/
def FixOk (r : Nat) (p : List (BitVec 8)) (i m : Nat) (z : Int) (w : World) (e : Ending) (w' : World) : Prop :=
  (z = 0 ∧ m ≤ p.length - i ∧ ∃ a' c', e = .returned (.slice a' m c') ∧ Bytes w' (.slice a' m c') ((p.drop i).take m) ∧ (∀ x, a' = some x → w.heap.size ≤ x.block ∧ x.block < w'.heap.size) ∧ Rdr w' r p (i + m) 0) ∨
  (¬ (z = 0 ∧ m ≤ p.length - i) ∧ e = .returned (.slice none 0 0) ∧ ∃ z', z' ≠ 0 ∧ Rdr w' r p i z')
theorem fixed_all (r : Nat) (p : List (BitVec 8)) (i m : Nat) (z : Int) (w : World) (h : Rdr w r p i z) (hp : p.length ≤ 1000000) (hi : i ≤ p.length) :
    Calls Try.prog 70 #[.pointer (some ⟨r, 0, none⟩), .int .i64 (m : Nat)] w fun e w' => FixOk r p i m z w e w' ∧ Turns (fun j => j = r) w w' := by
  have H := hide h
  clear h
  by_cases hz : z = 0
  · subst hz
    by_cases hml : m ≤ p.length - i
    · go_enter Try.func70, Try.ntmps70
      go_wp2_with fail
      refine (ready_any r p i 0 w H.out).mono ?_
      rintro e w1 ⟨rfl, m1, rfl⟩
      rw [decide_eq_true rfl]
      go_wp2_with fail
      refine (left_any r p i 0 (w.drewN m1) (H.out.drewN m1) hp hi).mono ?_
      rintro e w2 ⟨rfl, m2, hw2⟩
      rw [World.drewN_drewN] at hw2
      subst hw2
      have H2 := hide (H.out.drewN (m1 + m2))
      have T2 := hide (turnsN (S := fun j => j = r) w (m1 + m2))
      have hsz : (w.drewN (m1 + m2)).heap.size = w.heap.size := rfl
      generalize w.drewN (m1 + m2) = w2 at *
      have hg : ¬ ((p.length - i : Nat) : Int) < (m : Int) := by omega
      have HI := hide hml
      clear hml
      generalize hLd : p.length - i = L at *
      have HLd := hide hLd
      clear hLd
      go_wp2_with fail
      refine (take_any r p i m 0 w2 H2.out hp (by have h1 := HI.out; have h2 := HLd.out; omega)).mono ?_
      rintro e w3 ⟨a3, c3, rfl, hb3, hk3, h3, t3⟩
      rw [hsz] at hk3
      have HB3 := hide hb3
      have HK3 := hide hk3
      have H3 := hide h3
      have T3 := hide (T2.out.trans t3)
      clear hb3 hk3 h3 t3 hsz
      go_wp2_with fail
      go_ret
      exact ⟨.inl ⟨rfl, by rw [HLd.out]; exact HI.out, a3, c3, rfl, HB3.out, HK3.out, H3.out⟩, T3.out⟩
    · go_enter Try.func70, Try.ntmps70
      go_wp2_with fail
      refine (ready_any r p i 0 w H.out).mono ?_
      rintro e w1 ⟨rfl, m1, rfl⟩
      rw [decide_eq_true rfl]
      go_wp2_with fail
      refine (left_any r p i 0 (w.drewN m1) (H.out.drewN m1) hp hi).mono ?_
      rintro e w2 ⟨rfl, m2, hw2⟩
      rw [World.drewN_drewN] at hw2
      subst hw2
      have H2 := hide (H.out.drewN (m1 + m2))
      have T2 := hide (turnsN (S := fun j => j = r) w (m1 + m2))
      generalize w.drewN (m1 + m2) = w2 at *
      have hg : ((p.length - i : Nat) : Int) < (m : Int) := by omega
      have HI := hide hml
      clear hml
      generalize hLd : p.length - i = L at *
      have HLd := hide hLd
      clear hLd
      have fz := H2.out.frozen
      obtain ⟨a, c, c0, c1, c2, c3⟩ := H2.out.cells
      go_wp2_with fail
      go_ret
      exact ⟨.inr ⟨fun q => HI.out (by rw [← HLd.out]; exact q.2), rfl, 12, by decide, H2.out.setErr 12⟩, T2.out.trans (turns_cell (Turns.refl (fun j => j = r) w2) 3 _)⟩
  · go_enter Try.func70, Try.ntmps70
    go_wp2_with fail
    refine (ready_any r p i z w H.out).mono ?_
    rintro e w1 ⟨rfl, m1, rfl⟩
    rw [decide_eq_false hz]
    go_wp2_with fail
    go_ret
    exact ⟨.inr ⟨fun q => hz q.1, rfl, z, hz, H.out.drewN m1⟩, turnsN _ _⟩
end Go.Proofs.Ytolaaodhnhdadaa
