/-
  Small functions of blocks: isRestart, alike, shared.
-/
import Derived.Test.YtolaaodhnhdadaaBq
import Derived.Test.YtolaaodhnhdadaaEs
import Derived.Test.YtolaaodhnhdadaaEr
import Derived.Test.YtolaaodhnhdadaaRn
namespace Go.Proofs.Ytolaaodhnhdadaa
open Go.RowKit
set_option maxRecDepth 100000
set_option maxHeartbeats 4000000
theorem isRestart_any (i : Nat) (w : World) : Calls Try.prog 21 #[.int .i64 (i : Nat)] w fun e w' => e = .returned (.bool (decide (i % 16 = 0))) ∧ w' = w := by
  go_enter Try.func21, Try.ntmps21
  go_wp2_with fail
  go_ret
  refine ⟨congrArg Ending.returned (congrArg Value.bool ?_), rfl⟩
  exact Bool.eq_iff_iff.2 ⟨fun h => decide_eq_true (by have := eq_of_beq h; omega), fun h => by have := of_decide_eq_true h; exact beq_iff_eq.2 (by omega)⟩
theorem alike_drop (x y : List (BitVec 8)) (k : Nat) (hx : k < x.length) (hy : k < y.length) (h : x.take k = y.take k) (e : x[k] = y[k]) : x.take (k + 1) = y.take (k + 1) := take_eq_succ hx hy h e
/-- The bytes that are alike end here. -/
theorem alike_at : ∀ (k : Nat) (x y : List (BitVec 8)), k ≤ x.length → k ≤ y.length → x.take k = y.take k → (∀ (h1 : k < x.length) (h2 : k < y.length), x[k] ≠ y[k]) → alike x y = k
  | 0, [], y, _, _, _, _ => by cases y <;> rfl
  | 0, a :: l, [], _, _, _, _ => rfl
  | 0, a :: l, b :: r, _, _, _, h => by
    have := h (by simp) (by simp)
    simp only [List.getElem_cons_zero] at this
    simp [alike, this]
  | k + 1, a :: l, b :: r, h1, h2, h3, h4 => by
    simp only [List.take_succ_cons, List.cons.injEq] at h3
    have := alike_at k l r (by simpa using h1) (by simpa using h2) h3.2 (fun q1 q2 => by
      have := h4 (by simpa using q1) (by simpa using q2)
      simpa using this)
    simp [alike, h3.1, this]
  | k + 1, [], y, h1, _, _, _ => by simp at h1
  | k + 1, a :: l, [], _, h2, _, _ => by simp at h2
theorem alike_any (a a' : Option Addr) (n n' c c' : Nat) (x y : List (BitVec 8)) (w : World) (h : Bytes w (.slice a n c) x) (h' : Bytes w (.slice a' n' c') y) (hn : n ≤ 1000000000) (hn' : n' ≤ 1000000000) :
    Calls Try.prog 37 #[.slice a n c, .slice a' n' c'] w fun e w' => e = .returned (.int .i64 (alike x y : Nat)) ∧ ∃ m, w' = w.drewN m := by
  have hl := h.len
  have hl' := h'.len
  have H := hide h
  have H' := hide h'
  have HL := hide hl
  have HL' := hide hl'
  clear h h' hl hl'
  go_enter Try.func37, Try.ntmps37
  go_wp2_with fail
  go_loopw [5] (fun i wr => ∃ k : Nat, i = .int .i64 (k : Nat) ∧ k ≤ n ∧ k ≤ n' ∧ x.take k = y.take k ∧ ∃ m, wr = w.drewN m) (fun i _ => n - (intOf i).toNat)
  case atStart => exact ⟨0, rfl, Nat.zero_le _, Nat.zero_le _, rfl, 0, rfl⟩
  case round =>
    obtain ⟨k, rfl, hk, hk', htk, m, rfl⟩ := hrel
    have HTK := hide htk
    clear htk
    by_cases hkn : k < n
    · by_cases hkn' : k < n'
      · obtain ⟨b, off, rfl⟩ := H.out.addr (by omega)
        obtain ⟨b', off', rfl⟩ := H'.out.addr (by omega)
        have hkx : k < x.length := by have := HL.out; omega
        have hky : k < y.length := by have := HL'.out; omega
        have h1 := H.out.at k hkx
        have h2 := H'.out.at k hky
        have e1 : x.getD k 0 = x[k] := by simp [List.getD, hkx]
        have e2 : y.getD k 0 = y[k] := by simp [List.getD, hky]
        rw [e1] at h1
        rw [e2] at h2
        have i1 : (k : Int) < (n : Int) := by omega
        have i2 : (k : Int) < (n' : Int) := by omega
        have i0 : (0 : Int) ≤ (k : Int) := by omega
        clear e1 e2
        by_cases hxy : x[k] = y[k]
        · have HT2 := hide (take_eq_succ hkx hky HTK.out hxy)
          rw [← hxy] at h2
          generalize x[k].toNat = q at *
          clear hxy
          go_wp2_with fail
          go_quiet (fail)
          go_wp2
          go_roundw
          case rel => exact ⟨k + 1, by go_num, by omega, by omega, HT2.out, _, rfl⟩
          case measure => simp [intOf]; omega
        · have hne : x[k].toNat ≠ y[k].toNat := fun e => hxy (BitVec.eq_of_toNat_eq e)
          have hal : alike x y = k := alike_at k x y (by omega) (by omega) HTK.out fun _ _ => hxy
          have HAL := hide hal
          generalize x[k].toNat = q at *
          generalize y[k].toNat = q' at *
          have hne' : ¬ (q : Int) = (q' : Int) := by omega
          clear hxy hal hne
          go_wp2_with fail
          go_quiet (fail)
          go_wp2
          go_ret
          exact ⟨by rw [HAL.out]; rfl, _, World.drewN_drewN _ _ _⟩
      · have hal : alike x y = k := alike_at k x y (by have := HL.out; omega) (by have := HL'.out; omega) HTK.out fun _ h2 => by have := HL'.out; omega
        have HAL := hide hal
        have i1 : (k : Int) < (n : Int) := by omega
        have i2 : ¬ (k : Int) < (n' : Int) := by omega
        clear hal
        go_wp2_with fail
        go_quiet (fail)
        go_wp2
        go_ret
        exact ⟨by rw [HAL.out]; rfl, _, World.drewN_drewN _ _ _⟩
    · have hal : alike x y = k := alike_at k x y (by have := HL.out; omega) (by have := HL'.out; omega) HTK.out fun h1 _ => by have := HL.out; omega
      have HAL := hide hal
      have i1 : ¬ (k : Int) < (n : Int) := by omega
      clear hal
      go_wp2_with fail
      go_quiet (fail)
      go_wp2
      go_ret
      exact ⟨by rw [HAL.out]; rfl, _, World.drewN_drewN _ _ _⟩
def prevK (l : List Tow) (i : Nat) : List (BitVec 8) := match i with | 0 => [] | j + 1 => ((l[j]?).map (·.e.key)).getD []
theorem shared_any (a : Option Addr) (n c : Nat) (l : List Tow) (w : World) (h : Ents w a l) (i : Nat) (x : Tow) (hx : l[i]? = some x) (hn : n = l.length) (hmx : n ≤ 1000000000) (hb : ∀ x, x ∈ l → x.e.key.length ≤ 1000000) :
    Calls Try.prog 23 #[.slice a n c, .int .i64 (i : Nat)] w fun e w' => e = .returned (.int .i64 (shr i (prevK l i) x.e.key : Nat)) ∧ ∃ m, w' = w.drewN m := by
  have hil : i < l.length := (List.getElem?_eq_some_iff.1 hx).1
  by_cases hi : i % 16 = 0
  · have hs : shr i (prevK l i) x.e.key = 0 := by rw [shr, if_pos hi]
    have HS := hide hs
    clear hs h hx
    go_enter Try.func23, Try.ntmps23
    go_wp2_with fail
    refine (isRestart_any i w).mono ?_
    rintro e w1 ⟨rfl, rfl⟩
    rw [decide_eq_true hi]
    go_wp2_with fail
    go_ret
    exact ⟨by rw [HS.out]; rfl, 0, rfl⟩
  · have hs : shr i (prevK l i) x.e.key = alike (prevK l i) x.e.key := by rw [shr, if_neg hi]
    obtain ⟨j, rfl⟩ : ∃ j, i = j + 1 := ⟨i - 1, by omega⟩
    have hj : j < l.length := by omega
    have hp : prevK l (j + 1) = l[j].e.key := by simp [prevK, hj]
    rw [hp] at hs
    have hs2 : shr (j + 1) (prevK l (j + 1)) x.e.key = alike l[j].e.key x.e.key := by rw [hp]; exact hs
    have HS := hide hs2
    clear hs2
    obtain ⟨⟨b, off, rfl, hc⟩, k1, k2⟩ := h j l[j] (List.getElem?_eq_getElem hj)
    obtain ⟨⟨b', off', e', hc'⟩, k3, k4⟩ := h (j + 1) x hx
    have hb1 := hb l[j] (List.getElem_mem hj)
    have hb2 := hb x (List.mem_iff_getElem?.2 ⟨_, hx⟩)
    have c0 : w.cell? ⟨b, off + j * 4, none⟩ = some l[j].kv := hc 0 _ rfl
    cases e'
    have d0 : w.cell? ⟨b, off + (j + 1) * 4, none⟩ = some x.kv := hc' 0 _ rfl
    have HK1 := hide k1
    have HK3 := hide k3
    have i0 : (0 : Int) ≤ (j : Int) := by omega
    have i1 : (j : Int) < (n : Int) := by omega
    have i2 : ((j + 1 : Nat) : Int) < (n : Int) := by omega
    have i3 : (0 : Int) ≤ ((j + 1 : Nat) : Int) := by omega
    generalize l[j] = y at *
    obtain ⟨ka, kc, va, vc, e⟩ := y
    obtain ⟨ka', kc', va', vc', e'⟩ := x
    simp only [Tow.kv] at c0 d0 HK1 HK3
    simp only at hb1 hb2 HS
    have ej : ((j + 1 : Nat) : Int) - 1 = (j : Int) := by omega
    have HQ := hide (fun m => alike_any ka ka' e.key.length e'.key.length kc kc' e.key e'.key (w.drewN m) (HK1.out.drewN m) (HK3.out.drewN m) (by omega) (by omega))
    clear hc hc' k1 k2 k3 k4 hs hx hp
    go_enter Try.func23, Try.ntmps23
    go_wp2_with fail
    refine (isRestart_any (j + 1) w).mono ?_
    rintro e w1 ⟨rfl, rfl⟩
    rw [decide_eq_false hi]
    go_wp2_with fail
    go_quiet (first | (go_at_call 37; exact Calls.quiet_of (HQ.out _)))
    go_wp2
    go_ret
    exact ⟨by rw [HS.out]; rfl, _, rfl⟩
end Go.Proofs.Ytolaaodhnhdadaa
