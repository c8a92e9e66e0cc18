/-
  Whether bytes are the same; two writes in a row.
-/
import Derived.Test.YtkmcdjbadngfgaaCm
namespace Go.Proofs.Ytkmcdjbadngfgaa
open Go.RowKit
set_option maxRecDepth 100000
set_option maxHeartbeats 1000000
theorem take_eq_succ {x y : List (BitVec 8)} {k : Nat} (h1 : k < x.length) (h2 : k < y.length) (h : x.take k = y.take k) (e : x[k] = y[k]) : x.take (k + 1) = y.take (k + 1) := by
  rw [List.take_succ_eq_append_getElem h1, List.take_succ_eq_append_getElem h2, h, e]
theorem bytes_any (a a' : Option Addr) (n n' c c' : Nat) (x y : List (BitVec 8)) (w : World) (h : Bytes w (.slice a n c) x) (h' : Bytes w (.slice a' n' c') y) (hn : n ≤ 1000000000) :
    Calls Try.prog 35 #[.slice a n c, .slice a' n' c'] w fun e w' => e = .returned (.bool (decide (x = y))) ∧ ∃ m, w' = w.drewN m := by
  have hl := h.len
  have hl' := h'.len
  have H := hide h
  have H' := hide h'
  have HL := hide hl
  have HL' := hide hl'
  clear h h' hl hl'
  by_cases hnn : n = n'
  · subst hnn
    go_enter Try.func35, Try.ntmps35
    go_wp2_with fail
    go_loopw [5] (fun i wr => ∃ k : Nat, i = .int .i64 (k : Nat) ∧ k ≤ n ∧ x.take k = y.take k ∧ ∃ m, wr = w.drewN m) (fun i _ => n - (intOf i).toNat)
    case atStart => exact ⟨0, rfl, Nat.zero_le _, rfl, 0, rfl⟩
    case round =>
      obtain ⟨k, rfl, hk, htk, m, rfl⟩ := hrel
      have HTK := hide htk
      clear htk
      by_cases hkn : k < n
      · obtain ⟨b, off, rfl⟩ := H.out.addr (by omega)
        obtain ⟨b', off', rfl⟩ := H'.out.addr (by omega)
        have hkx : k < x.length := by have := HL.out; omega
        have hky : k < y.length := by have := HL'.out; omega
        have h1 := H.out.at k hkx
        have h2 := H'.out.at k hky
        have e1 : x.getD k 0 = x[k] := by simp [List.getD, hkx]
        have e2 : y.getD k 0 = y[k] := by simp [List.getD, hky]
        rw [e1] at h1
        rw [e2] at h2
        have i1 : (k : Int) < (n : Int) := by omega
        have i0 : (0 : Int) ≤ (k : Int) := by omega
        clear e1 e2
        by_cases hxy : x[k] = y[k]
        · have HT2 := hide (take_eq_succ hkx hky HTK.out hxy)
          rw [← hxy] at h2
          generalize x[k].toNat = q at *
          clear hxy
          go_wp2_with fail
          go_quiet (fail)
          go_wp2
          go_roundw
          case rel => exact ⟨k + 1, by go_num, by omega, HT2.out, _, rfl⟩
          case measure => simp [intOf]; omega
        · have hne : x[k].toNat ≠ y[k].toNat := fun e => hxy (BitVec.eq_of_toNat_eq e)
          have hxn : ¬ x = y := fun e => hxy (by subst e; rfl)
          have HXN := hide hxn
          generalize x[k].toNat = q at *
          generalize y[k].toNat = q' at *
          have hne' : ¬ (q : Int) = (q' : Int) := by omega
          clear hxy hxn hne
          go_wp2_with fail
          go_quiet (fail)
          go_wp2
          go_ret
          exact ⟨congrArg Ending.returned (congrArg Value.bool (decide_eq_false HXN.out).symm), _, World.drewN_drewN _ _ _⟩
      · obtain rfl : k = n := by omega
        have hxy : x = y := by
          have := HTK.out
          rwa [List.take_of_length_le (by have := HL.out; omega), List.take_of_length_le (by have := HL'.out; omega)] at this
        have HXY := hide hxy
        clear hxy
        go_wp2
        go_ret
        exact ⟨congrArg Ending.returned (congrArg Value.bool (decide_eq_true HXY.out).symm), m, rfl⟩
  · have hnn' : ¬ (n : Int) = (n' : Int) := by omega
    have hxn : ¬ x = y := fun e => hnn (by rw [HL.out, HL'.out, e])
    have HXN := hide hxn
    clear hxn
    go_enter Try.func35, Try.ntmps35
    go_wp2_with fail
    go_ret
    exact ⟨congrArg Ending.returned (congrArg Value.bool (decide_eq_false HXN.out).symm), 0, rfl⟩
end Go.Proofs.Ytkmcdjbadngfgaa
