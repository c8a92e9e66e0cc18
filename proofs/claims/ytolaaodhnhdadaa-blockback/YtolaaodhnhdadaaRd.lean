/-
  The reader: its state in memory, and how a short number is read.
-/
import Derived.Test.YtolaaodhnhdadaaCl
import Derived.WalkMore
namespace Go.Proofs.Ytolaaodhnhdadaa
open Go.RowKit
set_option maxRecDepth 100000
set_option maxHeartbeats 4000000
/-- A reader: its bytes, how many are gone over, its error. -/
def Rdr (w : World) (r : Nat) (p : List (BitVec 8)) (i : Nat) (e : Int) : Prop :=
  ∃ (a : Option Addr) (c : Nat), w.heap[r]? = some (.cells #[.slice a p.length c, .int .i64 (i : Nat), .bool true, .int .i64 e] 92 (0, 0)) ∧ Bytes w (.slice a p.length c) p ∧ p.length ≤ c ∧ (a = none → c = 0) ∧ (∀ x, a = some x → x.block < r)
theorem wrapU (z : Int) (h0 : 0 ≤ z) (h1 : z < 18446744073709551616) : IntKind.u64.wrap z = z := by rw [IntKind.wrap_u64]; omega
theorem or_add (y v j : Nat) (h : y < 2 ^ j) (hv : y + v * 2 ^ j < 2 ^ 64) : bits .or .u64 (y : Int) (IntKind.u64.wrap ((v : Int) * 2 ^ j)) = ((y + v * 2 ^ j : Nat) : Int) := by
  have h1 : ((v : Int) * 2 ^ j) = ((v * 2 ^ j : Nat) : Int) := by simp [Int.natCast_mul]
  rw [h1, wrapU _ (by omega) (by omega)]
  show IntKind.u64.wrap ((BitVec.ofInt 64 (y : Int) ||| BitVec.ofInt 64 ((v * 2 ^ j : Nat) : Int)).toNat : Int) = _
  rw [BitVec.ofInt_natCast, BitVec.ofInt_natCast, BitVec.toNat_or, BitVec.toNat_ofNat, BitVec.toNat_ofNat, Nat.mod_eq_of_lt (by omega), Nat.mod_eq_of_lt (by omega)]
  have h2 : y ||| v * 2 ^ j = y + v * 2 ^ j := by
    rw [Nat.or_comm, Nat.mul_comm, ← Nat.two_pow_add_eq_or_of_lt h, Nat.add_comm]
  rw [h2, wrapU _ (by omega) (by omega)]
theorem pow7 (k : Nat) : 2 ^ (7 * (k + 1)) = 128 * 2 ^ (7 * k) := by rw [Nat.mul_add, Nat.pow_add, Nat.mul_comm]
theorem add_lt (y v k : Nat) (h : y < 2 ^ (7 * k)) (hv : v < 128) : y + v * 2 ^ (7 * k) < 2 ^ (7 * (k + 1)) := by
  have hm : (v + 1) * 2 ^ (7 * k) ≤ 128 * 2 ^ (7 * k) := Nat.mul_le_mul_right _ (by omega)
  rw [pow7]
  rw [Nat.add_mul] at hm
  omega
theorem pow63 (k : Nat) (h : k < 9) : 2 ^ (7 * (k + 1)) ≤ 2 ^ 63 := Nat.pow_le_pow_right (by decide) (by omega)
/-- What a short number's reading answers. -/
def rdVal (o : Except Int (Nat × Nat)) : Value :=
  match o with
  | .error z => .tuple #[.int .u64 0, .int .i64 0, .int .i64 z]
  | .ok (x, k) => .tuple #[.int .u64 (x : Nat), .int .i64 (k : Nat), .int .i64 0]
theorem readShort_any (a : Option Addr) (n c : Nat) (l : List (BitVec 8)) (w : World) (h : Bytes w (.slice a n c) l) (hn : n ≤ 1000000) :
    Calls Try.prog 67 #[.slice a n c] w fun e w' => e = .returned (rdVal (rdShort l)) ∧ ∃ m, w' = w.drewN m := by
  have hl := h.len
  have H := hide h
  have HL := hide hl
  clear h hl
  go_enter Try.func67, Try.ntmps67
  go_wp2_with fail
  go_step3
  go_wp2_with fail
  go_step3
  go_wp2_with fail
  go_loopw [2, 3, 4] (fun x i e wr => ∃ (k y : Nat), x = .int .u64 (y : Nat) ∧ i = .int .i64 (k : Nat) ∧ e = .int .i64 0 ∧ k ≤ n ∧ k ≤ 9 ∧ y < 2 ^ (7 * k) ∧ rdGo y k (l.drop k) = rdShort l ∧ ∃ m, wr = w.drewN m) (fun _ i _ _ => n - (intOf i).toNat)
  case atStart => exact ⟨0, 0, rfl, rfl, rfl, Nat.zero_le _, by decide, by decide, rfl, 0, rfl⟩
  case round =>
    obtain ⟨k, y, rfl, rfl, rfl, hk, hk9, hy, hrd, m, rfl⟩ := hrel
    have HRD := hide hrd
    have HY := hide hy
    clear hrd hy
    by_cases hkn : k < n
    · obtain ⟨b, off, rfl⟩ := H.out.addr (by omega)
      have hkl : k < l.length := by have := HL.out; omega
      have hc := H.out.at k hkl
      have hd : l.getD k 0 = l[k] := by simp [List.getD, hkl]
      rw [hd] at hc
      have hdrop : l.drop k = l[k] :: l.drop (k + 1) := List.drop_eq_getElem_cons hkl
      have HDR := hide hdrop
      have hb := l[k].isLt
      generalize l[k] = q at *
      have i1 : (k : Int) < (n : Int) := by omega
      have i0 : (0 : Int) ≤ (k : Int) := by omega
      have i2 : ¬ (k : Int) = (n : Int) := by omega
      generalize hq : q.toNat = z at *
      have HQ := hide hq
      clear hd hdrop hq
      by_cases h9 : k = 9
      · subst h9
        by_cases h1 : 1 < z
        · have h1' : (1 : Int) < (z : Int) := by omega
          have hres : rdShort l = .error 4 := by rw [← HRD.out, HDR.out, rdGo, if_pos ⟨rfl, by rw [HQ.out]; exact h1⟩]
          have HRES := hide hres
          clear hres
          go_wp2_with fail
          rw [Exit.noGoto_ret]
          go_returns
          exact ⟨by rw [HRES.out]; rfl, m, rfl⟩
        · have h1' : ¬ (1 : Int) < (z : Int) := by omega
          by_cases hz : z = 0
          · subst hz
            have hres : rdShort l = .error 4 := by rw [← HRD.out, HDR.out, rdGo, if_neg (by rw [HQ.out]; rintro ⟨_, e⟩; omega), if_pos ⟨by decide, HQ.out⟩]
            have HRES := hide hres
            clear hres
            go_wp2_with fail
            try rw [Exit.noGoto_ret]
            go_returns
            exact ⟨by rw [HRES.out]; rfl, m, rfl⟩
          · obtain rfl : z = 1 := by omega
            have hres : rdShort l = .ok (y + 1 * 2 ^ (7 * 9), 9 + 1) := by rw [← HRD.out, HDR.out, rdGo, HQ.out, if_neg (by rintro ⟨_, e⟩; omega), if_neg (by rintro ⟨_, e⟩; omega), if_pos (by decide)]
            have HRES := hide hres
            have hor := or_add y 1 (7 * 9) HY.out (by have := HY.out; omega)
            have e63 : IntKind.u64.wrap (((1 : Nat) : Int) * 2 ^ (7 * 9)) = 9223372036854775808 := by rw [wrapU _ (by decide) (by decide)]; decide
            rw [e63] at hor
            clear e63
            clear hres
            generalize y + 1 * 2 ^ (7 * 9) = y2 at *
            go_wp2_with fail
            all_goals try rw [Exit.noGoto_ret]
            all_goals go_returns
            all_goals exact ⟨by rw [HRES.out]; first | rfl | (rw [← hor]; rfl), m, rfl⟩
      · have h9' : ¬ (k : Int) = 9 := by omega
        by_cases h0 : 0 < k ∧ z = 0
        · obtain ⟨h00, rfl⟩ := h0
          have h00' : (0 : Int) < (k : Int) := by omega
          have hres : rdShort l = .error 4 := by rw [← HRD.out, HDR.out, rdGo, if_neg (by rintro ⟨e, _⟩; exact h9 e), if_pos ⟨h00, HQ.out⟩]
          have HRES := hide hres
          clear hres
          go_wp2_with fail
          rw [Exit.noGoto_ret]
          go_returns
          exact ⟨by rw [HRES.out]; rfl, m, rfl⟩
        · by_cases h128 : z < 128
          · have h128' : (z : Int) < 128 := by omega
            have hres : rdShort l = .ok (y + z * 2 ^ (7 * k), k + 1) := by rw [← HRD.out, HDR.out, rdGo, HQ.out, if_neg (by rintro ⟨e, _⟩; exact h9 e), if_neg h0, if_pos h128]
            have HRES := hide hres
            have hor := or_add y z (7 * k) HY.out (Nat.lt_of_lt_of_le (add_lt y z k HY.out h128) (Nat.le_trans (pow63 k (by omega)) (by decide)))
            clear hres
            generalize y + z * 2 ^ (7 * k) = y2 at *
            go_wp2_with fail
            all_goals rw [Exit.noGoto_ret]
            all_goals go_returns
            all_goals exact ⟨by rw [HRES.out]; first | rfl | (rw [← hor]; rfl), m, rfl⟩
          · have h128' : ¬ (z : Int) < 128 := by omega
            have hz0 : ¬ (z : Int) = 0 := by omega
            have hres : rdGo (y + (z - 128) * 2 ^ (7 * k)) (k + 1) (l.drop (k + 1)) = rdShort l := by rw [← HRD.out, HDR.out, rdGo, HQ.out, if_neg (by rintro ⟨e, _⟩; exact h9 e), if_neg h0, if_neg h128]
            have HRES := hide hres
            have hl2 := add_lt y (z - 128) k HY.out (by omega)
            have hor := or_add y (z - 128) (7 * k) HY.out (Nat.lt_of_lt_of_le hl2 (Nat.le_trans (pow63 k (by omega)) (by decide)))
            rw [show ((z - 128 : Nat) : Int) = (z : Int) - 128 by omega] at hor
            have HL2 := hide hl2
            clear hres hl2
            generalize y + (z - 128) * 2 ^ (7 * k) = y2 at *
            go_wp2_with fail
            all_goals go_roundw
            case rel => exact ⟨k + 1, y2, by first | rfl | rw [hor], by go_num, rfl, by omega, by omega, HL2.out, HRES.out, m, rfl⟩
            case rel => exact ⟨k + 1, y2, by first | rfl | rw [hor], by go_num, rfl, by omega, by omega, HL2.out, HRES.out, m, rfl⟩
            all_goals simp [intOf]; omega
    · obtain rfl : k = n := by omega
      have hres : rdShort l = .error 12 := by rw [← HRD.out, List.drop_eq_nil_of_le (by have := HL.out; omega)]; rfl
      have HRES := hide hres
      clear hres
      go_wp2_with fail
      rw [Exit.noGoto_ret]
      go_returns
      exact ⟨by rw [HRES.out]; rfl, m, rfl⟩
end Go.Proofs.Ytolaaodhnhdadaa
