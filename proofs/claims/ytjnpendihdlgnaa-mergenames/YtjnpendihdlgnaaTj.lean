/-
  sort.Search of a function that only reads.
-/
import Derived.Test.YtjnpendihdlgnaaSp
import Derived.Deep.RegionHeld
import Derived.Deep.Light
namespace Go.Proofs.Ytjnpendihdlgnaa
open Go.RowKit
set_option maxRecDepth 100000
set_option maxHeartbeats 4000000
/-- Where a property begins to hold. -/
def Found (p : Nat → Bool) (n k : Nat) : Prop := k ≤ n ∧ (∀ i, i < k → p i = false) ∧ (∀ i, k ≤ i → i < n → p i = true)
theorem search_any (F : Nat) (c0 c1 : Value) (hent : ∀ h w, (callFunc F #[.int .i64 h, c0, c1]).run Try.prog w = .ok (.enter F #[.int .i64 h, c0, c1]) w) (p : Nat → Bool) (n : Nat) (hn : n ≤ 1000000) (w : World)
    (hf : ∀ h : Nat, h < n → ∀ u, Turns (fun _ => False) w u → Calls Try.prog F #[.int .i64 (h : Nat), c0, c1] u fun e u' => e = .returned (.bool (p h)) ∧ Below u.heap.size u u')
    (hm : ∀ i j, i ≤ j → j < n → p i = true → p j = true) :
    Calls Try.prog 63 #[.int .i64 (n : Nat), .func (.func F) #[] #[c0, c1]] w fun e w' => ∃ k : Nat, e = .returned (.int .i64 (k : Nat)) ∧ Found p n k ∧ Below w.heap.size w w' := by
  have HF := hide hf
  have HM := hide hm
  clear hf hm
  go_enter Try.func63, Try.ntmps63
  go_wp2_with fail
  go_loopw [5, 6] (fun iv jv wr => ∃ i j : Nat, iv = .int .i64 (i : Nat) ∧ jv = .int .i64 (j : Nat) ∧ i ≤ j ∧ j ≤ n ∧ (∀ k, k < i → p k = false) ∧ (∀ k, j ≤ k → k < n → p k = true) ∧ Below w.heap.size w wr) (fun iv jv _ => (intOf jv).toNat - (intOf iv).toNat)
  case atStart => exact ⟨0, n, rfl, rfl, Nat.zero_le _, Nat.le_refl _, fun k hk => by omega, fun k h1 h2 => by omega, Below.refl _ _⟩
  case round =>
    obtain ⟨i, j, rfl, rfl, hij, hjn, h1, h2, hbw⟩ := hrel
    have H1 := hide h1
    have H2 := hide h2
    have BW := hide hbw
    have hsz := hbw.size
    clear h1 h2 hbw
    by_cases hlt : i < j
    · have i1 : (i : Int) < (j : Int) := by omega
      have hmid : ((i : Int) + (j : Int)) / 2 = (((i + j) / 2 : Nat) : Int) := by omega
      have HMID := hide hmid
      clear hmid
      go_upto_region 4 with (fail)
      rw [HMID.out]
      have hm1 : i ≤ (i + j) / 2 := by omega
      have hm2 : (i + j) / 2 < j := by omega
      have CF := hide (HF.out ((i + j) / 2) (by omega) wr (Turns.of_below BW.out (fun _ => False)))
      clear HMID
      generalize (i + j) / 2 = m at *
      generalize hpm : p m = pm at CF
      have HPM := hide hpm
      clear hpm
      cases pm with
      | false =>
        go_wp2_with fail
        refine CF.out.mono ?_
        rintro e w2 ⟨rfl, b2⟩
        have B2 := hide (BW.out.trans (b2.mono hsz))
        clear b2 CF
        go_wp2_with fail
        go_roundw
        case rel => exact ⟨m + 1, j, by go_num, rfl, by omega, hjn, fun k hk => by
          cases hk2 : p k with
          | false => rfl
          | true => rw [HM.out k m (by omega) (by omega) hk2] at HPM; exact absurd HPM.out (by simp), H2.out, B2.out⟩
        case measure => simp [intOf]; omega
      | true =>
        go_wp2_with fail
        refine CF.out.mono ?_
        rintro e w2 ⟨rfl, b2⟩
        have B2 := hide (BW.out.trans (b2.mono hsz))
        clear b2 CF
        go_wp2_with fail
        go_roundw
        case rel => exact ⟨i, m, rfl, rfl, hm1, by omega, H1.out, fun k h1 h2 => HM.out m k h1 h2 HPM.out, B2.out⟩
        case measure => simp [intOf]; omega
    · have i1 : ¬ (i : Int) < (j : Int) := by omega
      obtain rfl : i = j := by omega
      go_wp2_with fail
      go_ret
      exact ⟨i, rfl, ⟨hjn, H1.out, H2.out⟩, BW.out⟩
end Go.Proofs.Ytjnpendihdlgnaa
