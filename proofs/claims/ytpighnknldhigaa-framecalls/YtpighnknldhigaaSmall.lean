/-
  Whether frames are gone through: at most 40, of at most 4000 bytes together.
-/
import Derived.Test.YtpighnknldhigaaFrames
namespace Go.Proofs.Ytpighnknldhigaa
open Go.RowKit

/-- How many bytes the bodies have together. -/
def tot (fs : List Frm) : Nat := (fs.map fun f => f.2.length).sum
theorem tot_snoc (fs : List Frm) (k : Nat) (h : k < fs.length) : tot (fs.take (k + 1)) = tot (fs.take k) + fs[k].2.length := by
  unfold tot
  rw [List.take_succ_eq_append_getElem h, List.map_append, List.sum_append]
  simp
theorem tot_le (fs : List Frm) (M : Nat) (h : ∀ f ∈ fs, f.2.length ≤ M) : tot fs ≤ fs.length * M := by
  induction fs with
  | nil => simp [tot]
  | cons f r ih =>
    have h1 := h f (by simp)
    have h2 := ih (fun g hg => h g (by simp [hg]))
    simp only [tot, List.map_cons, List.sum_cons, List.length_cons] at h2 ⊢
    rw [Nat.add_mul]
    omega

set_option maxRecDepth 100000 in
set_option maxHeartbeats 1000000 in
theorem small_few (a : Option Addr) (n c : Nat) (fs : List Frm) (w : World) (h : Frs w (.slice a n c) fs) (hn : n ≤ 40) (hb : ∀ f ∈ fs, f.2.length ≤ 140737488355328) :
    Calls Try.prog 19 #[.slice a n c] w fun e w' => e = .returned (.bool (decide (tot fs ≤ 4000))) ∧ w' = w := by
  have hl : n = fs.length := by obtain ⟨_, _, e, _⟩ := h; cases e; rfl
  have H := hide h
  have HL := hide hl
  have HB := hide hb
  clear h hl hb
  go_enter Try.func19, Try.ntmps19
  go_wp2
  go_loopw [3, 4] (fun s i wr => ∃ k : Nat, i = .int .i64 (k : Nat) ∧ s = .int .i64 (tot (fs.take k) : Nat) ∧ k ≤ n ∧ wr = w) (fun _ i _ => n - (intOf i).toNat)
  case atStart => exact ⟨0, rfl, rfl, Nat.zero_le _, rfl⟩
  case round =>
    obtain ⟨k, rfl, rfl, hk, rfl⟩ := hrel
    by_cases hkn : k < n
    · have hkf : k < fs.length := by have := HL.out; omega
      have hts := tot_snoc fs k hkf
      have htl := tot_le (fs.take k) 140737488355328 (fun f hf => HB.out f (List.mem_of_mem_take hf))
      rw [List.length_take] at htl
      have htb : tot (fs.take k) ≤ 5629499534213120 := by
        have : min k fs.length ≤ 40 := by omega
        exact Nat.le_trans htl (Nat.mul_le_mul_right 140737488355328 this)
      have hle := HB.out fs[k] (List.getElem_mem hkf)
      obtain ⟨a1, c1, e1, g1⟩ := H.out
      cases e1
      obtain ⟨b, off, rfl, x1, ba, bc, x2, x3⟩ := g1 k fs[k] (List.getElem?_eq_getElem hkf)
      have i1 : (k : Int) < (fs.length : Int) := by omega
      have i0 : (0 : Int) ≤ (k : Int) := by omega
      generalize hbl : fs[k].2.length = bl at *
      generalize htk : tot (fs.take k) = tk at *
      have HTS := hide hts
      clear hts htl x3 g1 hbl htk x1
      go_wp2
      go_roundw
      case rel =>
        refine ⟨k + 1, by go_num, ?_, by omega, by trivial⟩
        rw [HTS.out]
        go_num
      case measure => simp [intOf]; omega
    · obtain rfl : k = n := by omega
      have ht : fs.take k = fs := List.take_of_length_le (by have := HL.out; omega)
      rw [ht]
      have h40 : (k : Int) ≤ 40 := by omega
      generalize hT : tot fs = T at *
      have HT := hide hT
      clear hT
      go_wp2
      go_ret
      exact ⟨by rw [HT.out]; simp; omega, rfl⟩

set_option maxRecDepth 100000 in
set_option maxHeartbeats 1000000 in
theorem small_many (a : Option Addr) (n c : Nat) (fs : List Frm) (w : World) (h : Frs w (.slice a n c) fs) (hn : 40 < n) (hm : n ≤ 140737488355328) (hb : ∀ f ∈ fs, f.2.length ≤ 140737488355328) :
    Calls Try.prog 19 #[.slice a n c] w fun e w' => e = .returned (.bool false) ∧ w' = w := by
  have hl : n = fs.length := by obtain ⟨_, _, e, _⟩ := h; cases e; rfl
  have H := hide h
  have HL := hide hl
  have HB := hide hb
  clear h hl hb
  go_enter Try.func19, Try.ntmps19
  go_wp2
  go_loopw [3, 4] (fun s i wr => ∃ (k : Nat) (z : Int), i = .int .i64 (k : Nat) ∧ s = .int .i64 z ∧ -9223372036854775808 ≤ z ∧ z ≤ 9223372036854775807 ∧ k ≤ n ∧ wr = w) (fun _ i _ => n - (intOf i).toNat)
  case atStart => exact ⟨0, 0, rfl, rfl, by decide, by decide, Nat.zero_le _, rfl⟩
  case round =>
    obtain ⟨k, z, rfl, rfl, z1, z2, hk, rfl⟩ := hrel
    by_cases hkn : k < n
    · have hkf : k < fs.length := by have := HL.out; omega
      have hle := HB.out fs[k] (List.getElem_mem hkf)
      obtain ⟨a1, c1, e1, g1⟩ := H.out
      cases e1
      obtain ⟨b, off, rfl, x1, ba, bc, x2, x3⟩ := g1 k fs[k] (List.getElem?_eq_getElem hkf)
      have i1 : (k : Int) < (fs.length : Int) := by omega
      have i0 : (0 : Int) ≤ (k : Int) := by omega
      generalize hbl : fs[k].2.length = bl at *
      clear x3 g1 hbl x1
      go_wp2
      go_roundw
      case rel => exact ⟨k + 1, _, by go_num, rfl, by unfold wrap64; omega, by unfold wrap64; omega, by omega, by trivial⟩
      case measure => simp [intOf]; omega
    · obtain rfl : k = n := by omega
      have h40 : ¬ (k : Int) ≤ 40 := by omega
      go_wp2
      go_ret
      exact ⟨rfl, rfl⟩
end Go.Proofs.Ytpighnknldhigaa
