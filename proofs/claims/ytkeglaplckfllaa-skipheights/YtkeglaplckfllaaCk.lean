/-
  Size, Check and CheckEntry.
-/
import Derived.Test.YtkeglaplckfllaaMw
namespace Go.Proofs.Ytkeglaplckfllaa
open Go.RowKit
set_option maxRecDepth 100000
set_option maxHeartbeats 4000000
theorem belowN {B : Nat} {a w : World} (h : Below B a w) (n : Nat) : Below B a (w.drewN n) := ⟨h.os, h.tape, h.output, h.size, h.block⟩
/-- How many bytes keys and values have together. -/
def tot (xs : List Wr) : Nat := (xs.map fun x => x.2.1.length + x.2.2.length).sum
theorem tot_snoc (fs : List Wr) (k : Nat) (h : k < fs.length) : tot (fs.take (k + 1)) = tot (fs.take k) + (fs[k].2.1.length + fs[k].2.2.length) := by
  unfold tot
  rw [List.take_succ_eq_append_getElem h, List.map_append, List.sum_append]
  simp
theorem tot_take (fs : List Wr) (k : Nat) : tot (fs.take k) ≤ tot fs := by
  induction fs generalizing k with
  | nil => simp [tot]
  | cons f r ih =>
    cases k with
    | zero => simp [tot]
    | succ k =>
      have := ih k
      simp only [tot, List.take_succ_cons, List.map_cons, List.sum_cons] at this ⊢
      omega
theorem tot_mem {fs : List Wr} {x : Wr} (h : x ∈ fs) : x.2.1.length + x.2.2.length ≤ tot fs := by
  induction fs with
  | nil => cases h
  | cons f r ih =>
    simp only [tot, List.map_cons, List.sum_cons] at ih ⊢
    rcases List.mem_cons.1 h with rfl | h
    · omega
    · have := ih h
      omega
/-- A batch that is gone through. -/
structure Smol (xs : List Wr) : Prop where
  len : xs.length ≤ 300
  tot : tot xs ≤ 20000

/-- How many bytes a write has. -/
def wsz (x : Wr) : Int := 1 + (szN x.2.1.length + x.2.1.length) + if x.1 = 1 then szN x.2.2.length + x.2.2.length else 0
def wszs (xs : List Wr) : Int := (xs.map wsz).sum
theorem wszs_snoc (fs : List Wr) (k : Nat) (h : k < fs.length) : wszs (fs.take (k + 1)) = wszs (fs.take k) + wsz fs[k] := by
  unfold wszs
  rw [List.take_succ_eq_append_getElem h, List.map_append, List.sum_append]
  simp
theorem wsz_le (x : Wr) : 0 ≤ wsz x ∧ wsz x ≤ 21 + x.2.1.length + x.2.2.length := by
  have h1 := szN_le x.2.1.length
  have h2 := szN_le x.2.2.length
  unfold wsz
  split <;> omega
theorem wszs_le (xs : List Wr) : 0 ≤ wszs xs ∧ wszs xs ≤ 21 * xs.length + tot xs := by
  induction xs with
  | nil => simp [wszs, tot]
  | cons x r ih =>
    have := wsz_le x
    simp only [wszs, tot, List.map_cons, List.sum_cons, List.length_cons] at ih ⊢
    omega
/-- How many bytes a batch has. -/
def sizeN (s : Nat) (xs : List Wr) : Int := szN s + szN xs.length + wszs xs
theorem sizeN_le (s : Nat) {xs : List Wr} (h : Smol xs) : 0 ≤ sizeN s xs ∧ sizeN s xs ≤ 26320 := by
  have h1 := szN_le s
  have h2 := szN_le xs.length
  have h3 := wszs_le xs
  have h4 := h.len
  have h5 := h.tot
  unfold sizeN
  omega

theorem sizeB_any (s : Nat) (hs : s < 18446744073709551616) (a : Option Addr) (n c : Nat) (xs : List Wr) (w : World) (h : Wrs w (.slice a n c) xs) (hm : Smol xs) :
    Calls Try.prog 70 #[.agg #[.int .u64 s, .slice a n c]] w fun e w' => e = .returned (.int .i64 (sizeN s xs)) ∧ Below w.heap.size w w' := by
  have hl := h.len
  have hn : n ≤ 300 := by have := hm.len; omega
  have hb0 := (Below.refl w.heap.size w).alloc (Nat.le_refl _) (.cells #[.int .u64 s, .slice a n c] 80)
  have H := hide (h.below hb0)
  have HL := hide hl
  have HM := hide hm
  have HB0 := hide hb0
  clear h hl hm hb0
  have hz1 := szN_le s
  have hz2 := szN_le n
  go_enter Try.func70, Try.ntmps70
  go_wp2_with fail
  go_quiet (first | (go_at_call_of 73 (Value.int .u64 (s : Int)); refine Calls.quiet_of_same (size_any s hs _)) | (go_at_call_of 73 (Value.int .u64 (n : Int)); refine Calls.quiet_of_same (size_any n (by omega) _)))
  go_wp2_with fail
  have HB1 := hide (belowN HB0.out nq)
  have HX := hide (Wrs.below H.out (belowN (Below.refl _ _) nq))
  generalize (w.alloc (Obj.cells #[Value.int IntKind.u64 ↑s, Value.slice a n c] 80)).drewN nq = w0 at *
  clear H HB0
  go_loopw [3, 18] (fun z i wr => ∃ k : Nat, i = .int .i64 (k : Nat) ∧ z = .int .i64 (szN s + szN n + wszs (xs.take k)) ∧ k ≤ n ∧ Below w0.heap.size w0 wr) (fun _ i _ => n - (intOf i).toNat)
  case atStart => exact ⟨0, rfl, by simp [wszs], Nat.zero_le _, Below.refl _ _⟩
  case round =>
    obtain ⟨k, rfl, rfl, hk, hb⟩ := hrel
    have HB := hide hb
    by_cases hkn : k < n
    · have hkf : k < xs.length := by have := HL.out; omega
      have HW := hide (HX.out.below hb)
      obtain ⟨b, off, rfl, y0, ka, kc, va, vc, y1, y2, _, _⟩ := HW.out.at k hkf
      have i1 : (k : Int) < (n : Int) := by omega
      have i0 : (0 : Int) ≤ (k : Int) := by omega
      have HTK := hide (wszs_snoc xs k hkf)
      have hw1 := wszs_le (xs.take k)
      have hw2 := tot_take xs k
      have hw3 := HM.out.tot
      have hw4 := tot_mem (List.getElem_mem hkf)
      rw [List.length_take] at hw1
      have hacc : 0 ≤ wszs (xs.take k) ∧ wszs (xs.take k) ≤ 30000 := by omega
      have hsx : wsz xs[k] = 1 + (szN xs[k].2.1.length + xs[k].2.1.length) + if xs[k].1 = 1 then szN xs[k].2.2.length + xs[k].2.2.length else 0 := rfl
      have HSX := hide hsx
      clear hb hw1 hw2 hsx
      generalize hx : xs[k] = x at *
      have HX2 := hide hx
      clear hx
      obtain ⟨kd, key, val⟩ := x
      simp only at y0 y1 y2 hw4
      have hkl : key.length ≤ 20000 := by omega
      have hvl : val.length ≤ 20000 := by omega
      have hk1 := szN_le key.length
      have hk2 := szN_le val.length
      generalize key.length = kl at *
      generalize val.length = vl at *
      clear hw4 hw3
      generalize wszs (xs.take k) = acc at *
      go_wp2_with fail
      refine (pieceSize_any ka kl kc (by omega) _).mono ?_
      rintro e w1 ⟨rfl, rfl⟩
      have HB2 := hide ((HB.out).alloc HB.out.size (.cells #[.int .i64 kd, .slice ka kl kc, .slice va vl vc] 83))
      by_cases hkd : kd = 1
      · subst hkd
        go_wp2_with fail
        refine (pieceSize_any va vl vc (by omega) _).mono ?_
        rintro e w1 ⟨rfl, rfl⟩
        go_wp2_with fail
        go_roundw
        case rel =>
          refine ⟨k + 1, by go_num, ?_, by omega, HB2.out⟩
          rw [HTK.out, HSX.out]
          exact congrArg (Value.int IntKind.i64) (by simp; omega)
        case measure => simp [intOf]; omega
      · go_wp2_with fail
        go_roundw
        case rel =>
          refine ⟨k + 1, by go_num, ?_, by omega, HB2.out⟩
          rw [HTK.out, HSX.out]
          exact congrArg (Value.int IntKind.i64) (by simp [hkd]; omega)
        case measure => simp [intOf]; omega
    · obtain rfl : k = n := by omega
      have ht : xs.take k = xs := List.take_of_length_le (by have := HL.out; omega)
      rw [ht]
      go_wp2_with fail
      go_ret
      refine ⟨?_, HB1.out.trans (HB.out.mono HB1.out.size)⟩
      rw [HL.out]
      rfl
end Go.Proofs.Ytkeglaplckfllaa
