/-
  Overlap, Bytes.
-/
import Derived.Test.YtkmcdjbadngfgaaWa
namespace Go.Proofs.Ytkmcdjbadngfgaa
open Go.RowKit
set_option maxRecDepth 100000
set_option maxHeartbeats 4000000
theorem overlaps_any (a1 : Option Addr) (n1 c1 : Nat) (a2 : Option Addr) (n2 c2 : Nat) (w : World) : Calls Try.prog 63 #[.slice a1 n1 c1, .slice a2 n2 c2] w fun e w' => e = .returned (.func (.func 79) #[] #[.pointer (some ⟨w.heap.size, 0, none⟩), .pointer (some ⟨w.heap.size + 1, 0, none⟩)]) ∧ w'.cell? ⟨w.heap.size, 0, none⟩ = some (.slice a1 n1 c1) ∧ w'.cell? ⟨w.heap.size + 1, 0, none⟩ = some (.slice a2 n2 c2) ∧ Turns (fun _ => False) w w' := by
  have TA := hide (((Turns.refl (fun _ => False) w).alloc (.cells #[.slice a1 n1 c1] 27)).alloc (.cells #[.slice a2 n2 c2] 27))
  have R0 := hide (((Turns.refl (fun _ => False) (w.alloc (.cells #[.slice a1 n1 c1] 27))).alloc (.cells #[.slice a2 n2 c2] 27)).heap (heap_alloc_new w (.cells #[.slice a1 n1 c1] 27)) (fun x => x))
  have R1 := hide (heap_alloc_new (w.alloc (.cells #[.slice a1 n1 c1] 27)) (.cells #[.slice a2 n2 c2] 27))
  simp only [World.size_alloc] at R1
  go_enter Try.func63, Try.ntmps63
  go_wp2_with fail
  go_ret
  exact ⟨rfl, cell_of_row _ w.heap.size 0 _ 27 (0, 0) R0.out, cell_of_row _ (w.heap.size + 1) 0 _ 27 (0, 0) R1.out, TA.out⟩
def sizesF (l : List Fl) : Int := (l.map fun f => f.size).sum
theorem vbytes_any (a : Option Addr) (n c next seq log : Nat) (L : List Lv) (z : Int) (w : World) (h : VerIn w a n L next seq log) :
    Calls Try.prog 43 #[verAgg a n c next seq log, .int .i64 z] w fun e w' => e = .returned (.int .i64 (sizesF (filesF (flL L) next seq log z))) ∧ Turns (fun _ => False) w w' := by
  have TA := hide ((Turns.refl (fun _ => False) w).alloc (.cells #[.slice a n c, .int .u64 (next : Nat), .int .u64 (seq : Nat), .int .u64 (log : Nat)] 25))
  have CF := hide (filesOf_any a n c next seq log L z _ (h.quiet TA.out))
  have HLN := hide (show (filesF (flL L) next seq log z).length ≤ 5000 from by
    unfold filesF
    split
    · next hh =>
      cases hk : (flL L)[z.toNat]? with
      | none => simp [List.getD, hk]
      | some l =>
        simp only [List.getD, hk, Option.getD_some]
        simp only [flL, List.getElem?_map, Option.map_eq_some_iff] at hk
        obtain ⟨x, hx, rfl⟩ := hk
        have := cnt_take hx; have := cnt_take_le L (z.toNat + 1); have := h.cnt
        simp only [fls, List.length_map]
        omega
    · simp)
  unfold verAgg at *
  clear h
  generalize filesF (flL L) next seq log z = FF at *
  go_enter Try.func43, Try.ntmps43
  go_wp2_with fail
  refine CF.out.mono ?_
  rintro e w1 ⟨xa, xn, xc, xl, rfl, hxn, hfi, hfl, hnw, t1⟩
  have HXN := hide hxn
  have HFI := hide hfi
  have HFL := hide hfl
  have HNW := hide hnw
  have T1 := hide (TA.out.trans t1)
  have HXB := hide (show xn ≤ 5000 by have h1 := HLN.out; rw [← hfl] at h1; simp only [fls, List.length_map] at h1; omega)
  have hxi : (xn : Int) ≤ 5000 := by have := HXB.out; omega
  clear hxn hfi hfl hnw t1 CF
  go_wp2_with fail
  go_loopw [5, 12] (fun s i wr => ∃ (k : Nat) (t : Int), i = .int .i64 (k : Nat) ∧ s = .int .i64 t ∧ k ≤ xn ∧ t = ((xl.take k).map fun y => y.f.size).sum ∧ 0 ≤ t ∧ t ≤ k * 16777216 ∧ Turns (fun _ => False) w1 wr) (fun _ i _ => xn - (intOf i).toNat)
  case atStart => exact ⟨0, 0, rfl, rfl, Nat.zero_le _, by simp, by omega, by simp, Turns.refl _ _⟩
  case round =>
    obtain ⟨k, t, rfl, rfl, hk, ht, h0, h1, hb⟩ := hrel
    have HB := hide hb
    have HTT := hide ht
    clear hb ht
    by_cases hkn : k < xn
    · obtain ⟨y, hy⟩ : ∃ y, xl[k]? = some y := ⟨_, List.getElem?_eq_getElem (by have := HXN.out; omega)⟩
      obtain ⟨b, off, rfl, h6, hfb⟩ := fc_of (HFI.out.quiet HB.out) hy
      have i1 : (k : Int) < xn := by omega
      have i0 : (0 : Int) ≤ k := by omega
      obtain ⟨v1, v2, v3, v4, _⟩ := wrongF_false (HNW.out y (List.mem_of_getElem? hy))
      have HNX := hide (show ((xl.take (k + 1)).map fun y => y.f.size).sum = t + y.f.size by rw [List.take_add_one, hy, HTT.out]; simp [List.sum_append])
      obtain ⟨la, lc, ma, mc, ⟨no, sz, ls, ms, en, sq⟩⟩ := y
      obtain ⟨y0, y1, y2, y3, y4, y5⟩ := h6
      simp only at *
      have TF := hide ((Turns.refl (fun _ => False) wr).alloc (.cells #[.int .u64 (no : Nat), .int .i64 sz, .slice la ls.length lc, .slice ma ms.length mc, .int .i64 en, .int .u64 (sq : Nat)] 29))
      have hb1 : t + sz ≤ 9223372036854775807 := by omega
      have hk2 : t + sz ≤ ((k + 1 : Nat) : Int) * 16777216 := by omega
      have HK2 := hide hk2
      clear hfb hy v1 v2 hk2
      go_wp2_with fail
      go_roundw
      case rel => exact ⟨k + 1, t + sz, by go_num, by go_num, by omega, HNX.out.symm, by omega, HK2.out, HB.out.trans TF.out⟩
      case measure => simp [intOf]; omega
    · obtain rfl : k = xn := by omega
      have htk : xl.take k = xl := List.take_of_length_le (by have := HXN.out; omega)
      rw [htk] at HTT
      clear htk
      go_wp2_with fail
      go_ret
      exact ⟨congrArg Ending.returned (congrArg (Value.int .i64) (by rw [HTT.out, ← HFL.out]; unfold sizesF fls; rw [List.map_map]; rfl)), T1.out.trans HB.out⟩
end Go.Proofs.Ytkmcdjbadngfgaa
