/-
  On which level each number stands; whether one stands twice.
-/
import Derived.Test.YtkmcdjbadngfgaaVe
namespace Go.Proofs.Ytkmcdjbadngfgaa
open Go.RowKit Go.Maps
set_option maxRecDepth 100000
set_option maxHeartbeats 4000000
theorem levelOf_any (a : Option Addr) (n c : Nat) (L : List Lv) (w : World) (h : Levs w a L) (hn : n = L.length) (hmx : n ≤ 1000) (hc : cnt L ≤ 1000000) (hf : Fit L) :
    Calls Try.prog 84 #[.agg #[.slice a n c]] w fun e w' => ∃ M, e = .returned (.map (some M)) ∧ w.heap.size ≤ M ∧ MapN w' M (cnt L) (mp (pairsL L)) (sz (pairsL L)) ∧ Turns (fun _ => False) w w' := by
  have H := hide h
  have HL := hide hn
  have HC := hide hc
  have HF := hide hf
  have hni : (n : Int) ≤ 1000 := by omega
  have TA := hide ((Turns.refl (fun _ => False) w).alloc (.cells #[.slice a n c] 90))
  have CN := hide (count_any a n c L _ (h.quiet TA.out) hn hmx hc)
  have R0 := hide (heap_alloc_new w (.cells #[.slice a n c] 90))
  have hmm := run_makeMap23 (cnt L)
  clear h hn hc hf
  go_enter Try.func84, Try.ntmps84
  go_wp2_with fail
  refine CN.out.mono ?_
  rintro e w1 ⟨rfl, t1⟩
  have T1 := hide (TA.out.trans t1)
  have c0 := cell_of_row w1 w.heap.size 0 _ 90 (0, 0) (t1.heap R0.out (fun x => x))
  have c1 : (w1.alloc (.map #[] 0)).cell? ⟨w.heap.size, 0, none⟩ = some (.slice a n c) := ((Turns.refl (fun _ => False) w1).alloc _).cell c0 (fun x => x)
  have T2 := hide (T1.out.alloc (.map #[] 0))
  have HM := hide (MapN.made w1)
  have HS := hide (show w.heap.size < w1.heap.size by have := (t1.heap R0.out (fun x => x)); exact lt_of_heap this)
  clear t1 CN c0
  generalize hT : cnt L = T at *
  have HT := hide hT
  clear hT
  go_wp2_with fail
  clear hmm
  generalize hw2 : w1.alloc (.map #[] 0) = w2 at *
  clear hw2
  generalize w1.heap.size = M at *
  go_loopw [14] (fun i wr => ∃ k : Nat, i = .int .i64 (k : Nat) ∧ k ≤ n ∧ MapN wr M (cnt (L.take k)) (mp (pairsL (L.take k))) (sz (pairsL (L.take k))) ∧ Turns (fun j => j = M) w2 wr) (fun i _ => n - (intOf i).toNat)
  case atStart => exact ⟨0, rfl, Nat.zero_le _, HM.out, Turns.refl _ _⟩
  case round =>
    obtain ⟨k, rfl, hk, hm, hb⟩ := hrel
    have HB := hide hb
    have HMK := hide hm
    have HW := hide (show Turns (fun _ => False) w wr from T2.out.andThen hb fun j hj e => by have := HS.out; omega)
    clear hb hm
    by_cases hkn : k < n
    · obtain ⟨x, hx⟩ : ∃ x, L[k]? = some x := ⟨_, List.getElem?_eq_getElem (by have := HL.out; omega)⟩
      obtain ⟨⟨b, off, rfl, hcl⟩, hfb⟩ := (H.out.quiet HW.out) k x hx
      have i1 : (k : Int) < (n : Int) := by omega
      have i0 : (0 : Int) ≤ (k : Int) := by omega
      have HP := hide (pairsL_take hx)
      have HCT := hide (cnt_take hx)
      have h1 := cnt_take_le L (k + 1)
      have h3 := HC.out
      have h4 := HCT.out
      have h5 := HT.out
      have HFX := hide (HF.out x (List.mem_of_getElem? hx))
      have HFI := hide (H.out k x hx).2
      have HLE := hide (show cnt (L.take k) + x.l.length ≤ 1000000 by omega)
      obtain ⟨xa, xc, xl⟩ := x
      simp only at *
      clear hfb hx h1 h3 h4 h5
      generalize hXL : xl.length = XL at *
      have HXL := hide hXL
      have hxi : (XL : Int) ≤ 1000000 := by have := HLE.out; omega
      clear hXL
      go_wp2_with fail
      go_loopw [21] (fun i wq => ∃ q : Nat, i = .int .i64 (q : Nat) ∧ q ≤ XL ∧ MapN wq M (cnt (L.take k) + q) (mp (pairsL (L.take k) ++ prs k (xl.take q))) (sz (pairsL (L.take k) ++ prs k (xl.take q))) ∧ Turns (fun j => j = M) w2 wq) (fun i _ => XL - (intOf i).toNat)
      case atStart => exact ⟨0, rfl, Nat.zero_le _, by simpa [prs] using HMK.out, HB.out⟩
      case round =>
        obtain ⟨q, rfl, hq, hm, hb⟩ := hrel
        have HB2 := hide hb
        have HMQ := hide hm
        have HW2 := hide (show Turns (fun _ => False) w wr from T2.out.andThen hb fun j hj e => by have := HS.out; omega)
        clear hb hm
        by_cases hqn : q < XL
        · obtain ⟨y, hy⟩ : ∃ y, xl[q]? = some y := ⟨_, List.getElem?_eq_getElem (by have := HXL.out; omega)⟩
          obtain ⟨b', off', rfl, h6, hfb⟩ := fc_of (HFI.out.quiet HW2.out) hy
          have j1 : (q : Int) < (XL : Int) := by omega
          have j0 : (0 : Int) ≤ (q : Int) := by omega
          have HPY := hide (prs_take (i := k) hy)
          have hno := HFX.out y (List.mem_of_getElem? hy)
          obtain ⟨la, lc, ma, mc, ⟨no, sz, ls, ms, en, sq⟩⟩ := y
          obtain ⟨y0, y1, y2, y3, y4, y5⟩ := h6
          simp only at *
          clear hfb hy
          have hlt := HLE.out
          obtain ⟨w3, hup, hm3, ht3⟩ := (HMQ.out.keep (S := fun _ => False) ((Turns.refl (fun _ => False) wr).alloc (.cells #[.int .u64 (no : Nat), .int .i64 sz, .slice la ls.length lc, .slice ma ms.length mc, .int .i64 en, .int .u64 (sq : Nat)] 29)) (fun x => x)).store (by unfold maxLen; omega) no hno (k : Int)
          have B3 := hide (((HB2.out.alloc (.cells #[.int .u64 (no : Nat), .int .i64 sz, .slice la ls.length lc, .slice ma ms.length mc, .int .i64 en, .int .u64 (sq : Nat)] 29)).trans ht3))
          have M3 := hide hm3
          clear hm3 ht3 hlt hno
          go_wp2_with fail
          go_roundw
          case rel => exact ⟨q + 1, by go_num, by omega, by rw [HPY.out, ← List.append_assoc, mp_snoc, sz_snoc]; exact M3.out, B3.out⟩
          case measure => simp [intOf]; omega
        · obtain rfl : q = XL := by omega
          have ht : xl.take q = xl := List.take_of_length_le (by have := HXL.out; omega)
          rw [ht] at HMQ
          go_wp2_with fail
          go_roundw
          case rel => exact ⟨k + 1, by go_num, by omega, by rw [HCT.out, HP.out]; exact HMQ.out, HB2.out⟩
          case measure => simp [intOf]; omega
    · obtain rfl : k = n := by omega
      have ht : L.take k = L := List.take_of_length_le (by have := HL.out; omega)
      rw [ht] at HMK
      go_wp2_with fail
      go_ret
      exact ⟨M, rfl, by have := HS.out; omega, HMK.out, HW.out⟩
theorem hasTwice_any (a : Option Addr) (n c : Nat) (L : List Lv) (w : World) (h : Levs w a L) (hn : n = L.length) (hmx : n ≤ 1000) (hc : cnt L ≤ 1000000) (hf : Fit L) :
    Calls Try.prog 72 #[.agg #[.slice a n c]] w fun e w' => e = .returned (.bool (!decide (numsL L).Nodup)) ∧ Turns (fun _ => False) w w' := by
  have TA := hide ((Turns.refl (fun _ => False) w).alloc (.cells #[.slice a n c] 90))
  have LO := hide (fun (w2 : World) (t : Turns (fun _ => False) w w2) => levelOf_any a n c L w2 (h.quiet t) hn hmx hc hf)
  have CN := hide (fun (w2 : World) (t : Turns (fun _ => False) w w2) => count_any a n c L w2 (h.quiet t) hn hmx hc)
  have R0 := hide (heap_alloc_new w (.cells #[.slice a n c] 90))
  have HEND := hide (show decide (sz (pairsL L) < cnt L) = !decide (numsL L).Nodup by
    have h1 := sz_le (pairsL L)
    have h2 := sz_eq (pairsL L)
    rw [pairsL_length] at h1 h2
    rw [pairsL_nums] at h2
    by_cases hd : (numsL L).Nodup
    · have := h2.2 hd; simp [hd]; omega
    · have : ¬ sz (pairsL L) = cnt L := fun e => hd (h2.1 e)
      simp [hd]; omega)
  clear h hn hc hf
  go_enter Try.func72, Try.ntmps72
  go_wp2_with fail
  generalize w.alloc (.cells #[.slice a n c] 90) = w0 at *
  have c0 : w0.cell? ⟨w.heap.size, 0, none⟩ = some (.slice a n c) := cell_of_row w0 w.heap.size 0 _ 90 (0, 0) R0.out
  generalize w.heap.size = B at *
  have T1 := hide (TA.out.drew)
  have hd0 : (w0.drew).cell? ⟨B, 0, none⟩ = some (.slice a n c) := c0
  generalize hS : sz (pairsL L) = S at *
  generalize hC : cnt L = C at *
  go_region_held (fun w' => w'.cell? ⟨B, 0, none⟩ = some (.slice a n c)) (first | (with_reducible exact k5) | (with_reducible exact k4) | (with_reducible exact k3) | (with_reducible exact k2) | (simp only [World.cell?_drew]; with_reducible exact c0)) (first
    | (go_at_call 73; refine (CN.out _ T2.out).mono ?_; rintro e w3 ⟨rfl, t3⟩; have k3 := t3.cell k2 (fun x => x); have T3 := hide (T2.out.trans t3); have hl3 := (MN.out.keep t3 (fun x => x)).len 3; clear t3)
    | (go_at_call 84; refine (LO.out _ T4.out).mono ?_; rintro e w5 ⟨M, rfl, hM, hm, t5⟩; have k5 := t5.cell k4 (fun x => x); have T3 := hide (T4.out.trans t5); have hl5 := hm.len 3; clear t5 hm)
    | (go_at_call 84; refine (LO.out _ T1.out).mono ?_; rintro e w2 ⟨M, rfl, hM, hm, t2⟩; have k2 := t2.cell hd0 (fun x => x); have T2 := hide (T1.out.trans t2); have hl2 := hm.len 3; have MN := hide hm; clear t2 hm)
    | (go_at_call 73; refine (CN.out _ T1.out).mono ?_; rintro e w4 ⟨rfl, t4⟩; have k4 := t4.cell hd0 (fun x => x); have T4 := hide (T1.out.trans t4); clear t4))
  all_goals go_wp2_with fail
  all_goals go_ret
  all_goals exact ⟨congrArg Ending.returned (congrArg Value.bool (by rw [← HEND.out])), T3.out⟩
end Go.Proofs.Ytkmcdjbadngfgaa
