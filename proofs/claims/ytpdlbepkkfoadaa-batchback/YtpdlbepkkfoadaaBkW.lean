/-
  A batch's bytes tell it.
-/
import Derived.Test.YtpdlbepkkfoadaaPa
import Derived.Test.YtpdlbepkkfoadaaLv
import Derived.Test.YtpdlbepkkfoadaaSm
namespace Go.Proofs.Ytpdlbepkkfoadaa
open Go.RowKit
set_option maxRecDepth 100000
set_option maxHeartbeats 4000000
theorem batchB_len (s : Nat) (hs : s < 18446744073709551616) {xs : List Wr} (h : Smol xs) : 0 < (batchB s xs).length ∧ (batchB s xs).length ≤ 30000 := by
  have h1 := short_len s hs
  have h2 := short_len xs.length (by have := h.len; omega)
  have h3 := h.take xs.length
  rw [List.take_length] at h3
  have h4 : 0 < (short s).length := List.length_pos_iff.2 (short_ne s)
  unfold batchB
  rw [List.length_append, List.length_append]
  omega
theorem smol_back (s : Nat) {xs : List Wr} (hc : chk s xs = 0) (h : Smol xs) : ∀ ys, rdWrites (heads (batchB s xs)).2.1 (heads (batchB s xs)).2.2.1 = .ok (ys, []) → Smol ys := by
  obtain ⟨_, h2, _, h4⟩ := chk_fine hc
  have hh : heads (batchB s xs) = (s, xs.length, writesB xs, 0) := by
    unfold heads batchB
    rw [rdShort_short _ h2]
    simp only [List.drop_left]
    rw [rdShort_short _ (by have := h.len; omega)]
    simp only [List.drop_left]
  rw [hh]
  intro ys hy
  have := rdWrites_ok xs [] h4
  rw [List.append_nil] at this
  simp only at hy
  rw [this] at hy
  simp only [Except.ok.injEq, Prod.mk.injEq, and_true] at hy
  rw [← hy]
  exact h
theorem smol_more (s : Nat) {xs : List Wr} (hc : chk s xs = 0) (h : Smol xs) (b : BitVec 8) : ∀ ys, rdWrites (heads (batchB s xs ++ [b])).2.1 (heads (batchB s xs ++ [b])).2.2.1 = .ok (ys, []) → Smol ys := by
  obtain ⟨_, h2, _, h4⟩ := chk_fine hc
  have hh : heads (batchB s xs ++ [b]) = (s, xs.length, writesB xs ++ [b], 0) := by
    unfold heads batchB
    rw [List.append_assoc, List.append_assoc, rdShort_short _ h2]
    simp only [List.drop_left]
    rw [rdShort_short _ (by have := h.len; omega)]
    simp only [List.drop_left]
  rw [hh]
  intro ys hy
  simp only at hy
  rw [rdWrites_ok xs [b] h4] at hy
  simp at hy
theorem smol_cut (s : Nat) {xs : List Wr} (hc : chk s xs = 0) (h : Smol xs) : ∀ ys, rdWrites (heads (batchB s xs).dropLast).2.1 (heads (batchB s xs).dropLast).2.2.1 = .ok (ys, []) → Smol ys := by
  obtain ⟨_, h2, h3, h4⟩ := chk_fine hc
  have hh : heads (batchB s xs).dropLast = (s, xs.length, (writesB xs).dropLast, 0) := by
    unfold heads batchB
    rw [List.dropLast_append_of_ne_nil (by simp [short_ne]), List.dropLast_append_of_ne_nil (writesB_ne h3), rdShort_short _ h2]
    simp only [List.drop_left]
    rw [rdShort_short _ (by have := h.len; omega)]
    simp only [List.drop_left]
  rw [hh]
  intro ys hy
  simp only at hy
  rw [rdWrites_cut xs h3 h4] at hy
  cases hy
theorem back_any (s : Nat) (hs : s < 18446744073709551616) (a : Option Addr) (n c : Nat) (xs : List Wr) (w : World) (h : Wrs w (.slice a n c) xs) (hn : n ≤ 140737488355328) (hb : ∀ f ∈ xs, f.2.1.length ≤ 140737488355328 ∧ f.2.2.length ≤ 140737488355328) :
    Calls Try.prog 4 #[.agg #[.int .u64 s, .slice a n c]] w fun e w' => e = .returned (.bool true) ∧ Below w.heap.size w w' := by
  have hl := h.len
  have b0 := (Below.refl w.heap.size w).alloc (Nat.le_refl _) (.cells #[.int .u64 s, .slice a n c] 31)
  have x0 := heap_alloc_new w (.cells #[.int .u64 s, .slice a n c] 31)
  have H := hide (h.below b0)
  have HL := hide hl
  have HB := hide hb
  have B0 := hide b0
  have X0 := hide x0
  clear h hl hb b0 x0
  go_enter Try.func4, Try.ntmps4
  go_wp2_with fail
  generalize w.alloc (.cells #[.int .u64 s, .slice a n c] 31) = w0 at *
  refine (lives_any w0).mono ?_
  rintro e w1 ⟨rfl, b1⟩
  have H1 := hide (H.out.below b1)
  have B1 := hide (B0.out.trans (b1.mono B0.out.size))
  have X1 := hide (heap_keep b1 X0.out)
  clear b1 H B0 X0
  have c0 : w1.cell? ⟨w.heap.size, 0, none⟩ = some (.int .u64 s) := cell_of_row w1 _ 0 _ 31 (0, 0) X1.out
  have c1 : w1.cell? ⟨w.heap.size, 1, none⟩ = some (.slice a n c) := cell_of_row w1 _ 1 _ 31 (0, 0) X1.out
  go_wp2_with fail
  by_cases hn3 : 300 < n
  · refine (small_many s a n c xs w1 H1.out hn3 hn HB.out).mono ?_
    rintro e w2 ⟨rfl, b2⟩
    have B2 := hide (B1.out.trans (b2.mono B1.out.size))
    clear b2
    go_wp2_with fail
    go_ret
    exact ⟨rfl, B2.out⟩
  · refine (small_few s a n c xs w1 H1.out (by omega) HB.out).mono ?_
    rintro e w2 ⟨rfl, b2⟩
    have B2 := hide (B1.out.trans (b2.mono B1.out.size))
    have H2 := hide (H1.out.below b2)
    have X2 := hide (heap_keep b2 X1.out)
    clear b2 B1 H1 X1 c0 c1
    by_cases ht : tot xs ≤ 20000
    · rw [decide_eq_true ht]
      have hsm : Smol xs := ⟨by have := HL.out; omega, ht⟩
      have SM := hide hsm
      have c0 : w2.cell? ⟨w.heap.size, 0, none⟩ = some (.int .u64 s) := cell_of_row w2 _ 0 _ 31 (0, 0) X2.out
      have c1 : w2.cell? ⟨w.heap.size, 1, none⟩ = some (.slice a n c) := cell_of_row w2 _ 1 _ 31 (0, 0) X2.out
      clear hsm ht
      by_cases hc : chk s xs = 0
      · have HC := hide hc
        clear hc
        go_wp2_with fail
        refine (append_good s hs a n c xs w2 H2.out SM.out HC.out).mono ?_
        rintro e w3 ⟨g, cp, rfl, hg, hcp, hrow, b3⟩
        have ROW := hide hrow
        have H3 := hide (H2.out.below b3)
        have B3 := hide (B2.out.trans (b3.mono B2.out.size))
        have X3 := hide (heap_keep b3 X2.out)
        have hlen := batchB_len s hs SM.out
        clear hrow b3 H2 B2 X2 c0 c1
        have hxl : xs.length < 2 ^ 64 := by have := SM.out.len; omega
        have p1 := hide (parse_back s xs HC.out hxl)
        have p2 := hide (parse_cut s xs HC.out hxl)
        have p3 := hide (parse_more s xs HC.out hxl 0#8)
        have m1 := hide (smol_back s HC.out SM.out)
        have m2 := hide (smol_cut s HC.out SM.out)
        have m3 := hide (smol_more s HC.out SM.out 0#8)
        obtain ⟨hlen0, hlen1⟩ := hlen
        generalize hBB : batchB s xs = bb at *
        have HBB := hide hBB
        clear hxl hBB
        have hL : bb.length = bb.length := rfl
        generalize hLL : bb.length = L at *
        have HLL := hide hLL
        clear hLL hL
        go_wp2_with fail
        refine (parse_any (some ⟨g, 0, none⟩) L cp bb w3 (RowB.bytes ROW.out HLL.out.symm) (by omega) m1.out).mono ?_
        rintro e w4 ⟨hp1, b4⟩
        rw [p1.out] at hp1
        obtain ⟨a4, c4, rfl, hw4⟩ := hp1
        have hxn : xs.length = n := HL.out.symm
        rw [hxn] at hw4 ⊢
        have b5 := (Below.refl w4.heap.size w4).alloc (Nat.le_refl _) (.cells #[.int .u64 s, .slice a4 n c4] 31)
        have x5 := heap_alloc_new w4 (.cells #[.int .u64 s, .slice a4 n c4] 31)
        have W5 := hide (hw4.below b5)
        have H5 := hide ((H3.out.below b4).below b5)
        have ROW5 := hide (RowC.below (RowC.below ROW.out b4) b5)
        have B5 := hide ((B3.out.trans (b4.mono B3.out.size)).trans (b5.mono (Nat.le_trans B3.out.size b4.size)))
        have Y5 := hide x5
        have X5 := hide (heap_keep b5 (heap_keep b4 X3.out))
        have hlt5 : w.heap.size < w4.heap.size := lt_of_heap (heap_keep b4 X3.out)
        clear hw4 b4 b5 x5 H3 ROW B3 X3 hxn
        go_wp2_with fail
        generalize w4.alloc (.cells #[.int .u64 s, .slice a4 n c4] 31) = w5 at *
        generalize w4.heap.size = A4 at *
        have hcut : bb.dropLast = bb.take (L - 1) := by rw [List.dropLast_eq_take, HLL.out]
        have hbc : Bytes w5 (.slice (some ⟨g, 0, none⟩) (L - 1) cp) bb.dropLast := by
          rw [hcut]
          exact bytes_first (n := L) (c := cp) (RowB.bytes ROW5.out HLL.out.symm) (L - 1) cp (by omega)
        have HBC := hide hbc
        clear hcut hbc
        refine (parse_any (some ⟨g, 0, none⟩) (L - 1) cp bb.dropLast w5 HBC.out (by omega) m2.out).mono ?_
        rintro e w6 ⟨hp2, b6⟩
        rw [p2.out] at hp2
        obtain rfl := hp2
        have b7 := (Below.refl w6.heap.size w6).alloc (Nat.le_refl _) (.cells #[.int .u64 0, .slice none 0 0] 31)
        have bA := b6.trans (b7.mono b6.size)
        have W7 := hide (W5.out.below bA)
        have H7 := hide (H5.out.below bA)
        have ROW7 := hide (RowC.below ROW5.out bA)
        have B7 := hide (B5.out.trans (bA.mono B5.out.size))
        have Y7 := hide (heap_keep bA Y5.out)
        have X7 := hide (heap_keep bA X5.out)
        clear b6 b7 bA W5 H5 ROW5 B5 Y5 X5 HBC
        go_wp2_with fail
        generalize w6.alloc (.cells #[.int .u64 0, .slice none 0 0] 31) = w7 at *
        refine (own_any (.slice (some ⟨g, 0, none⟩) L cp) bb w7 (RowB.bytes ROW7.out HLL.out.symm) (by rw [HLL.out]; omega)).mono ?_
        rintro e w8 ⟨g8, c8, rfl, hg8, hc8, hrow8, b8⟩
        rw [HLL.out] at hc8 ⊢
        obtain ⟨g9, c9, w9, hr9, hc9, hrow9, hgr9⟩ := append_nat w8 g8 L c8 bb HLL.out.symm 0 (by decide) hrow8 hc8 (by omega)
        have hr9' : ∀ ty, (Builtin.append_ #[22, 22] ty #[.slice (some ⟨g8, 0, none⟩) L c8, .slice (some ⟨w8.heap.size, 0, none⟩) 1 1]).run Try.prog (w8.alloc (.cells #[.int .u8 0] 5)) = .ok (.slice (some ⟨g9, 0, none⟩) (L + 1) c9) w9 := hr9
        have b9 : Below w7.heap.size w7 w9 := b8.trans (hgr9.below b8.size hg8)
        have R9 := hide hr9'
        have ROW9 := hide hrow9
        have W9 := hide (W7.out.below b9)
        have H9 := hide (H7.out.below b9)
        have B9 := hide (B7.out.trans (b9.mono B7.out.size))
        have Y9 := hide (heap_keep b9 Y7.out)
        have X9 := hide (heap_keep b9 X7.out)
        clear hr9 hr9' hrow8 hrow9 b8 b9 hgr9 W7 H7 ROW7 B7 Y7 X7 hc8 hg8
        go_wp2_with (at_builtin; refine wpList_append_run rfl (.tmp 43) (.tmp 44) 22 rfl (.slice (some ⟨g8, 0, none⟩) L c8) (.slice (some ⟨w8.heap.size, 0, none⟩) 1 1) rfl rfl _ _ (R9.out _) ?_)
        have hL1 : L + 1 = (bb ++ [BitVec.ofNat 8 0]).length := by rw [List.length_append, HLL.out]; rfl
        refine (parse_any (some ⟨g9, 0, none⟩) (L + 1) c9 (bb ++ [0#8]) w9 (RowB.bytes ROW9.out hL1) (by omega) m3.out).mono ?_
        rintro e w10 ⟨hp3, b10⟩
        rw [p3.out] at hp3
        obtain rfl := hp3
        have b11 := (Below.refl w10.heap.size w10).alloc (Nat.le_refl _) (.cells #[.int .u64 0, .slice none 0 0] 31)
        have bB := b10.trans (b11.mono b10.size)
        have W11 := hide (W9.out.below bB)
        have H11 := hide (H9.out.below bB)
        have B11 := hide (B9.out.trans (bB.mono B9.out.size))
        have Y11 := hide (heap_keep bB Y9.out)
        have X11 := hide (heap_keep bB X9.out)
        clear b10 b11 bB W9 H9 B9 Y9 X9 ROW9 R9 hL1
        have y0 : (w10.alloc (.cells #[.int .u64 0, .slice none 0 0] 31)).cell? ⟨A4, 0, none⟩ = some (.int .u64 s) := cell_of_row _ _ 0 _ 31 (0, 0) Y11.out
        have y1 : (w10.alloc (.cells #[.int .u64 0, .slice none 0 0] 31)).cell? ⟨A4, 1, none⟩ = some (.slice a4 n c4) := cell_of_row _ _ 1 _ 31 (0, 0) Y11.out
        have x0 : (w10.alloc (.cells #[.int .u64 0, .slice none 0 0] 31)).cell? ⟨w.heap.size, 0, none⟩ = some (.int .u64 s) := cell_of_row _ _ 0 _ 31 (0, 0) X11.out
        have x1 : (w10.alloc (.cells #[.int .u64 0, .slice none 0 0] 31)).cell? ⟨w.heap.size, 1, none⟩ = some (.slice a n c) := cell_of_row _ _ 1 _ 31 (0, 0) X11.out
        go_wp2_with fail
        generalize w10.alloc (.cells #[.int .u64 0, .slice none 0 0] 31) = w11 at *
        refine (batch_same s a4 a n c4 c xs w11 W11.out H11.out SM.out).mono ?_
        rintro e w12 ⟨rfl, b12⟩
        have B12 := hide (B11.out.trans (b12.mono B11.out.size))
        clear b12
        go_wp2_with fail
        go_ret
        exact ⟨rfl, B12.out⟩
      · have HC := hide hc
        clear hc
        go_wp2_with fail
        refine (append_wrong s hs a n c xs w2 H2.out SM.out HC.out).mono ?_
        rintro e w3 ⟨rfl, b3⟩
        have H3 := hide (H2.out.below b3)
        have B3 := hide (B2.out.trans (b3.mono B2.out.size))
        have X3 := hide (heap_keep b3 X2.out)
        have d0 : w3.cell? ⟨w.heap.size, 0, none⟩ = some (.int .u64 s) := cell_of_row w3 _ 0 _ 31 (0, 0) X3.out
        have d1 : w3.cell? ⟨w.heap.size, 1, none⟩ = some (.slice a n c) := cell_of_row w3 _ 1 _ 31 (0, 0) X3.out
        have hne : (chk s xs != 0) = true := by simpa using HC.out
        clear b3 H2 B2 X2 c0 c1
        go_wp2_with fail
        refine (check_any s hs a n c xs w3 H3.out SM.out).mono ?_
        rintro e w4 ⟨rfl, b4⟩
        have B4 := hide (B3.out.trans (b4.mono B3.out.size))
        clear b4
        go_wp2_with fail
        go_ret
        exact ⟨rfl, B4.out⟩
    · rw [decide_eq_false ht]
      go_wp2_with fail
      go_ret
      exact ⟨rfl, B2.out⟩
end Go.Proofs.Ytpdlbepkkfoadaa
