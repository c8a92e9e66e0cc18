/-
  Append, with nothing ahead.
-/
import Derived.Test.YtpdlbepkkfoadaaAp
namespace Go.Proofs.Ytpdlbepkkfoadaa
open Go.RowKit
set_option maxRecDepth 100000
set_option maxHeartbeats 4000000
theorem chk_vals (s : Nat) (xs : List Wr) : chk s xs = 0 ∨ chk s xs = 2 ∨ chk s xs = 3 := by
  unfold chk
  repeat' split
  all_goals simp
theorem writesB_snoc (fs : List Wr) (k : Nat) (h : k < fs.length) : writesB (fs.take (k + 1)) = writesB (fs.take k) ++ writeB fs[k] := by
  unfold writesB
  rw [List.take_succ_eq_append_getElem h, List.map_append, List.flatten_append]
  simp
theorem writeB_le (x : Wr) (h : x.2.1.length + x.2.2.length ≤ 20000) : (writeB x).length ≤ 21 + (x.2.1.length + x.2.2.length) := by
  have h1 := short_len x.2.1.length (by omega)
  have h2 := short_len x.2.2.length (by omega)
  unfold writeB
  split <;> simp [pieceB_len] <;> omega
theorem writesB_le : ∀ (xs : List Wr), (∀ x ∈ xs, x.2.1.length + x.2.2.length ≤ 20000) → (writesB xs).length ≤ 21 * xs.length + tot xs
  | [], _ => by simp [writesB, tot]
  | x :: r, h => by
    have h1 := writeB_le x (h x (by simp))
    have h2 := writesB_le r (fun y hy => h y (by simp [hy]))
    simp only [writesB, tot, List.map_cons, List.sum_cons, List.flatten_cons, List.length_append, List.length_cons] at h2 ⊢
    omega
theorem Smol.each {xs : List Wr} (h : Smol xs) {x : Wr} (hx : x ∈ xs) : x.2.1.length + x.2.2.length ≤ 20000 := Nat.le_trans (tot_mem hx) h.tot
theorem Smol.take {xs : List Wr} (h : Smol xs) (k : Nat) : (writesB (xs.take k)).length ≤ 26300 := by
  have h1 := writesB_le (xs.take k) (fun x hx => h.each (List.mem_of_mem_take hx))
  have h2 := tot_take xs k
  have h3 := h.len
  have h4 := h.tot
  rw [List.length_take] at h1
  omega
theorem append_wrong (s : Nat) (hs : s < 18446744073709551616) (a : Option Addr) (n c : Nat) (xs : List Wr) (w : World) (h : Wrs w (.slice a n c) xs) (hm : Smol xs) (hc : chk s xs ≠ 0) :
    Calls Try.prog 12 #[.slice none 0 0, .agg #[.int .u64 s, .slice a n c]] w fun e w' => e = .returned (.tuple #[.slice none 0 0, .int .i64 (chk s xs)]) ∧ Below w.heap.size w w' := by
  have hb0 := (Below.refl w.heap.size w).alloc (Nat.le_refl _) (.cells #[.int .u64 s, .slice a n c] 31)
  have H := hide (h.below hb0)
  have HM := hide hm
  have HC := hide hc
  have HB0 := hide hb0
  clear h hm hb0 hc
  go_enter Try.func12, Try.ntmps12
  go_wp2_with fail
  refine (check_any s hs a n c xs _ H.out HM.out).mono ?_
  rintro e w1 ⟨rfl, b1⟩
  have B1 := hide (HB0.out.trans (b1.mono HB0.out.size))
  clear b1
  have hv := chk_vals s xs
  have hne := HC.out
  generalize hq : chk s xs = q at *
  have HQ := hide hq
  clear hq
  rcases hv with rfl | rfl | rfl
  · exact absurd rfl hne
  all_goals go_wp2_with fail
  all_goals go_ret2
  all_goals exact ⟨by rw [HQ.out]; rfl, B1.out⟩
theorem append_good (s : Nat) (hs : s < 18446744073709551616) (a : Option Addr) (n c : Nat) (xs : List Wr) (w : World) (h : Wrs w (.slice a n c) xs) (hm : Smol xs) (hc : chk s xs = 0) :
    Calls Try.prog 12 #[.slice none 0 0, .agg #[.int .u64 s, .slice a n c]] w fun e w' => ∃ g cp, e = .returned (.tuple #[.slice (some ⟨g, 0, none⟩) (batchB s xs).length cp, .int .i64 0]) ∧ w.heap.size ≤ g ∧ (batchB s xs).length ≤ cp ∧ RowB w' g cp (batchB s xs) ∧ Below w.heap.size w w' := by
  have hb0 := (Below.refl w.heap.size w).alloc (Nat.le_refl _) (.cells #[.int .u64 s, .slice a n c] 31)
  have HNEW := hide (heap_alloc_new w (.cells #[.int .u64 s, .slice a n c] 31))
  have H := hide (h.below hb0)
  have HL := hide h.len
  have HM := hide hm
  have HC := hide hc
  have HB0 := hide hb0
  have hn : n ≤ 300 := by have := hm.len; have := h.len; omega
  clear h hm hb0 hc
  go_enter Try.func12, Try.ntmps12
  go_wp2_with fail
  refine (check_any s hs a n c xs _ H.out HM.out).mono ?_
  rintro e w1 ⟨rfl, b1⟩
  rw [HC.out]
  have hnew1 := heap_keep b1 HNEW.out
  have HN1 := hide hnew1
  have f0 : w1.cell? ⟨w.heap.size, 0, none⟩ = some (.int .u64 s) := cell_of_row w1 _ 0 _ 31 (0, 0) hnew1
  have f1 : w1.cell? ⟨w.heap.size, 1, none⟩ = some (.slice a n c) := cell_of_row w1 _ 1 _ 31 (0, 0) hnew1
  have H1 := hide (H.out.below b1)
  have B1 := hide (HB0.out.trans (b1.mono HB0.out.size))
  clear b1 hnew1 HB0 HNEW H
  go_wp2_with fail
  refine (sizeB_any s hs a n c xs _ H1.out HM.out).mono ?_
  rintro e w2 ⟨rfl, b2⟩
  have hz := sizeN_le s HM.out
  obtain ⟨C, hC⟩ : ∃ C : Nat, sizeN s xs = (C : Int) := ⟨(sizeN s xs).toNat, by omega⟩
  rw [hC] at hz ⊢
  clear hC
  have hnew2 := heap_keep b2 HN1.out
  have HN2 := hide hnew2
  have H2 := hide (H1.out.below b2)
  have B2 := hide (B1.out.trans (b2.mono B1.out.size))
  clear b2 hnew2 f0 f1 B1 H1 HN1
  obtain ⟨cs, hmk, hcs⟩ := make22 C (by omega) w2
  have hb : Below w2.heap.size w2 (w2.alloc (.cells cs 5)) := (Below.refl _ _).alloc (Nat.le_refl _) _
  obtain ⟨g, c1, w3, hr, hg, hrow, hb3, hc, hroom, _⟩ := append_bytes2 (w2.alloc (.cells cs 5)) w2.heap.size (some ⟨w2.heap.size, 0, none⟩) 0 C [] rfl (.slice none 0 0) [] 0 rfl (Bytes.empty _) (by simp)
    (.inr ⟨_, rfl, Nat.le_refl _, Nat.zero_le _, row_made hcs⟩) (by omega)
  obtain ⟨e1, rfl⟩ := hroom (by omega)
  obtain rfl : g = w2.heap.size := by cases e1; rfl
  rw [Nat.add_zero] at hr
  have b23 := hb.trans hb3
  have HA := hide hr
  have HR3 := hide hrow
  have hnew3 := heap_keep b23 HN2.out
  have HN3 := hide hnew3
  have f0 : w3.cell? ⟨w.heap.size, 0, none⟩ = some (.int .u64 s) := cell_of_row w3 _ 0 _ 31 (0, 0) hnew3
  have hlt3 := lt_of_heap HN2.out
  have G0 := hide b23
  clear hr hrow hb hb3 hcs hroom e1 hc hg b23 hnew3
  generalize hG : w2.heap.size = G at *
  go_wp2_with (at_builtin; refine wpList_append_run rfl (.tmp 20) (.tmp 21) 22 rfl (.slice (some ⟨G, 0, none⟩) 0 c1) (.slice none 0 0) rfl rfl _ _ (HA.out _) ?_)
  refine (appendNumber_any G c1 [] 0 rfl s hs _ (Nat.zero_le _) HR3.out (by omega)).mono ?_
  rintro e w4 ⟨g4, c4, rfl, hc4, hrow4, hg4⟩
  rw [Nat.zero_add] at hc4 ⊢
  rw [List.nil_append] at hrow4
  have hsl := short_len s hs
  have hnew4 := hg4.turns.heap HN3.out (by omega)
  have HN4 := hide hnew4
  have f1 : w4.cell? ⟨w.heap.size, 1, none⟩ = some (.slice a n c) := cell_of_row w4 _ 1 _ 31 (0, 0) hnew4
  have HR4 := hide hrow4
  have G4 := hide hg4
  have hne4 : ¬ w.heap.size = g4 := by
    rcases hg4.own with e | e
    · omega
    · have := lt_of_heap HN3.out; omega
  clear hrow4 hg4 hnew4 f0
  generalize hL1 : (short s).length = L1 at *
  have HL1 := hide hL1
  clear hL1
  go_wp2_with fail
  refine (appendNumber_any g4 c4 (short s) L1 HL1.out.symm n (by omega) _ hc4 HR4.out (by omega)).mono ?_
  rintro e w5 ⟨g5, c5, rfl, hc5, hrow5, hg5⟩
  have hsl2 := short_len n (by omega)
  have hnew5 := hg5.turns.heap HN4.out hne4
  have HN5 := hide hnew5
  have f1' : w5.cell? ⟨w.heap.size, 1, none⟩ = some (.slice a n c) := cell_of_row w5 _ 1 _ 31 (0, 0) hnew5
  have HR5 := hide hrow5
  have G5 := hide (G4.out.trans hg5)
  clear hrow5 hg5 hnew5 f1
  have hlen5 : L1 + (short n).length = (short s ++ short n).length := by rw [List.length_append, HL1.out]
  have HL5 := hide hlen5
  generalize hM5 : L1 + (short n).length = M5 at *
  have hM5' : M5 ≤ 20 := by omega
  clear hlen5 hM5
  go_wp2_with fail
  have hGG : G ≤ w3.heap.size := by have := G0.out.size; omega
  have B5 := hide (G0.out.trans (G5.out.below hGG (Nat.le_refl _)))
  have hg5 := G5.out.ge hGG (Nat.le_refl _)
  clear f1' HN5 HN4 HN3 HN2 G4 G5 HR4 HR3 HA hmk
  go_loopw [7, 36] (fun v i wr => ∃ k g1 cc m : Nat, i = .int .i64 (k : Nat) ∧ v = .slice (some ⟨g1, 0, none⟩) m cc ∧ k ≤ n ∧ m = (short s ++ short n ++ writesB (xs.take k)).length ∧ m ≤ cc ∧ RowB wr g1 cc (short s ++ short n ++ writesB (xs.take k)) ∧ G ≤ g1 ∧ Below G w2 wr) (fun _ i _ => n - (intOf i).toNat)
  case atStart => exact ⟨0, g5, c5, M5, rfl, rfl, Nat.zero_le _, by rw [HL5.out]; simp [writesB], hc5, by simpa [writesB] using HR5.out, hg5, B5.out⟩
  case round =>
    obtain ⟨k, g1, cc, m, rfl, rfl, hk, hm, hmc, hrow, hg1, hb⟩ := hrel
    have HMM := hide hm
    have HROW := hide hrow
    have HBB := hide hb
    have hml : m ≤ 26320 := by
      have h1 := HM.out.take k
      have h2 := HL5.out
      rw [hm, List.length_append, ← h2]
      omega
    by_cases hkn : k < n
    · have hkf : k < xs.length := by have := HL.out; omega
      have hb2 : Below w2.heap.size w2 wr := by rw [hG]; exact hb
      obtain ⟨b, off, rfl, z0, ka, kc, va, vc, z1, z2, hby1, hby2⟩ := H2.out.at k hkf
      have y0 := (hb2.cell (block_lt_of_cell z0)).trans z0
      have y1 := (hb2.cell (block_lt_of_cell z1)).trans z1
      have y2 := (hb2.cell (block_lt_of_cell z2)).trans z2
      clear z0 z1 z2
      have i1 : (k : Int) < (n : Int) := by omega
      have i0 : (0 : Int) ≤ (k : Int) := by omega
      have HTK := hide (writesB_snoc xs k hkf)
      have hmem := List.getElem_mem hkf
      have hfine := (chk_fine HC.out).2.2.2 _ hmem
      have heach := HM.out.each hmem
      generalize hx : xs[k] = x at *
      clear hmem
      obtain ⟨kd, key, val⟩ := x
      obtain ⟨y, hy, rfl⟩ : ∃ y : Nat, y < 256 ∧ kd = (y : Int) := by
        rcases hfine.1.1 with e | ⟨e, _⟩
        · exact ⟨1, by decide, e⟩
        · exact ⟨2, by decide, e⟩
      simp only at y0 y1 y2 heach hby1 hby2
      have hle1 : key.length ≤ 100000 := by omega
      have hle2 : val.length ≤ 100000 := by omega
      have HY1 := hide hby1
      have HY2 := hide hby2
      have HXK := hide hx
      clear hby1 hby2 hfine heach hm hrow hb hx hb2
      generalize hkl : key.length = kl at *
      generalize hvl : val.length = vl at *
      have bx := (Below.refl wr.heap.size wr).alloc (Nat.le_refl _) (.cells #[.int .i64 (y : Int), .slice ka kl kc, .slice va vl vc] 24)
      have BX := hide bx
      have hglt : g1 < wr.heap.size := by
        obtain ⟨cs, h1, _⟩ := HROW.out
        exact lt_of_heap h1
      have hka : ∀ w', Turns (fun k => k = g1) (wr.alloc (.cells #[.int .i64 (y : Int), .slice ka kl kc, .slice va vl vc] 24)) w' → Bytes w' (.slice ka kl kc) key := fun w' ht => HY1.out.below (by rw [hG]; exact (HBB.out.trans (bx.mono (by omega))).trans (ht.below (by rw [World.size_alloc]; omega) (fun j e => by omega)))
      have hva : ∀ w', Turns (fun k => k = g1) (wr.alloc (.cells #[.int .i64 (y : Int), .slice ka kl kc, .slice va vl vc] 24)) w' → Bytes w' (.slice va vl vc) val := fun w' ht => HY2.out.below (by rw [hG]; exact (HBB.out.trans (bx.mono (by omega))).trans (ht.below (by rw [World.size_alloc]; omega) (fun j e => by omega)))
      have HKA := hide hka
      have HVA := hide hva
      clear hka hva bx
      go_wp2_with fail
      refine (appendWrite_any g1 cc _ m HMM.out y hy ka va kl kc vl vc key val _ hmc (RowC.below HROW.out BX.out) (by omega) HKA.out HVA.out hle1 hle2).mono ?_
      rintro e w7 ⟨g7, c7, rfl, hc7, hrow7, hg7⟩
      rw [List.append_assoc, ← HTK.out] at hrow7
      have HR7 := hide hrow7
      have G7 := hide (hg7.before BX.out)
      clear hrow7 hg7
      have hm7 : m + (writeB ((y : Int), key, val)).length = (short s ++ short n ++ writesB (xs.take (k + 1))).length := by rw [HTK.out, ← List.append_assoc, List.length_append, ← HMM.out]
      have HM7 := hide hm7
      generalize m + (writeB ((y : Int), key, val)).length = m7 at *
      clear hm7
      go_wp2_with fail
      go_roundw
      case rel => exact ⟨k + 1, g7, c7, m7, by go_num, rfl, by omega, HM7.out, hc7, HR7.out, G7.out.ge (by omega) hg1, HBB.out.trans (G7.out.below (by omega) hg1)⟩
      case measure => simp [intOf]; omega
    · obtain rfl : k = n := by omega
      have ht : xs.take k = xs := List.take_of_length_le (by have := HL.out; omega)
      have hbt : short s ++ short k ++ writesB xs = batchB s xs := by rw [batchB, HL.out, List.append_assoc]
      rw [ht, hbt] at hm hrow
      have HM9 := hide hm
      have HR9 := hide hrow
      clear hm hrow hb
      go_wp2_with fail
      go_ret2
      refine ⟨g1, cc, by rw [← HM9.out]; rfl, by omega, by rw [← HM9.out]; exact hmc, HR9.out, B2.out.trans (HBB.out.mono (by omega))⟩
end Go.Proofs.Ytpdlbepkkfoadaa
