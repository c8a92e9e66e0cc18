/-
  The document's answer for Join: the one sum, moved on by eight bits 0 for each byte that the other has, put to the other.
-/
import Derived.Test.YtmhahapmjpbocaaDoorJoin
import Derived.Deep.RegionHeld
namespace Go.Proofs.YtmhahapmjpbocaaDoor
open Go.RowKit

set_option maxHeartbeats 400000 in
theorem rjoin_bad (a b : BitVec 32) (n : Int) (w : World) (h : n < 0 ∨ 1099511627776 < n) :
    Calls Tryd.prog 9 #[.int .u32 a.toNat, .int .u32 b.toNat, .int .i64 n] w fun e w' => e = .returned (.tuple #[.int .u32 0, .int .i64 2]) ∧ w' = w := by
  rcases h with h | h
  · go_enter Tryd.func9, Tryd.ntmps9
    go_wp2
    go_ret2
    exact ⟨rfl, rfl⟩
  · have h0 : ¬ n < 0 := by omega
    go_enter Tryd.func9, Tryd.ntmps9
    go_wp2
    go_ret2
    exact ⟨rfl, rfl⟩

theorem rows_range {w : World} {g t : Nat} {L : BitVec 32 → BitVec 32} (h : w.heap[g]? = some (.cells (rowsOf L) t (0, 0))) : w.rangeAt g 0 (rowsOf L).toList := fun j v hv => by
  rw [cell_of_row w g _ _ t (0, 0) h]
  simpa using hv

theorem held_call {w w' : World} {g j : Nat} {cl : List Value} {v : Value} (h : w.rangeAt g 0 cl ∧ w.cell? ⟨g, j, none⟩ = some v) (hb : Below w.heap.size w w') : w'.rangeAt g 0 cl ∧ w'.cell? ⟨g, j, none⟩ = some v := by
  obtain ⟨h1, h2⟩ := h
  have hg : g < w.heap.size := block_lt_of_cell h2
  refine ⟨fun k u hu => ?_, ?_⟩
  · rw [hb.cell (p := ⟨g, 0 + k, none⟩) hg, h1 k u hu]
  · rw [hb.cell (p := ⟨g, j, none⟩) hg, h2]
theorem held_store {w : World} {g j n i : Nat} {cl : List Value} {v u : Value} (h : w.rangeAt g 0 cl ∧ w.cell? ⟨g, j, none⟩ = some v) (hn : n ≠ g) : (w.setCell ⟨n, i, none⟩ u).rangeAt g 0 cl ∧ (w.setCell ⟨n, i, none⟩ u).cell? ⟨g, j, none⟩ = some v := by
  obtain ⟨h1, h2⟩ := h
  refine ⟨fun k x hx => ?_, ?_⟩
  · rw [World.cell?_setCell_far _ _ _ _ (by simpa using hn), h1 k x hx]
  · rw [World.cell?_setCell_far _ _ _ _ (by simpa using hn), h2]

set_option maxRecDepth 100000 in
set_option maxHeartbeats 1000000 in
theorem rjoin_any (a b : BitVec 32) (n : Nat) (w : World) (hn : n ≤ 1099511627776) :
    Calls Tryd.prog 9 #[.int .u32 a.toNat, .int .u32 b.toNat, .int .i64 n] w fun e w' => e = .returned (.tuple #[.int .u32 (Crc32.join a b n).toNat, .int .i64 0]) ∧ Below w.heap.size w w' := by
  have h1 : ¬ (n : Int) < 0 := by omega
  have h2 : ¬ (1099511627776 : Int) < (n : Int) := by omega
  go_enter Tryd.func9, Tryd.ntmps9
  go_wp2_with (refine wpList_alloc_zero rfl 37 rfl zeros32 zero37 ?_)
  go_loopw [9] (fun i wr => ∃ k : Nat, k ≤ 32 ∧ i = .int .i64 k ∧ Below w.heap.size w wr ∧ wr.heap[w.heap.size]? = some (.cells (fill Crc32.step k) 37 (0, 0))) (fun i _ => 32 - (intOf i).toNat)
  case atStart =>
    exact ⟨0, by omega, rfl, (Below.refl _ _).alloc (Nat.le_refl _) _, by rw [fill_zero]; exact heap_alloc_new _ _⟩
  case round =>
    obtain ⟨k, hk, rfl, hb, g1⟩ := hrel
    have HB := hide hb
    have G1 := hide g1
    clear hb g1
    by_cases hlt : k < 32
    · obtain ⟨v, c1⟩ := row_there G1.out (fill_size _ _) k hlt
      have c2 := frozen_of_row wr w.heap.size k _ 37 G1.out
      go_wp2_with fail
      rw [shl1_w k hlt]
      refine (rstep_any _ _).mono ?_
      rintro e w' ⟨rfl, hw⟩
      subst hw
      go_wp2
      go_roundw
      case rel =>
        refine ⟨k + 1, by omega, by go_num, ?_, ?_⟩
        · exact HB.out.setCell (by simp) _
        · exact fill_store G1.out
      case measure => simp [intOf]; omega
    · obtain rfl : k = 32 := by omega
      rw [fill_full] at G1
      go_wp2
      simp only [Int.cast_ofNat_Int]
      go_loopw [0, 10] (fun av nv wr => ∃ (m k : Nat) (y : BitVec 32), m ≤ 8796093022208 ∧ nv = .int .u64 m ∧ av = .int .u32 y.toNat ∧ Crc32.it Crc32.step (m * 2 ^ k) y = Crc32.it Crc32.step (n * 8) a ∧ Below w.heap.size w wr ∧ wr.heap[w.heap.size]? = some (.cells (rowsOf (Crc32.it Crc32.step (2 ^ k))) 37 (0, 0))) (fun _ nv _ => (intOf nv).toNat)
      case atStart => exact ⟨n * 8, 0, a, by omega, by go_num, rfl, by simp, HB.out, G1.out⟩
      case round =>
      clear HB G1
      obtain ⟨m, k, y, hm, rfl, rfl, hy, hb, g⟩ := hrel
      have HY := hide hy
      have HB := hide hb
      have G := hide g
      clear hy hb g
      have HLin := hide (Crc32.step_lin.it (2 ^ k))
      have HSq := hide (pow_sq Crc32.step k)
      by_cases h0 : m = 0
      · subst h0
        have HX := xor_w y b
        have HJ : Hid (y ^^^ b = Crc32.join a b n) := by
          unfold Hid Crc32.join
          rw [Crc32.s8_it, Nat.mul_comm 8 n, ← HY.out]
          simp [Crc32.it]
        generalize y ^^^ b = j at *
        go_wp2
        go_ret2
        refine ⟨?_, HB.out⟩
        rw [← HJ.out]
        rfl
      by_cases ho : m % 2 = 1
      · have hpos : 0 < (m : Int) := by omega
        have ht : ((m : Int) % (2 : Int) == 1) = true := by rw [beq_iff_eq]; omega
        have HO := hide (it_odd Crc32.step m k y ho)
        generalize hL : Crc32.it Crc32.step (2 ^ k) = L at *
        clear hL ho h0
        go_wp2_with (refine wpList_load_row rfl 37 _ rfl _ rfl _ _ _ _ G.out Tryd.underlying37 rfl (rows_info37 _) ?_)
        refine (mul_any L HLin.out y _).mono ?_
        rintro e w3 ⟨rfl, b3⟩
        have B3 := hide (HB.out.trans (b3.mono HB.out.size))
        have G3 := hide (heap_keep b3 G.out)
        clear b3
        generalize L y = y2 at *

        have hsz := B3.out.size
        have hlt3 : w.heap.size < w3.heap.size := by
          rcases Nat.lt_or_ge w.heap.size w3.heap.size with l | l
          · exact l
          · have := G3.out; rw [Array.getElem?_eq_none l] at this; cases this
        go_wp2_with (refine wpList_alloc_zero rfl 37 rfl zeros32 zero37 ?_)
        go_loopw [12] (fun i wr => ∃ j : Nat, j ≤ 32 ∧ i = .int .i64 j ∧ Below w.heap.size w wr ∧ wr.heap[w.heap.size]? = some (.cells (rowsOf L) 37 (0, 0)) ∧ wr.heap[w3.heap.size]? = some (.cells (fill (fun x => L (L x)) j) 37 (0, 0))) (fun i _ => 32 - (intOf i).toNat)
        case atStart =>
          exact ⟨0, by omega, rfl, B3.out.alloc hsz _, by rw [Below.heap_alloc _ _ _ hlt3]; exact G3.out, by rw [fill_zero]; exact heap_alloc_new _ _⟩
        case round =>
          obtain ⟨j, hj, rfl, hb4, g4, g5⟩ := hrel
          have B4 := hide hb4
          have G4 := hide g4
          have G5 := hide g5
          clear hb4 g4 g5
          by_cases hj32 : j < 32
          · go_wp2_with fail
            have hr := rows_range G4.out
            have hc := rows_cell G4.out j hj32
            have hu := Tryd.underlying37
            have hi : (Tryd.prog.info? 37).map (·.size) = some (rowsOf L).toList.length := by simpa using rows_info37 L
            have hl32 : (rowsOf L).toList.length = 32 := by simpa using rowsOf_size L
            have h1c : ∀ v ∈ (rowsOf L).toList, v.oneCell' = true := by simpa using Array.all_eq_true_iff_forall_mem.1 (rowsOf_one L)
            have HCL : Hid ((rowsOf L).toList.toArray = rowsOf L) := by unfold Hid; simp
            generalize (rowsOf L).toList = cl at *
            generalize hrj : L (1#32 <<< j) = rj at *
            have HRJ := hide hrj
            clear hrj
            have hj' : (j : Int) < 32 := by omega
            have hj0 : (0 : Int) ≤ (j : Int) := by omega
            go_region_held (fun w' => w'.rangeAt w.heap.size 0 cl ∧ w'.cell? ⟨w.heap.size, j, none⟩ = some (.int .u32 (rj.toNat : Int))) (first | exact ⟨hr, hc⟩ | exact held_call (w := wr.drew) ⟨hr, hc⟩ b5 | exact held_store (held_call (w := wr.drew) ⟨hr, hc⟩ b5) (by omega)) (first | (go_at_call 24; rw [HCL.out]; refine (mul_any L HLin.out rj _).mono ?_; rintro e w5 ⟨rfl, b5⟩; obtain ⟨v5, c5⟩ := row_there (heap_keep (w := wr.drew) b5 G5.out) (fill_size _ _) j hj32; have f5 := frozen_of_row w5 _ j _ 37 (heap_keep (w := wr.drew) b5 G5.out)))
            go_wp2
            go_roundw
            case rel =>
              refine ⟨j + 1, by omega, by go_num, ?_, ?_, ?_⟩
              · exact (B4.out.drew.trans (b5.mono B4.out.drew.size)).setCell hsz _
              · rw [heap_setCell_other _ _ _ _ (by simp; omega)]; exact heap_keep (w := wr.drew) b5 G4.out
              · rw [← HRJ.out]; exact fill_store (L := fun x => L (L x)) (heap_keep (w := wr.drew) b5 G5.out)
            case measure => simp [intOf]; omega
          · obtain rfl : j = 32 := by omega
            rw [fill_full] at G5
            go_wp2_with (first | (refine wpList_load_row rfl 37 _ rfl _ rfl _ _ _ _ G5.out Tryd.underlying37 rfl (rows_info37 _) ?_) | (refine wpList_store_row rfl 37 _ _ rfl _ _ rfl rfl _ _ G4.out (rows_info37 _) (by rw [rowsOf_size, rowsOf_size]) (rowsOf_one _) ?_))
            go_roundw
            case rel =>
              refine ⟨m / 2, k + 1, y2, by omega, by go_num, rfl, by rw [HO.out]; exact HY.out, below_setRow B4.out (Nat.le_refl _) _, ?_⟩
              rw [← HSq.out]
              exact setRow_heap _ _ _ _ _ _ G4.out
            case measure => simp [intOf]; omega
      · have hpos : 0 < (m : Int) := by omega
        have ht : ((m : Int) % (2 : Int) == 1) = false := by rw [beq_eq_false_iff_ne]; omega
        have HO := hide (it_even Crc32.step m k y (by omega))
        generalize hL : Crc32.it Crc32.step (2 ^ k) = L at *
        clear hL ho h0
        obtain ⟨y2, hy2⟩ : ∃ y2, y2 = y := ⟨y, rfl⟩
        obtain ⟨w3, hw3⟩ : ∃ w3, w3 = wr := ⟨wr, rfl⟩
        subst hy2 hw3
        have B3 := HB
        have G3 := G

        have hsz := B3.out.size
        have hlt3 : w.heap.size < w3.heap.size := by
          rcases Nat.lt_or_ge w.heap.size w3.heap.size with l | l
          · exact l
          · have := G3.out; rw [Array.getElem?_eq_none l] at this; cases this
        go_wp2_with (refine wpList_alloc_zero rfl 37 rfl zeros32 zero37 ?_)
        go_loopw [12] (fun i wr => ∃ j : Nat, j ≤ 32 ∧ i = .int .i64 j ∧ Below w.heap.size w wr ∧ wr.heap[w.heap.size]? = some (.cells (rowsOf L) 37 (0, 0)) ∧ wr.heap[w3.heap.size]? = some (.cells (fill (fun x => L (L x)) j) 37 (0, 0))) (fun i _ => 32 - (intOf i).toNat)
        case atStart =>
          exact ⟨0, by omega, rfl, B3.out.alloc hsz _, by rw [Below.heap_alloc _ _ _ hlt3]; exact G3.out, by rw [fill_zero]; exact heap_alloc_new _ _⟩
        case round =>
          obtain ⟨j, hj, rfl, hb4, g4, g5⟩ := hrel
          have B4 := hide hb4
          have G4 := hide g4
          have G5 := hide g5
          clear hb4 g4 g5
          by_cases hj32 : j < 32
          · go_wp2_with fail
            have hr := rows_range G4.out
            have hc := rows_cell G4.out j hj32
            have hu := Tryd.underlying37
            have hi : (Tryd.prog.info? 37).map (·.size) = some (rowsOf L).toList.length := by simpa using rows_info37 L
            have hl32 : (rowsOf L).toList.length = 32 := by simpa using rowsOf_size L
            have h1c : ∀ v ∈ (rowsOf L).toList, v.oneCell' = true := by simpa using Array.all_eq_true_iff_forall_mem.1 (rowsOf_one L)
            have HCL : Hid ((rowsOf L).toList.toArray = rowsOf L) := by unfold Hid; simp
            generalize (rowsOf L).toList = cl at *
            generalize hrj : L (1#32 <<< j) = rj at *
            have HRJ := hide hrj
            clear hrj
            have hj' : (j : Int) < 32 := by omega
            have hj0 : (0 : Int) ≤ (j : Int) := by omega
            go_region_held (fun w' => w'.rangeAt w.heap.size 0 cl ∧ w'.cell? ⟨w.heap.size, j, none⟩ = some (.int .u32 (rj.toNat : Int))) (first | exact ⟨hr, hc⟩ | exact held_call (w := wr.drew) ⟨hr, hc⟩ b5 | exact held_store (held_call (w := wr.drew) ⟨hr, hc⟩ b5) (by omega)) (first | (go_at_call 24; rw [HCL.out]; refine (mul_any L HLin.out rj _).mono ?_; rintro e w5 ⟨rfl, b5⟩; obtain ⟨v5, c5⟩ := row_there (heap_keep (w := wr.drew) b5 G5.out) (fill_size _ _) j hj32; have f5 := frozen_of_row w5 _ j _ 37 (heap_keep (w := wr.drew) b5 G5.out)))
            go_wp2
            go_roundw
            case rel =>
              refine ⟨j + 1, by omega, by go_num, ?_, ?_, ?_⟩
              · exact (B4.out.drew.trans (b5.mono B4.out.drew.size)).setCell hsz _
              · rw [heap_setCell_other _ _ _ _ (by simp; omega)]; exact heap_keep (w := wr.drew) b5 G4.out
              · rw [← HRJ.out]; exact fill_store (L := fun x => L (L x)) (heap_keep (w := wr.drew) b5 G5.out)
            case measure => simp [intOf]; omega
          · obtain rfl : j = 32 := by omega
            rw [fill_full] at G5
            go_wp2_with (first | (refine wpList_load_row rfl 37 _ rfl _ rfl _ _ _ _ G5.out Tryd.underlying37 rfl (rows_info37 _) ?_) | (refine wpList_store_row rfl 37 _ _ rfl _ _ rfl rfl _ _ G4.out (rows_info37 _) (by rw [rowsOf_size, rowsOf_size]) (rowsOf_one _) ?_))
            go_roundw
            case rel =>
              refine ⟨m / 2, k + 1, y2, by omega, by go_num, rfl, by rw [HO.out]; exact HY.out, below_setRow B4.out (Nat.le_refl _) _, ?_⟩
              rw [← HSq.out]
              exact setRow_heap _ _ _ _ _ _ G4.out
            case measure => simp [intOf]; omega

end Go.Proofs.YtmhahapmjpbocaaDoor
