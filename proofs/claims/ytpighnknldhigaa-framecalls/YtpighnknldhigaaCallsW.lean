/-
  Frames are put together, and rows of bytes read, as the document says: all calls side by side.
-/
import Derived.Test.YtpighnknldhigaaRRow
import Derived.Test.YtpighnknldhigaaFrames
import Derived.Test.YtpighnknldhigaaOpenF
namespace Go.Proofs.Ytpighnknldhigaa
open Go.RowKit

set_option maxRecDepth 100000 in
set_option maxHeartbeats 1000000 in
/-- What is too long is not gone through. -/
theorem calls_long (k : BitVec 8) (a : Option Addr) (n c : Nat) (ab : Option Addr) (nb cb : Nat) (ar : Option Addr) (nr cr : Nat) (z : Int) (w : World) (h : 4000 < n ∨ 4000 < nb ∨ 4000 < nr) :
    Calls Try.prog 4 #[.agg #[.int .u8 k.toNat, .slice a n c], .slice ab nb cb, .slice ar nr cr, .int .i64 z] w fun e w' => e = .returned (.bool true) ∧ Below w.heap.size w w' := by
  have b0 : Below w.heap.size w (w.alloc (.cells #[.int .u8 k.toNat, .slice a n c] 27)) := (Below.refl _ _).alloc (Nat.le_refl _) _
  have hnew := heap_alloc_new w (.cells #[.int .u8 k.toNat, .slice a n c] 27)
  go_enter Try.func4, Try.ntmps4
  go_wp2_with fail
  refine (lives_any _).mono ?_
  rintro e w1 ⟨rfl, b1⟩
  have B1 := hide (then_below b0 b1 (Nat.le_refl _))
  have c1 : w1.cell? ⟨w.heap.size, 1, none⟩ = some (.slice a n c) := cell_of_row w1 _ 1 _ 27 (0, 0) (heap_keep b1 hnew)
  clear b0 b1 hnew
  by_cases h1 : 4000 < n
  · have g1 : (4000 : Int) < (n : Int) := by omega
    go_wp2_with fail
    go_ret
    exact ⟨rfl, B1.out⟩
  · have g1 : ¬ (4000 : Int) < (n : Int) := by omega
    by_cases h2 : 4000 < nb
    · have g2 : (4000 : Int) < (nb : Int) := by omega
      go_wp2_with fail
      go_ret
      exact ⟨rfl, B1.out⟩
    · have g2 : ¬ (4000 : Int) < (nb : Int) := by omega
      have g3 : (4000 : Int) < (nr : Int) := by omega
      go_wp2_with fail
      go_ret
      exact ⟨rfl, B1.out⟩

def kindR (bs : List (BitVec 8)) : BitVec 8 := if Fr.fault bs = 0 then bs.getD 0 0 else 0#8
def bodyR (bs : List (BitVec 8)) : List (BitVec 8) := if Fr.fault bs = 0 then Fr.bodyOf bs else []
def sizeR (bs : List (BitVec 8)) : Nat := if Fr.fault bs = 0 then Fr.lenOf bs + 12 else 0
/-- What Read answers, in one form. -/
def Flat (w : World) (bs : List (BitVec 8)) (e : Ending) (w' : World) : Prop :=
  ∃ (aB : Option Addr) (L cB : Nat), e = .returned (.tuple #[.agg #[.int .u8 (kindR bs).toNat, .slice aB L cB], .int .i64 (sizeR bs : Nat), .int .i64 (Fr.fault bs : Nat)]) ∧ L = (bodyR bs).length ∧ Bytes w' (.slice aB L cB) (bodyR bs) ∧ Below w.heap.size w w'
theorem ReadsR.flat {w w' : World} {bs : List (BitVec 8)} {e : Ending} (h : ReadsR w bs e w') : Flat w bs e w' := by
  obtain ⟨⟨hf, rfl⟩ | ⟨hf, g, cp, rfl, hg, hcp, hr⟩, b⟩ := h
  · refine ⟨none, 0, 0, ?_, ?_, ?_, b⟩
    · simp only [kindR, sizeR, if_neg hf]
      rfl
    · simp only [bodyR, if_neg hf]
      rfl
    · simp only [bodyR, if_neg hf]
      exact Bytes.none w'
  · have hl := Fr.fault_len hf
    have hbl : Fr.lenOf bs = (Fr.bodyOf bs).length := by
      unfold Fr.bodyOf
      rw [List.length_take, List.length_drop]
      omega
    refine ⟨some ⟨g, 0, none⟩, Fr.lenOf bs, cp, ?_, ?_, ?_, b⟩
    · simp only [kindR, sizeR, if_pos hf]
      rw [hf]
      rfl
    · simp only [bodyR, if_pos hf]
      exact hbl
    · simp only [bodyR, if_pos hf]
      exact RowB.bytes hr hbl
theorem read_flat (a : Option Addr) (n c : Nat) (bs : List (BitVec 8)) (w : World) (hv : Bytes w (.slice a n c) bs) (hnc : n ≤ c) (hx : bs.length ≤ maxLen) :
    Calls Try.prog 10 #[.slice a n c] w (Flat w bs) := by
  by_cases hf : Fr.fault bs = 0
  · have h8 : 0 < n := by
      have := (Fr.fault_len hf).1
      have := hv.len
      omega
    obtain ⟨b, off, rfl⟩ := hv.addr h8
    exact (read_whole b off n c bs w hv hnc hx hf).mono fun e w' ⟨g, cp, h1, h2, h3, h4, h5⟩ => ReadsR.flat ⟨.inr ⟨hf, g, cp, h1, h2, h3, h4⟩, h5⟩
  · exact (read_torn a n c bs w hv hnc hx hf).mono fun e w' ⟨h1, h2⟩ => ReadsR.flat ⟨.inl ⟨hf, h1⟩, h2⟩
theorem rread_flat (a : Option Addr) (n c : Nat) (bs : List (BitVec 8)) (w : World) (hv : Bytes w (.slice a n c) bs) (hnc : n ≤ c) (hx : n ≤ 1000000000) :
    Calls Try.prog 13 #[.slice a n c] w (Flat w bs) :=
  (rread_any a n c bs w hv hnc hx).mono fun _ _ h => h.flat
theorem bodyR_le (bs : List (BitVec 8)) : (bodyR bs).length ≤ bs.length := by
  unfold bodyR Fr.bodyOf
  split
  · rw [List.length_take, List.length_drop]
    omega
  · exact Nat.zero_le _
theorem row_few (bs : List (BitVec 8)) : (Fr.row bs).1.length ≤ bs.length ∧ ∀ f ∈ (Fr.row bs).1, f.2.length ≤ bs.length := by
  generalize hn : bs.length = n
  induction n using Nat.strongRecOn generalizing bs with
  | ind n ih =>
    by_cases h0 : bs.length = 0
    · obtain rfl : bs = [] := by simpa using h0
      rw [Fr.row_nil]
      exact ⟨Nat.zero_le _, fun f hf => by simp at hf⟩
    · by_cases hf : Fr.fault bs = 0
      · rw [Fr.row_step h0 hf]
        have hl := (Fr.fault_len hf).1
        have hd : (bs.drop (Fr.lenOf bs + 12)).length = n - (Fr.lenOf bs + 12) := by rw [List.length_drop, hn]
        obtain ⟨i1, i2⟩ := ih _ (by omega) (bs.drop (Fr.lenOf bs + 12)) hd
        refine ⟨?_, fun f hm => ?_⟩
        · simp only [List.length_cons]
          omega
        · rcases List.mem_cons.1 hm with rfl | hm
          · show (Fr.bodyOf bs).length ≤ n
            unfold Fr.bodyOf
            rw [List.length_take, List.length_drop]
            omega
          · exact Nat.le_trans (i2 f hm) (by omega)
      · rw [Fr.row_torn h0 hf]
        exact ⟨Nat.zero_le _, fun f hf => by simp at hf⟩

set_option maxRecDepth 100000 in
set_option maxHeartbeats 8000000 in
theorem calls_any (k : BitVec 8) (a : Option Addr) (n c : Nat) (body : List (BitVec 8)) (ab : Option Addr) (nb cb : Nat) (bb : List (BitVec 8)) (ar : Option Addr) (nr cr : Nat) (br : List (BitVec 8)) (z : Int) (w : World)
    (hbody : Bytes w (.slice a n c) body) (hbb : Bytes w (.slice ab nb cb) bb) (hbr : Bytes w (.slice ar nr cr) br) (hrc : nr ≤ cr) (_hz1 : -9223372036854775808 ≤ z) (_hz2 : z ≤ 9223372036854775807) (h1 : n ≤ 4000) (h2 : nb ≤ 4000) (h3 : nr ≤ 4000) :
    Calls Try.prog 4 #[.agg #[.int .u8 k.toNat, .slice a n c], .slice ab nb cb, .slice ar nr cr, .int .i64 z] w fun e w' => e = .returned (.bool true) ∧ Below w.heap.size w w' := by
  have g1 : ¬ (4000 : Int) < (n : Int) := by omega
  have g2 : ¬ (4000 : Int) < (nb : Int) := by omega
  have g3 : ¬ (4000 : Int) < (nr : Int) := by omega
  have b0 : Below w.heap.size w (w.alloc (.cells #[.int .u8 k.toNat, .slice a n c] 27)) := (Below.refl _ _).alloc (Nat.le_refl _) _
  have hnew := heap_alloc_new w (.cells #[.int .u8 k.toNat, .slice a n c] 27)
  have HL1 := hide hbody.len
  have HL2 := hide hbb.len
  have HL3 := hide hbr.len
  have HBODY := hide hbody
  have HBB := hide hbb
  have HBR := hide hbr
  clear hbody hbb hbr
  go_enter Try.func4, Try.ntmps4
  go_wp2_with fail
  refine (lives_any _).mono ?_
  rintro e w1 ⟨rfl, b1⟩
  have B1 := hide (then_below b0 b1 (Nat.le_refl _))
  have HN := hide (heap_keep b1 hnew)
  have c0 : w1.cell? ⟨w.heap.size, 0, none⟩ = some (.int .u8 k.toNat) := cell_of_row w1 _ 0 _ 27 (0, 0) HN.out
  have c1 : w1.cell? ⟨w.heap.size, 1, none⟩ = some (.slice a n c) := cell_of_row w1 _ 1 _ 27 (0, 0) HN.out
  clear b0 b1 hnew
  go_wp2_with fail
  go_cut [9, 10] from 41 to 52 (fun v9 v10 wx => ∃ g cp m : Nat, v9 = .slice (some ⟨g, 0, none⟩) m cp ∧ v10 = .int .i64 0 ∧ m = (bb ++ Fr.frameB k body).length ∧ RowB wx g cp (bb ++ Fr.frameB k body) ∧ Below w.heap.size w wx ∧ wx.heap[w.heap.size]? = some (.cells #[.int .u8 k.toNat, .slice a n c] 27 (0, 0)))
  case first =>
    rename_i qq kk rest jj kk' m1 m2
    clear rest
    have BC : Hid (Below w1.heap.size w1 w1.drew) := (Below.refl _ _).drew
    go_region_held (fun w' => w'.cell? ⟨w.heap.size, 0, none⟩ = some (.int .u8 k.toNat) ∧ w'.cell? ⟨w.heap.size, 1, none⟩ = some (.slice a n c)) (first | (with_reducible exact ⟨f0, f1⟩) | (simp only [World.cell?_drew]; with_reducible exact ⟨c0, c1⟩)) (first
      | (go_at_call_of 8 (Value.slice ab nb cb); refine (own_any _ bb _ ((HBB.out.below B1.out).below BC.out) (by have := HL2.out; omega)).mono ?_; rintro e wA ⟨gA, cA, rfl, hgA, hcA, rA, bA⟩; have BC := hide (then_below BC.out bA (Nat.le_refl _)); rw [← HL2.out]; (try have RB := hide (RowC.below RB.out bA)); have RA := hide rA; have f0 := (BC.out.cell (p := ⟨w.heap.size, 0, none⟩) (block_lt_of_cell c0)).trans c0; have f1 := (BC.out.cell (p := ⟨w.heap.size, 1, none⟩) (block_lt_of_cell c1)).trans c1; clear rA bA hgA)
      | (go_at_call_of 8 (Value.slice a n c); refine (own_any _ body _ ((HBODY.out.below B1.out).below BC.out) (by have := HL1.out; omega)).mono ?_; rintro e wB ⟨gB, cB, rfl, hgB, hcB, rB, bB⟩; have BC := hide (then_below BC.out bB (Nat.le_refl _)); rw [← HL1.out]; (try have RA := hide (RowC.below RA.out bB)); have RB := hide rB; have f0 := (BC.out.cell (p := ⟨w.heap.size, 0, none⟩) (block_lt_of_cell c0)).trans c0; have f1 := (BC.out.cell (p := ⟨w.heap.size, 1, none⟩) (block_lt_of_cell c1)).trans c1; clear rB bB hgB)
      | (go_at_call 7; refine (append_any _ bb k _ _ _ body _ (RowB.bytes RA.out HL2.out) (RowB.bytes RB.out HL1.out) (by omega) (by have := HL2.out; omega)).mono ?_; rintro e wC ⟨gC, cC, mC, rfl, hmC, hgC, hcC, rC, bC⟩; have BC := hide (then_below BC.out bC (Nat.le_refl _)); have RC := hide rC; have HMC := hide hmC; have f0 := (BC.out.cell (p := ⟨w.heap.size, 0, none⟩) (block_lt_of_cell c0)).trans c0; have f1 := (BC.out.cell (p := ⟨w.heap.size, 1, none⟩) (block_lt_of_cell c1)).trans c1; clear rC bC hmC hgC))
    all_goals go_wp2_with fail
    all_goals go_meet
    all_goals exact ⟨gC, cC, mC, rfl, rfl, HMC.out, RC.out, then_below B1.out BC.out (Nat.le_refl _), heap_keep BC.out HN.out⟩
  case rest =>
    obtain ⟨gp, cp, mp, rfl, rfl, hmp, rp, bx, hx⟩ := hcut
    clear c0 c1 HN
    have HMP := hide hmp
    have RP := hide rp
    have BX := hide bx
    have HX := hide hx
    have c0 : wc.cell? ⟨w.heap.size, 0, none⟩ = some (.int .u8 k.toNat) := cell_of_row wc _ 0 _ 27 (0, 0) hx
    have c1 : wc.cell? ⟨w.heap.size, 1, none⟩ = some (.slice a n c) := cell_of_row wc _ 1 _ 27 (0, 0) hx
    clear hmp rp bx hx B1
    go_wp2_with fail
    have BC : Hid (Below wc.heap.size wc wc.drew) := (Below.refl _ _).drew
    go_region_held (fun w' => w'.cell? ⟨w.heap.size, 0, none⟩ = some (.int .u8 k.toNat) ∧ w'.cell? ⟨w.heap.size, 1, none⟩ = some (.slice a n c)) (first | (with_reducible exact ⟨f0, f1⟩) | (simp only [World.cell?_drew]; with_reducible exact ⟨c0, c1⟩)) (first
      | (go_at_call_of 8 (Value.slice ab nb cb); refine (own_any _ bb _ ((HBB.out.below BX.out).below BC.out) (by have := HL2.out; omega)).mono ?_; rintro e wA ⟨gA, cA, rfl, hgA, hcA, rA, bA⟩; have hgA' : wc.heap.size ≤ gA := hgA; have BC := hide (then_below BC.out bA (Nat.le_refl _)); rw [← HL2.out] at hcA ⊢; have RA := hide rA; have f0 := (BC.out.cell (p := ⟨w.heap.size, 0, none⟩) (block_lt_of_cell c0)).trans c0; have f1 := (BC.out.cell (p := ⟨w.heap.size, 1, none⟩) (block_lt_of_cell c1)).trans c1; clear rA bA hgA)
      | (go_at_call 12; refine (rappend_any wc.heap.size gA cA bb nb HL2.out k a n c body _ BC.out.size hgA' hcA RA.out (fun w' hw' => (HBODY.out.below BX.out).below (BC.out.trans hw')) (by omega) (by omega)).mono ?_; rintro e wC ⟨gC, cC, rfl, hgC, hcC, rC, bC⟩; have BC := hide (BC.out.trans bC); have RC := hide rC; have f0 := (BC.out.cell (p := ⟨w.heap.size, 0, none⟩) (block_lt_of_cell c0)).trans c0; have f1 := (BC.out.cell (p := ⟨w.heap.size, 1, none⟩) (block_lt_of_cell c1)).trans c1; clear rC bC hgC))
    have RP2 := hide (RowC.below RP.out BC.out)
    have BW := hide (then_below BX.out BC.out (Nat.le_refl _))
    clear f0 f1 c0 c1 RA RP HX
    go_wp2_with fail
    refine (own_any _ br _ (HBR.out.below BW.out) (by have := HL3.out; omega)).mono ?_
    rintro e w2 ⟨g2', c2', rfl, hg2, hc2, r2, b2⟩
    rw [← HL3.out] at hc2 ⊢
    have RP3 := hide (RowC.below RP2.out b2)
    have RQ3 := hide (RowC.below RC.out b2)
    have BW2 := hide (then_below BW.out b2 (Nat.le_refl _))
    have R2 := hide (RowB.bytes (c' := c2') r2 HL3.out)
    clear b2 r2 hg2 RP2 RC BW BC
    go_wp2_with fail
    refine (read_flat _ _ _ br _ R2.out hc2 (by have := HL3.out; unfold maxLen; omega)).mono ?_
    rintro e w3 ⟨ax, Lx, cx, rfl, hLx, bxs, b3⟩
    have RP4 := hide (RowC.below RP3.out b3)
    have RQ4 := hide (RowC.below RQ3.out b3)
    have BW3 := hide (then_below BW2.out b3 (Nat.le_refl _))
    have BXS := hide bxs
    have HLX := hide hLx
    clear b3 bxs hLx RP3 RQ3 BW2 R2
    go_wp2_with fail
    have b4 : Below w3.heap.size w3 (w3.alloc (.cells #[.int .u8 (kindR br).toNat, .slice ax Lx cx] 27)) := (Below.refl _ _).alloc (Nat.le_refl _) _
    have hX := heap_alloc_new w3 (.cells #[.int .u8 (kindR br).toNat, .slice ax Lx cx] 27)
    have BW4 := hide (then_below BW3.out b4 (Nat.le_refl _))
    have BX4 := hide (BXS.out.below b4)
    have RP5 := hide (RowC.below RP4.out b4)
    have RQ5 := hide (RowC.below RQ4.out b4)
    have HX4 := hide hX
    clear b4 hX BXS RP4 RQ4 BW3
    generalize hgx : w3.heap.size = gx at *
    generalize w3.alloc (.cells #[.int .u8 (kindR br).toNat, .slice ax Lx cx] 27) = w4 at *
    clear hgx
    refine (rread_flat _ _ _ br _ (HBR.out.below BW4.out) hrc (by omega)).mono ?_
    rintro e w5 ⟨ay, Ly, cy, rfl, hLy, bys, b5⟩
    obtain rfl : Ly = Lx := by rw [hLy, HLX.out]
    have BW5 := hide (then_below BW4.out b5 (Nat.le_refl _))
    have BX5 := hide (BX4.out.below b5)
    have BY5 := hide bys
    have RP6 := hide (RowC.below RP5.out b5)
    have RQ6 := hide (RowC.below RQ5.out b5)
    have HX5 := hide (heap_keep b5 HX4.out)
    clear b5 bys hLy BX4 RP5 RQ5 BW4 HX4
    go_wp2_with fail
    have b6 : Below w5.heap.size w5 (w5.alloc (.cells #[.int .u8 (kindR br).toNat, .slice ay Ly cy] 27)) := (Below.refl _ _).alloc (Nat.le_refl _) _
    have hY := heap_alloc_new w5 (.cells #[.int .u8 (kindR br).toNat, .slice ay Ly cy] 27)
    have BW6 := hide (then_below BW5.out b6 (Nat.le_refl _))
    have BX6 := hide (BX5.out.below b6)
    have BY6 := hide (BY5.out.below b6)
    have RP7 := hide (RowC.below RP6.out b6)
    have RQ7 := hide (RowC.below RQ6.out b6)
    have HX6 := hide (heap_keep b6 HX5.out)
    have HY6 := hide hY
    clear b6 hY BX5 BY5 RP6 RQ6 BW5 HX5
    generalize hgy : w5.heap.size = gy at *
    generalize w5.alloc (.cells #[.int .u8 (kindR br).toNat, .slice ay Ly cy] 27) = w6 at *
    clear hgy
    refine (own_any _ br _ (HBR.out.below BW6.out) (by have := HL3.out; omega)).mono ?_
    rintro e w7 ⟨g7, c7, rfl, hg7, hc7, r7, b7⟩
    rw [← HL3.out] at hc7 ⊢
    have BW7 := hide (then_below BW6.out b7 (Nat.le_refl _))
    have BX7 := hide (BX6.out.below b7)
    have BY7 := hide (BY6.out.below b7)
    have RP8 := hide (RowC.below RP7.out b7)
    have RQ8 := hide (RowC.below RQ7.out b7)
    have HX7 := hide (heap_keep b7 HX6.out)
    have HY7 := hide (heap_keep b7 HY6.out)
    have R7 := hide (RowB.bytes (c' := c7) r7 HL3.out)
    clear b7 r7 hg7 BX6 BY6 RP7 RQ7 BW6 HX6 HY6
    go_wp2_with fail
    refine (row_any _ _ _ br _ R7.out hc7 (by have := HL3.out; omega)).mono ?_
    rintro e w8 ⟨lv, rfl, l8, b8⟩
    have BW8 := hide (then_below BW7.out b8 (Nat.le_refl _))
    have BX8 := hide (BX7.out.below b8)
    have BY8 := hide (BY7.out.below b8)
    have RP9 := hide (RowC.below RP8.out b8)
    have RQ9 := hide (RowC.below RQ8.out b8)
    have HX8 := hide (heap_keep b8 HX7.out)
    have HY8 := hide (heap_keep b8 HY7.out)
    have FL8 := hide l8.frs
    clear b8 l8 BX7 BY7 RP8 RQ8 BW7 HX7 HY7 R7
    go_wp2_with fail
    refine (rrow_any _ _ _ br _ (HBR.out.below BW8.out) hrc (by have := HL3.out; omega)).mono ?_
    rintro e w9 ⟨lr, rfl, l9, b9⟩
    have BW9 := hide (then_below BW8.out b9 (Nat.le_refl _))
    have BX9 := hide (BX8.out.below b9)
    have BY9 := hide (BY8.out.below b9)
    have RP10 := hide (RowC.below RP9.out b9)
    have RQ10 := hide (RowC.below RQ9.out b9)
    have HX9 := hide (heap_keep b9 HX8.out)
    have HY9 := hide (heap_keep b9 HY8.out)
    have FL9 := hide (FL8.out.below b9)
    have FR9 := hide l9.frs
    clear b9 l9 BX8 BY8 RP9 RQ9 BW8 HX8 HY8 FL8
    obtain ⟨al, cl, el, _⟩ := FL9.out
    obtain ⟨am, cm, em, _⟩ := FR9.out
    subst el em
    obtain ⟨hfew, hfits⟩ := row_few br
    have hbodyR := bodyR_le br
    generalize (Fr.row br).2.1 = q1 at *
    generalize (Fr.row br).2.2 = q2 at *
    generalize (Fr.row br).1 = fs at *
    generalize hfl : fs.length = nf at *
    generalize (kindR br).toNat = kd at *
    generalize sizeR br = sz at *
    generalize Fr.fault br = F at *
    generalize bodyR br = bd at *
    have x0 : w9.cell? ⟨gx, 0, none⟩ = some (.int .u8 (kd : Nat)) := cell_of_row w9 _ 0 _ 27 (0, 0) HX9.out
    have x1 : w9.cell? ⟨gx, 1, none⟩ = some (.slice ax Ly cx) := cell_of_row w9 _ 1 _ 27 (0, 0) HX9.out
    have y0 : w9.cell? ⟨gy, 0, none⟩ = some (.int .u8 (kd : Nat)) := cell_of_row w9 _ 0 _ 27 (0, 0) HY9.out
    have y1 : w9.cell? ⟨gy, 1, none⟩ = some (.slice ay Ly cy) := cell_of_row w9 _ 1 _ 27 (0, 0) HY9.out
    go_wp2_with fail
    have hmp : nb + 8 + n + 4 = mp := by
      have e1 := HMP.out
      have e2 := HL1.out
      have e3 := HL2.out
      rw [List.length_append, Fr.frameB_length] at e1
      omega
    rw [hmp]
    refine (bytes_same _ _ mp _ _ (bb ++ Fr.frameB k body) _ (RowB.bytes RP10.out HMP.out) (RowB.bytes RQ10.out HMP.out) (by omega)).mono ?_
    rintro e w10 ⟨rfl, m10, rfl⟩
    have BW10 := hide (below_drewN BW9.out m10)
    have x0' : (w9.drewN m10).cell? ⟨gx, 0, none⟩ = some (.int .u8 (kd : Nat)) := x0
    have x1' : (w9.drewN m10).cell? ⟨gx, 1, none⟩ = some (.slice ax Ly cx) := x1
    have y0' : (w9.drewN m10).cell? ⟨gy, 0, none⟩ = some (.int .u8 (kd : Nat)) := y0
    have y1' : (w9.drewN m10).cell? ⟨gy, 1, none⟩ = some (.slice ay Ly cy) := y1
    have BX10 : Hid (Bytes (w9.drewN m10) (.slice ax Ly cx) bd) := BX9.out
    have BY10 : Hid (Bytes (w9.drewN m10) (.slice ay Ly cy) bd) := BY9.out
    have FL10 : Hid (Frs (w9.drewN m10) (.slice al nf cl) fs) := FL9.out
    have FR10 : Hid (Frs (w9.drewN m10) (.slice am nf cm) fs) := FR9.out
    clear x0 x1 y0 y1 BX9 BY9 FL9 FR9 HX9 HY9 RP10 RQ10 BW9
    generalize w9.drewN m10 = w10 at *
    have t0 : ((0 : Int) == 0) = true := rfl
    have t1 : ((kd : Int) == (kd : Int)) = true := by simp
    have t2 : ((sz : Int) == (sz : Int)) = true := by simp
    have t3 : ((F : Int) == (F : Int)) = true := by simp
    have t4 : ((q1 : Int) == (q1 : Int)) = true := by simp
    have t5 : ((q2 : Int) == (q2 : Int)) = true := by simp
    go_wp2_with fail
    refine (bytes_same ax ay Ly cx cy bd _ BX10.out BY10.out (by have := BX10.out.len; have := HL3.out; omega)).mono ?_
    rintro e w11 ⟨rfl, m11, rfl⟩
    have BW11 := hide (below_drewN BW10.out m11)
    have FL11 : Hid (Frs (w10.drewN m11) (.slice al nf cl) fs) := FL10.out
    have FR11 : Hid (Frs (w10.drewN m11) (.slice am nf cm) fs) := FR10.out
    clear x0' x1' y0' y1' BX10 BY10 FL10 FR10 BW10
    generalize w10.drewN m11 = w11 at *
    go_wp2_with fail
    refine (frames_same al am nf cl cm fs _ FL11.out FR11.out (by have := HL3.out; omega) (fun f hf => Nat.le_trans (hfits f hf) (by have := HL3.out; omega))).mono ?_
    rintro e w12 ⟨rfl, m12, rfl⟩
    have BW12 := hide (below_drewN BW11.out m12)
    clear FL11 FR11 BW11
    generalize w11.drewN m12 = w12 at *
    obtain ⟨y, hy⟩ : ∃ y : Int, z.tmod 1099511627776 = y := ⟨_, rfl⟩
    have hlo := Int.lt_tmod_of_pos z (show (0 : Int) < 1099511627776 by decide)
    have hhi := Int.tmod_lt_of_pos z (show (0 : Int) < 1099511627776 by decide)
    rw [hy] at hlo hhi
    go_wp2_with fail
    refine (size_any y _ (by omega) (by omega)).mono ?_
    rintro e w13 ⟨rfl, rfl⟩
    go_wp2_with fail
    refine (rsize_any y _ (by omega) (by omega)).mono ?_
    rintro e w14 ⟨rfl, rfl⟩
    generalize max y 0 + 12 = s at *
    have t6 : ((s : Int) == (s : Int)) = true := by simp
    go_wp2_with fail
    go_ret
    exact ⟨rfl, BW12.out⟩
end Go.Proofs.Ytpighnknldhigaa
