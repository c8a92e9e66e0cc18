/-
  The document's Read: the frame that stands first, or what is wrong with it.
-/
import Derived.Test.YtpighnknldhigaaRAppend
import Derived.Test.YtpighnknldhigaaFMath2
import Derived.BigQuiet
namespace Go.Proofs.Ytpighnknldhigaa
open Go.RowKit

/-- What Read answers. -/
def ReadsR (w : World) (bs : List (BitVec 8)) (e : Ending) (w' : World) : Prop :=
  ((Fr.fault bs ≠ 0 ∧ e = .returned (.tuple #[.agg #[.int .u8 0, .slice none 0 0], .int .i64 0, .int .i64 (Fr.fault bs : Nat)])) ∨
    (Fr.fault bs = 0 ∧ ∃ g cp, e = .returned (.tuple #[.agg #[.int .u8 (bs.getD 0 0).toNat, .slice (some ⟨g, 0, none⟩) (Fr.lenOf bs) cp], .int .i64 (Fr.lenOf bs + 12 : Nat), .int .i64 0]) ∧ w.heap.size ≤ g ∧ Fr.lenOf bs ≤ cp ∧ RowB w' g cp (Fr.bodyOf bs))) ∧ Below w.heap.size w w'

set_option maxRecDepth 100000 in
set_option maxHeartbeats 1000000 in
theorem rread_short (a : Option Addr) (n c : Nat) (bs : List (BitVec 8)) (w : World) (hl : n = bs.length) (h : n < 8) :
    Calls Try.prog 13 #[.slice a n c] w (ReadsR w bs) := by
  have hf : Fr.fault bs = 12 := by unfold Fr.fault; rw [if_pos (by omega)]
  have HF := hide hf
  have hlt : (n : Int) < 8 := by omega
  have hb0 : Below w.heap.size w (w.alloc (.cells #[.int .u8 0, .slice none 0 0] 27)) := (Below.refl _ _).alloc (Nat.le_refl _) _
  have HC := hide (heap_alloc_new w (.cells #[.int .u8 0, .slice none 0 0] 27))
  have B0 := hide hb0
  clear hf hl hb0
  go_enter Try.func13, Try.ntmps13
  go_wp2_with (refine wpList_store_row rfl 27 _ _ rfl _ _ rfl rfl _ _ HC.out ?_ ?_ ?_ ?_; (exact info27); (simp only [List.size_toArray, List.length_cons, List.length_nil]); (simp [Value.oneCell']))
  refine bodyPost_ret (v := .tuple #[.agg #[.int .u8 0, .slice none 0 0], .int .i64 0, .int .i64 12]) ?_ rfl ?_
  · exact results_cell_tmp2 Try.results13 _ _ _ _ _ _ _ _ _ rfl rfl rfl (setRow_heap _ _ _ _ _ _ HC.out) Try.underlying27 rfl info27
  · exact ⟨.inl ⟨by rw [HF.out]; decide, by rw [HF.out]; rfl⟩, below_setRow B0.out (Nat.le_refl _) _⟩

set_option maxRecDepth 100000 in
set_option maxHeartbeats 4000000 in
theorem rread_long (b off n c : Nat) (bs : List (BitVec 8)) (w : World) (hv : Bytes w (.slice (some ⟨b, off, none⟩) n c) bs) (hnc : n ≤ c) (h8 : 8 ≤ n) (hx : n ≤ 1000000000) :
    Calls Try.prog 13 #[.slice (some ⟨b, off, none⟩) n c] w (ReadsR w bs) := by
  have hn := hv.len
  obtain ⟨b0, b1, b2, b3, b4, b5, b6, b7, t, hbs⟩ := eight (bs := bs) (by omega)
  have hk0 : bs.getD 0 0 = b0 := by rw [hbs]; rfl
  have hL : Fr.lenOf bs = b1.toNat + 256 * b2.toNat + 65536 * b3.toNat := by rw [hbs]; rfl
  have HV : Hid (Bytes w (.slice (some ⟨b, off, none⟩) n c) (b0 :: b1 :: b2 :: b3 :: b4 :: b5 :: b6 :: b7 :: t)) := by rw [hbs] at hv; exact hv
  have HV' := hide hv
  have hhead := Fr.head_iff bs (by omega)
  have HHD := hide hhead
  have HK := hide hk0
  have HN := hide hn
  have HBS := hide hbs
  clear hv hbs hn hhead hk0
  have hge : ¬ (n : Int) < 8 := by omega
  have r1 := b1.isLt
  have r2 := b2.isLt
  have r3 := b3.isLt
  generalize hLL : Fr.lenOf bs = L at *
  have HLL := hide hLL
  clear hLL
  have hLi : ((b1.toNat : Int) + 256 * (b2.toNat : Int) + 65536 * (b3.toNat : Int)) = ((L : Nat) : Int) := by omega
  have HLI := hide hLi
  have HL := hide hL
  have hLb : L ≤ 16777215 := by omega
  clear hLi hL
  have hb0 : Below w.heap.size w (w.alloc (.cells #[.int .u8 0, .slice none 0 0] 27)) := (Below.refl _ _).alloc (Nat.le_refl _) _
  have HC := hide (heap_alloc_new w (.cells #[.int .u8 0, .slice none 0 0] 27))
  have B0 := hide hb0
  obtain ⟨k0, k1, k2, k3, k4, k5, k6, k7⟩ := head8 (HV.out.below hb0)
  clear k4 k5 k6 k7 hb0
  go_enter Try.func13, Try.ntmps13
  go_wp2_with fail
  generalize w.alloc (.cells #[.int .u8 0, .slice none 0 0] 27) = w0 at *
  go_quiet (fail)
  go_wp2_with fail
  rw [HLI.out]
  have B1 := hide (below_drewN B0.out nq)
  have HC1 : Hid ((w0.drewN nq).heap[w.heap.size]? = some (.cells #[.int .u8 0, .slice none 0 0] 27 (0, 0))) := HC.out
  have k0' : (w0.drewN nq).cell? ⟨b, off, none⟩ = some (.int .u8 b0.toNat) := k0
  clear k0 k1 k2 k3 HC B0
  generalize w0.drewN nq = w1 at *
  have hp8 : ∀ w', Below w.heap.size w w' → Bytes w' (.slice (some ⟨b, off, none⟩) 8 c) (bs.take 8) := fun w' hw => by
    have := (HV'.out.below hw).part 0 8 c (by have := HN.out; omega)
    rwa [List.drop_zero, Nat.add_zero] at this
  have HP8 := hide hp8
  clear hp8
  have h8c : (8 : Int) ≤ (c : Int) := by omega
  have h8c' : 8 ≤ c := by omega
  have h0n : 0 < n := by omega
  go_region_held (fun w' => w'.cell? ⟨b, off, none⟩ = some (.int .u8 b0.toNat)) (first | (with_reducible exact f2) | (with_reducible exact f1) | (simp only [World.cell?_drew]; with_reducible exact k0')) (first
    | (go_at_call 28; refine (rhead_any b0 L (by omega) _).mono ?_; rintro e w2 ⟨gh, ch, rfl, hgh, hch, hrh, bh⟩; have B2 := hide (then_below B1.out.drew bh (Nat.le_refl _)); have f1 := (bh.cell (p := ⟨b, off, none⟩) (block_lt_of_cell (w := w1.drew) k0')).trans k0'; have HRH := hide (RowB.bytes (c' := ch) hrh rfl); have HC2 := hide (heap_keep (w := w1.drew) bh HC1.out); clear bh hrh hgh)
    | (go_at_call 32; refine (same_any _ _ 8 _ _ (Fr.headB b0 L) (bs.take 8) _ HRH.out (HP8.out _ B2.out) (by omega)).mono ?_; rintro e w3 ⟨rfl, m3, rfl⟩; have B3 := hide (below_drewN B2.out m3); have f2 : (w2.drewN m3).cell? ⟨b, off, none⟩ = some (.int .u8 b0.toNat) := f1; have HC3 : Hid ((w2.drewN m3).heap[w.heap.size]? = some (.cells #[.int .u8 0, .slice none 0 0] 27 (0, 0))) := HC2.out))
  clear f1 HC2
  have k3' := f2
  clear f2 k0'
  generalize w2.drewN m3 = w3 at *
  have hfs : Fr.fault bs = if ¬ Fr.headB b0 L = bs.take 8 then 4 else if 1048576 < L then 3 else if n < L + 12 then 12 else if (bs.drop (8 + L)).take 4 ≠ Fr.msum (Fr.bodyOf bs) then 4 else 0 := by
    have h1 := HHD.out
    rw [HK.out] at h1
    unfold Fr.fault
    rw [if_neg (by have := HN.out; omega), HLL.out, ← HN.out]
    simp only [ne_eq, ← h1]
  have HFS := hide hfs
  clear hfs
  by_cases hh : Fr.headB b0 L = bs.take 8
  · rw [decide_eq_true hh]
    have HH := hide hh
    clear hh
    by_cases hmx : 1048576 < L
    · have HF : Hid (Fr.fault bs = 3) := by unfold Hid; rw [HFS.out, if_neg (not_not_intro HH.out), if_pos hmx]
      have hmx' : (1048576 : Int) < (L : Int) := by omega
      go_wp2_with (refine wpList_store_row rfl 27 _ _ rfl _ _ rfl rfl _ _ HC3.out ?_ ?_ ?_ ?_; (exact info27); (simp only [List.size_toArray, List.length_cons, List.length_nil]); (simp [Value.oneCell']))
      refine bodyPost_ret (v := .tuple #[.agg #[.int .u8 0, .slice none 0 0], .int .i64 0, .int .i64 3]) ?_ rfl ?_
      · exact results_cell_tmp2 Try.results13 _ _ _ _ _ _ _ _ _ rfl rfl rfl (setRow_heap _ _ _ _ _ _ HC3.out) Try.underlying27 rfl info27
      · exact ⟨.inl ⟨by rw [HF.out]; decide, by rw [HF.out]; rfl⟩, below_setRow B3.out (Nat.le_refl _) _⟩
    · have hmx' : ¬ (1048576 : Int) < (L : Int) := by omega
      go_wp2_with fail
      refine (rsize_any (L : Int) _ (by omega) (by omega)).mono ?_
      rintro e w4 ⟨rfl, rfl⟩
      rw [show max (L : Int) 0 + 12 = ((L + 12 : Nat) : Int) by omega]
      by_cases hsh : n < L + 12
      · have HF : Hid (Fr.fault bs = 12) := by unfold Hid; rw [HFS.out, if_neg (not_not_intro HH.out), if_neg hmx, if_pos hsh]
        have hsh' : (n : Int) < (L : Int) + 12 := by omega
        go_wp2_with (refine wpList_store_row rfl 27 _ _ rfl _ _ rfl rfl _ _ HC3.out ?_ ?_ ?_ ?_; (exact info27); (simp only [List.size_toArray, List.length_cons, List.length_nil]); (simp [Value.oneCell']))
        refine bodyPost_ret (v := .tuple #[.agg #[.int .u8 0, .slice none 0 0], .int .i64 0, .int .i64 12]) ?_ rfl ?_
        · exact results_cell_tmp2 Try.results13 _ _ _ _ _ _ _ _ _ rfl rfl rfl (setRow_heap _ _ _ _ _ _ HC3.out) Try.underlying27 rfl info27
        · exact ⟨.inl ⟨by rw [HF.out]; decide, by rw [HF.out]; rfl⟩, below_setRow B3.out (Nat.le_refl _) _⟩
      · have hsh' : ¬ (n : Int) < (L : Int) + 12 := by omega
        have hbl : L = (Fr.bodyOf bs).length := by
          unfold Fr.bodyOf
          rw [List.length_take, List.length_drop, HLL.out, ← HN.out]
          omega
        have HBL := hide hbl
        have hb4 : Below w4.heap.size w4 (w4.alloc (.cells #[] 5)) := (Below.refl _ _).alloc (Nat.le_refl _) _
        have hpart := (HV'.out.below (B3.out.trans (hb4.mono B3.out.size))).part 8 L (c - 8) (by have := HN.out; omega)
        obtain ⟨g, cp, w5, hr, hg, hrow, hb5, hcp, _⟩ := append_bytes (w4.alloc (.cells #[] 5)) w4.heap.size (some ⟨w4.heap.size, 0, none⟩) 0 0 [] rfl (.slice (some ⟨b, off + 8, none⟩) L (c - 8)) (Fr.bodyOf bs) L hbl (by unfold Fr.bodyOf; rw [HLL.out]; exact hpart) (by simp)
          (.inr ⟨_, rfl, Nat.le_refl _, Nat.le_refl _, #[], heap_alloc_new w4 _, Nat.le_refl _, fun k hk => by simp [cellsOf] at hk⟩) (by omega)
        rw [Nat.zero_add] at hr hcp
        rw [List.nil_append] at hrow
        have hr' : ∀ ty, (Builtin.append_ #[22, 22] ty #[.slice (some ⟨w4.heap.size, 0, none⟩) 0 0, .slice (some ⟨b, off + 8, none⟩) (8 + L - 8) (c - 8)]).run Try.prog (w4.alloc (.cells #[] 5)) = .ok (.slice (some ⟨g, 0, none⟩) L cp) w5 := by
          rw [Nat.add_sub_cancel_left]
          exact hr
        have HR := hide hr'
        have ROW := hide hrow
        have hb45 := hb4.trans hb5
        have B5 := hide (then_below B3.out hb45 (Nat.le_refl _))
        have HC5 := hide (heap_keep hb45 HC3.out)
        have hgn : g ≠ w.heap.size := by have := lt_of_heap HC3.out; omega
        have hgw : w.heap.size ≤ g := Nat.le_trans B3.out.size hg
        have k5 := (hb45.cell (p := ⟨b, off, none⟩) (block_lt_of_cell k3')).trans k3'
        clear hr hr' hrow hb4 hb5 hb45 hpart hbl k3' HC3
        have i1 : (8 : Int) ≤ 8 + (L : Int) := by omega
        have i2 : 8 + (L : Int) ≤ (c : Int) := by omega
        have i3 : ¬ c = 8 := by omega
        go_wp2_with (at_builtin; refine wpList_append_run rfl _ _ 22 rfl _ _ rfl rfl _ _ (HR.out _) ?_; clear HR)
        refine (rsum_any _ (Fr.bodyOf bs) _ (RowB.bytes ROW.out HBL.out) (by rw [← HBL.out]; unfold maxLen; omega)).mono ?_
        rintro e w6 ⟨rfl, rfl⟩
        go_wp2_with fail
        refine (rmask_any _ _).mono ?_
        rintro e w7 ⟨rfl, rfl⟩
        go_wp2_with fail
        refine (four_any w7.heap.size none 0 0 [] rfl _ _ (Nat.le_refl _) (.inl ⟨rfl, rfl, rfl⟩) (by decide)).mono ?_
        rintro e w8 ⟨g8, c8, rfl, hg8, hc8, row8, b8⟩
        rw [List.nil_append] at row8
        have R8 := hide row8
        have ROW8 := hide (RowC.below ROW.out b8)
        have B8 := hide (then_below B5.out b8 (Nat.le_refl _))
        have HC8 := hide (heap_keep b8 HC5.out)
        have k8 := (b8.cell (p := ⟨b, off, none⟩) (block_lt_of_cell k5)).trans k5
        clear row8 b8 k5
        go_wp2_with fail
        refine (rsize_any (L : Int) _ (by omega) (by omega)).mono ?_
        rintro e w9 ⟨rfl, rfl⟩
        rw [show max (L : Int) 0 + 12 = (L : Int) + 12 by omega]
        have i4 : 8 + (L : Int) ≤ (L : Int) + 12 := by omega
        have i5 : (L : Int) + 12 ≤ (c : Int) := by omega
        go_wp2_with fail
        rw [show L + 12 - (8 + L) = 4 by omega]
        refine (same_any _ _ 4 _ _ (Fr.msum (Fr.bodyOf bs)) ((bs.drop (8 + L)).take 4) _ (RowB.bytes R8.out rfl) ((HV'.out.below B8.out).part (8 + L) 4 _ (by have := HN.out; omega)) (by decide)).mono ?_
        rintro e w10 ⟨rfl, m10, rfl⟩
        have B10 := hide (below_drewN B8.out m10)
        have HC10 : Hid ((w9.drewN m10).heap[w.heap.size]? = some (.cells #[.int .u8 0, .slice none 0 0] 27 (0, 0))) := HC8.out
        have k10 : (w9.drewN m10).cell? ⟨b, off, none⟩ = some (.int .u8 b0.toNat) := k8
        have ROW10 : Hid (RowB (w9.drewN m10) g cp (Fr.bodyOf bs)) := ROW8.out
        clear k8 HC8
        generalize w9.drewN m10 = w10 at *
        by_cases hsm : Fr.msum (Fr.bodyOf bs) = (bs.drop (8 + L)).take 4
        · rw [decide_eq_true hsm]
          have HF : Hid (Fr.fault bs = 0) := by unfold Hid; rw [HFS.out, if_neg (not_not_intro HH.out), if_neg hmx, if_neg hsh, if_neg (not_not_intro hsm.symm)]
          have HSM := hide hsm
          clear hsm
          have z0 : w10.cell? ⟨w.heap.size, 0, none⟩ = some (.int .u8 0) := cell_of_row w10 _ 0 _ 27 (0, 0) HC10.out
          have z1 : w10.cell? ⟨w.heap.size, 1, none⟩ = some (.slice none 0 0) := cell_of_row w10 _ 1 _ 27 (0, 0) HC10.out
          have y0 : w10.frozen? ⟨w.heap.size, 0, none⟩ = false := frozen_of_row w10 _ 0 _ 27 HC10.out
          have y1 : w10.frozen? ⟨w.heap.size, 1, none⟩ = false := frozen_of_row w10 _ 1 _ 27 HC10.out
          have hbne : b ≠ w.heap.size := by
            have := HV.out.at 0 (by simp)
            have := block_lt_of_cell this
            simp at this
            omega
          have kS : ((w10.setCell ⟨w.heap.size, 0, none⟩ (.int .u8 b0.toNat)).setCell ⟨w.heap.size, 1, none⟩ (.slice (some ⟨g, 0, none⟩) L cp)).cell? ⟨b, off, none⟩ = some (.int .u8 b0.toNat) := by
            rw [World.cell?_setCell_other _ _ _ _ (fun e => hbne (by cases e; rfl)), World.cell?_setCell_other _ _ _ _ (fun e => hbne (by cases e; rfl))]
            exact k10
          have HCS := hide (heap_setCell_same _ w.heap.size 1 _ 27 (.slice (some ⟨g, 0, none⟩) L cp) (heap_setCell_same w10 w.heap.size 0 _ 27 (.int .u8 b0.toNat) HC10.out))
          have BS := hide ((B10.out.setCell (p := ⟨w.heap.size, 0, none⟩) (Nat.le_refl _) (.int .u8 b0.toNat)).setCell (p := ⟨w.heap.size, 1, none⟩) (Nat.le_refl _) (.slice (some ⟨g, 0, none⟩) L cp))
          have RS : Hid (RowB ((w10.setCell ⟨w.heap.size, 0, none⟩ (.int .u8 b0.toNat)).setCell ⟨w.heap.size, 1, none⟩ (.slice (some ⟨g, 0, none⟩) L cp)) g cp (Fr.bodyOf bs)) := by
            obtain ⟨cs, h1, h2, h3⟩ := ROW10.out
            exact ⟨cs, (heap_setCell_other _ _ _ _ (by exact hgn)).trans ((heap_setCell_other _ _ _ _ (by exact hgn)).trans h1), h2, h3⟩
          go_wp2_with fail
          go_region_held (fun w' => w'.cell? ⟨b, off, none⟩ = some (.int .u8 b0.toNat)) (first | (simp only [World.cell?_drew]; with_reducible exact k10) | (simp only [World.cell?_drew]; with_reducible exact kS)) (first
            | (go_at_call 18; refine (rsize_any (L : Int) _ (by omega) (by omega)).mono ?_; rintro e w11 ⟨rfl, rfl⟩; rw [show max (L : Int) 0 + 12 = ((L + 12 : Nat) : Int) by omega]))
          go_wp2_with fail
          refine bodyPost_ret (v := .tuple #[.agg #[.int .u8 b0.toNat, .slice (some ⟨g, 0, none⟩) L cp], .int .i64 (L + 12 : Nat), .int .i64 0]) ?_ rfl ?_
          · exact results_cell_tmp2 Try.results13 _ _ _ _ _ _ _ _ _ rfl rfl rfl HCS.out Try.underlying27 rfl info27
          · refine ⟨.inr ⟨HF.out, g, cp, ?_, hgw, ?_, RS.out⟩, BS.out.drew⟩
            · rw [HLL.out, HK.out]
            · rw [HLL.out]; exact hcp
        · rw [decide_eq_false hsm]
          have HF : Hid (Fr.fault bs = 4) := by unfold Hid; rw [HFS.out, if_neg (not_not_intro HH.out), if_neg hmx, if_neg hsh, if_pos (fun e => hsm e.symm)]
          go_wp2_with (refine wpList_store_row rfl 27 _ _ rfl _ _ rfl rfl _ _ HC10.out ?_ ?_ ?_ ?_; (exact info27); (simp only [List.size_toArray, List.length_cons, List.length_nil]); (simp [Value.oneCell']))
          refine bodyPost_ret (v := .tuple #[.agg #[.int .u8 0, .slice none 0 0], .int .i64 0, .int .i64 4]) ?_ rfl ?_
          · exact results_cell_tmp2 Try.results13 _ _ _ _ _ _ _ _ _ rfl rfl rfl (setRow_heap _ _ _ _ _ _ HC10.out) Try.underlying27 rfl info27
          · exact ⟨.inl ⟨by rw [HF.out]; decide, by rw [HF.out]; rfl⟩, below_setRow B10.out (Nat.le_refl _) _⟩
  · rw [decide_eq_false hh]
    have HF : Hid (Fr.fault bs = 4) := by unfold Hid; rw [HFS.out, if_pos hh]
    go_wp2_with (refine wpList_store_row rfl 27 _ _ rfl _ _ rfl rfl _ _ HC3.out ?_ ?_ ?_ ?_; (exact info27); (simp only [List.size_toArray, List.length_cons, List.length_nil]); (simp [Value.oneCell']))
    refine bodyPost_ret (v := .tuple #[.agg #[.int .u8 0, .slice none 0 0], .int .i64 0, .int .i64 4]) ?_ rfl ?_
    · exact results_cell_tmp2 Try.results13 _ _ _ _ _ _ _ _ _ rfl rfl rfl (setRow_heap _ _ _ _ _ _ HC3.out) Try.underlying27 rfl info27
    · exact ⟨.inl ⟨by rw [HF.out]; decide, by rw [HF.out]; rfl⟩, below_setRow B3.out (Nat.le_refl _) _⟩
theorem rread_any (a : Option Addr) (n c : Nat) (bs : List (BitVec 8)) (w : World) (hv : Bytes w (.slice a n c) bs) (hnc : n ≤ c) (hx : n ≤ 1000000000) :
    Calls Try.prog 13 #[.slice a n c] w (ReadsR w bs) := by
  by_cases h : n < 8
  · exact rread_short a n c bs w hv.len h
  · obtain ⟨b, off, rfl⟩ := hv.addr (by omega)
    exact rread_long b off n c bs w hv hnc (by omega) hx
end Go.Proofs.Ytpighnknldhigaa
