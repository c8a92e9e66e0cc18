/-
  Read: the frame that stands first, or what is wrong with it.
-/
import Derived.Test.YtpighnknldhigaaFault
namespace Go.Proofs.Ytpighnknldhigaa
open Go.RowKit

theorem lt_of_heap {w : World} {g : Nat} {o : Obj} (h : w.heap[g]? = some o) : g < w.heap.size := by
  rcases Nat.lt_or_ge g w.heap.size with l | l
  · exact l
  · rw [Array.getElem?_eq_none l] at h; cases h
theorem fault_any (a : Option Addr) (n c : Nat) (bs : List (BitVec 8)) (w : World) (hv : Bytes w (.slice a n c) bs) (hnc : n ≤ c) (hx : bs.length ≤ maxLen) :
    Calls Try.prog 24 #[.slice a n c] w fun e w' => e = .returned (.int .i64 (Fr.fault bs : Nat)) ∧ Below w.heap.size w w' := by
  have hn := hv.len
  by_cases h : n < 8
  · have hf : Fr.fault bs = 12 := by unfold Fr.fault; rw [if_pos (by omega)]
    refine (fault_short a n c w h).mono fun e w' ⟨he, hw⟩ => ⟨by rw [he, hf]; rfl, by rw [hw]; exact Below.refl _ _⟩
  · obtain ⟨b, off, rfl⟩ := hv.addr (by omega)
    exact fault_long b off n c bs w hv hnc (by omega) hx

theorem fault_lt (bs : List (BitVec 8)) : Fr.fault bs < 13 := by
  unfold Fr.fault
  repeat' split
  all_goals omega

set_option maxRecDepth 100000 in
set_option maxHeartbeats 1000000 in
theorem read_torn (a : Option Addr) (n c : Nat) (bs : List (BitVec 8)) (w : World) (hv : Bytes w (.slice a n c) bs) (hnc : n ≤ c) (hx : bs.length ≤ maxLen) (hf : Fr.fault bs ≠ 0) :
    Calls Try.prog 10 #[.slice a n c] w fun e w' => e = .returned (.tuple #[.agg #[.int .u8 0, .slice none 0 0], .int .i64 0, .int .i64 (Fr.fault bs : Nat)]) ∧ Below w.heap.size w w' := by
  have HV := hide hv
  have HX := hide hx
  have HF := hide hf
  clear hv hx hf
  go_enter Try.func10, Try.ntmps10
  go_wp2_with fail
  have hb0 : Below w.heap.size w (w.alloc (.cells #[.int .u8 0, .slice none 0 0] 27)) := (Below.refl _ _).alloc (Nat.le_refl _) _
  have hr0 := heap_alloc_new w (.cells #[.int .u8 0, .slice none 0 0] 27)
  refine (fault_any a n c bs _ (HV.out.below hb0) hnc HX.out).mono ?_
  rintro e w1 ⟨rfl, b1⟩
  have HC := hide (heap_keep b1 hr0)
  have B1 := hide (then_below hb0 b1 (Nat.le_refl _))
  have hlt := fault_lt bs
  have hne : ((Fr.fault bs : Nat) : Int) ≠ 0 := by have := HF.out; omega
  generalize hF : Fr.fault bs = F at *
  have HFF := hide hF
  clear hb0 hr0 b1 hF
  have hne' : (((F : Nat) : Int) != 0) = true := by simpa using hne
  go_wp2_with (refine wpList_store_row rfl 27 _ _ rfl _ _ rfl rfl _ _ HC.out ?_ ?_ ?_ ?_; (exact info27); (simp only [List.size_toArray, List.length_cons, List.length_nil]); (simp [Value.oneCell']))
  refine bodyPost_ret (v := .tuple #[.agg #[.int .u8 0, .slice none 0 0], .int .i64 0, .int .i64 (F : Nat)]) ?_ rfl ?_
  · exact results_cell_tmp2 Try.results10 _ _ _ _ _ _ _ _ _ rfl rfl rfl (setRow_heap _ _ _ _ _ _ HC.out) Try.underlying27 rfl info27
  · exact ⟨by rw [HFF.out], below_setRow B1.out (Nat.le_refl _) _⟩

theorem rowB_setRow {w : World} {g c g0 : Nat} {bs : List (BitVec 8)} (h : RowB w g c bs) (hne : g ≠ g0) (cs : Array Value) : RowB (w.setRow g0 cs) g c bs := by
  obtain ⟨xs, h1, h2, h3⟩ := h
  exact ⟨xs, (setRow_other w g0 g cs hne).trans h1, h2, h3⟩

set_option maxRecDepth 100000 in
set_option maxHeartbeats 1000000 in
theorem read_whole (b off n c : Nat) (bs : List (BitVec 8)) (w : World) (hv : Bytes w (.slice (some ⟨b, off, none⟩) n c) bs) (hnc : n ≤ c) (hx : bs.length ≤ maxLen) (hf : Fr.fault bs = 0) :
    Calls Try.prog 10 #[.slice (some ⟨b, off, none⟩) n c] w fun e w' => ∃ g cp, e = .returned (.tuple #[.agg #[.int .u8 (bs.getD 0 0).toNat, .slice (some ⟨g, 0, none⟩) (Fr.lenOf bs) cp], .int .i64 (Fr.lenOf bs + 12 : Nat), .int .i64 0]) ∧ w.heap.size ≤ g ∧ Fr.lenOf bs ≤ cp ∧ RowB w' g cp (Fr.bodyOf bs) ∧ Below w.heap.size w w' := by
  have hn := hv.len
  obtain ⟨hl1, hl2⟩ := Fr.fault_len hf
  obtain ⟨b0, b1, b2, b3, b4, b5, b6, b7, t, hbs⟩ := eight (bs := bs) (by omega)
  have hk0 : bs.getD 0 0 = b0 := by rw [hbs]; rfl
  have HV : Hid (Bytes w (.slice (some ⟨b, off, none⟩) n c) (b0 :: b1 :: b2 :: b3 :: b4 :: b5 :: b6 :: b7 :: t)) := by rw [hbs] at hv; exact hv
  have HV' := hide hv
  have HX := hide hx
  have HF := hide hf
  have HK := hide hk0
  have hpart := fun (cb : Nat) => hv.part 8 (Fr.lenOf bs) cb (by omega)
  have hat := at47 (some ⟨b, off, none⟩) n c (by omega)
  have hbl : Fr.lenOf bs = (Fr.bodyOf bs).length := by unfold Fr.bodyOf; rw [List.length_take, List.length_drop]; omega
  have h12 : Fr.lenOf bs + 12 ≤ n := by omega
  have HP := hide hpart
  have HBL := hide hbl
  have H12 := hide h12
  have HL1 := hide hl1
  have HL2 := hide hl2
  clear hv hx hf hpart hbl hbs hn h12 hk0 hl1 hl2
  go_enter Try.func10, Try.ntmps10
  go_wp2_with fail
  have hb0 : Below w.heap.size w (w.alloc (.cells #[.int .u8 0, .slice none 0 0] 27)) := (Below.refl _ _).alloc (Nat.le_refl _) _
  have hr0 := heap_alloc_new w (.cells #[.int .u8 0, .slice none 0 0] 27)
  refine (fault_any (some ⟨b, off, none⟩) n c bs _ (HV'.out.below hb0) hnc HX.out).mono ?_
  rintro e w1 ⟨rfl, b1'⟩
  rw [HF.out]
  have HC := hide (heap_keep b1' hr0)
  have B1 := hide (then_below hb0 b1' (Nat.le_refl _))
  clear hb0 hr0 b1'
  go_wp2_with fail
  refine (behind_any b off n c bs _ (HV'.out.below B1.out) hnc H12.out).mono ?_
  rintro e w2 ⟨cb, s0, s1, s2, s3, rfl, hs, b2'⟩
  have HC2 := hide (heap_keep b2' HC.out)
  have B2 := hide (then_below B1.out b2' (Nat.le_refl _))
  clear b2' hs
  have BA := hide (B2.out.alloc B2.out.size (.cells #[.int .u8 s0.toNat, .int .u8 s1.toNat, .int .u8 s2.toNat, .int .u8 s3.toNat] 50))
  obtain ⟨k0, k1, k2, k3, k4, k5, k6, k7⟩ := head8 (HV.out.below BA.out)
  have HC3 := hide ((heap_alloc_old w2 (.cells #[.int .u8 s0.toNat, .int .u8 s1.toNat, .int .u8 s2.toNat, .int .u8 s3.toNat] 50) (lt_of_heap HC2.out)).trans HC2.out)
  generalize hLL : Fr.lenOf bs = L at *
  have HLL := hide hLL
  clear hLL
  go_wp2_with fail
  refine (kind_any _ _ _ _ _ _ _ _ _).mono ?_
  rintro e w3 ⟨rfl, b3'⟩
  have HC4 := hide (heap_keep b3' HC3.out)
  have B3 := hide (then_below BA.out b3' (Nat.le_refl _))
  clear b3' BA k0 k1 k2 k3 k4 k5 k6 k7 hat
  go_wp2_with fail
  refine (clone_any ⟨b, off + 8, none⟩ L cb (Fr.bodyOf bs) HBL.out _ (by
    have := (HP.out cb).below B3.out
    unfold Fr.bodyOf
    rw [HLL.out]
    exact this) (by have := HBL.out; have := HL2.out; omega)).mono ?_
  rintro e w4 ⟨g, cp, rfl, hg, hcp, hrow, b4'⟩
  have HC5 := hide (heap_keep b4' HC4.out)
  have hgn : g ≠ w.heap.size := by have := lt_of_heap HC4.out; omega
  have HR := hide hrow
  have B4 := hide (then_below B3.out b4' (Nat.le_refl _))
  have hgw : w.heap.size ≤ g := Nat.le_trans B3.out.size hg
  clear b4' hrow hg
  go_wp2_with fail
  refine (size_any (L : Int) _ (by have := HL2.out; omega) (by omega)).mono ?_
  rintro e w5 ⟨rfl, hw⟩
  subst hw
  rw [show max (L : Int) 0 + 12 = ((L + 12 : Nat) : Int) by omega]
  generalize hM : L + 12 = M
  have HM := hide hM
  clear hM
  go_wp2_with (refine wpList_store_row rfl 27 _ _ rfl _ _ rfl rfl _ _ HC5.out ?_ ?_ ?_ ?_; (exact info27); (simp only [List.size_toArray, List.length_cons, List.length_nil]); (simp [Value.oneCell']))
  refine bodyPost_ret (v := .tuple #[.agg #[.int .u8 b0.toNat, .slice (some ⟨g, 0, none⟩) L cp], .int .i64 (M : Nat), .int .i64 0]) ?_ rfl ?_
  · exact results_cell_tmp2 Try.results10 _ _ _ _ _ _ _ _ _ rfl rfl rfl (setRow_heap _ _ _ _ _ _ HC5.out) Try.underlying27 rfl info27
  · refine ⟨g, cp, ?_, hgw, ?_, rowB_setRow HR.out hgn _, below_setRow B4.out (Nat.le_refl _) _⟩
    · rw [HLL.out, HK.out, HM.out]
    · rw [HLL.out]; exact hcp
end Go.Proofs.Ytpighnknldhigaa
