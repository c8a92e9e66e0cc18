/-
  CrcJoins of any bytes and place: the sums of two pieces, joined, are the sum of the whole.
-/
import Derived.Test.YtmhahapmjpbocaaDoorCalls
import Derived.Deep.RegionWith
namespace Go.Proofs.YtmhahapmjpbocaaDoor
open Go.RowKit

theorem Bytes.head {w : World} {a : Option Addr} {c k : Nat} {bs : List (BitVec 8)} (h : Bytes w (.slice a bs.length c) bs) (hk : k ≤ bs.length) : Bytes w (.slice a k c) (bs.take k) := by
  obtain ⟨a', c', hv, hc⟩ := h
  obtain ⟨rfl, _, rfl⟩ : a = a' ∧ bs.length = bs.length ∧ c = c' := by simpa using hv
  refine ⟨a, c, by simp; omega, fun j hj => ?_⟩
  have hj' : j < k := by simp at hj; omega
  obtain ⟨b, off, ha, hcell⟩ := hc j (by omega)
  refine ⟨b, off, ha, ?_⟩
  rw [hcell]
  simp [List.getD, hj']
theorem Bytes.tail {w : World} {a : Option Addr} {c k : Nat} {bs : List (BitVec 8)} (h : Bytes w (.slice a bs.length c) bs) (hk : k ≤ bs.length) (hnc : bs.length ≤ c) :
    Bytes w (.slice (if c = k then a else Option.map (fun x => x.add k) a) (bs.length - k) (c - k)) (bs.drop k) := by
  obtain ⟨a', c', hv, hc⟩ := h
  obtain ⟨rfl, _, rfl⟩ : a = a' ∧ bs.length = bs.length ∧ c = c' := by simpa using hv
  refine ⟨if c = k then a else Option.map (fun x => x.add k) a, c - k, by simp, fun j hj => ?_⟩
  have hj' : k + j < bs.length := by simp at hj; omega
  obtain ⟨b, off, rfl, hcell⟩ := hc (k + j) hj'
  rw [if_neg (by omega)]
  refine ⟨b, off + k, by simp [Go.WideShapes.add_plain], ?_⟩
  rw [Nat.add_assoc, hcell]
  simp [List.getD]

theorem own_n (v : Value) (bs : List (BitVec 8)) (n : Nat) (hn : bs.length = n) (hl : n ≤ 3000) (w : World) (h : Bytes w v bs) :
    Calls Tryd.prog 11 #[v] w fun e w' => ∃ g c, e = .returned (.slice (some ⟨g, 0, none⟩) n c) ∧ RowOf w' g bs ∧ Below w.heap.size w w' := by
  subst hn
  exact (own_any v bs w h hl).mono fun e w' ⟨g, c, he, _, hr, hb⟩ => ⟨g, c, he, hr, hb⟩
theorem sum_n (g c : Nat) (bs : List (BitVec 8)) (n : Nat) (hn : bs.length = n) (hl : n ≤ 3000) (w : World) (h : RowOf w g bs) :
    Calls Tryd.prog 10 #[.slice (some ⟨g, 0, none⟩) n c] w fun e w' => e = .returned (.int .u32 (Crc32.sum bs).toNat) ∧ Below w.heap.size w w' := by
  subst hn
  exact sum_any _ bs w h.bytes (by unfold maxLen; omega)
theorem update_n (s : BitVec 32) (g c : Nat) (bs : List (BitVec 8)) (n : Nat) (hn : bs.length = n) (hl : n ≤ 3000) (w : World) (h : RowOf w g bs) :
    Calls Tryd.prog 13 #[.int .u32 s.toNat, .slice (some ⟨g, 0, none⟩) n c] w fun e w' => e = .returned (.int .u32 (Crc32.update s bs).toNat) ∧ Below w.heap.size w w' := by
  subst hn
  exact update_any s _ bs w h.bytes (by unfold maxLen; omega)

set_option maxRecDepth 100000 in
set_option maxHeartbeats 1000000 in
theorem joinsLaw_any (v : Value) (bs : List (BitVec 8)) (at_ : Int) (w : World) (hw : Tab w) (h : Bytes w v bs) (hl : bs.length ≤ maxLen) (lo : -9223372036854775808 ≤ at_) (hi : at_ ≤ 9223372036854775807)
    (hcap : ∀ a n c, v = .slice a n c → n ≤ c) :
    Calls Tryd.prog 5 #[v, .int .i64 at_] w fun e w' => e = .returned (.bool true) ∧ Below w.heap.size w w' := by
  have HW := hide hw
  have HV := hide h
  clear hw h
  have HL := hide hl
  obtain ⟨a, c, hv, _⟩ := HV.out
  have hnc := hcap _ _ _ hv
  clear hcap
  subst hv
  by_cases hgt : (3000 : Int) < (bs.length : Int)
  · go_enter Tryd.func5, Tryd.ntmps5
    go_wp2_with fail
    refine (lives_any _ HW.out).mono ?_
    rintro e w1 ⟨rfl, b1⟩
    go_wp2_with fail
    go_ret
    exact ⟨rfl, b1⟩
  go_enter Tryd.func5, Tryd.ntmps5
  go_wp2_with fail
  refine (lives_any _ HW.out).mono ?_
  rintro e w1 ⟨rfl, b1⟩
  have B1 := hide b1
  clear b1
  go_wp2_with fail
  have hpr := pick_range at_ ((bs.length : Int) + 1) (by omega)
  refine (pick_any at_ ((bs.length : Int) + 1) _ (by omega) (by omega) lo hi).mono ?_
  rintro e w3 ⟨rfl, hw⟩
  subst hw
  generalize pick at_ ((bs.length : Int) + 1) = pk at *
  obtain ⟨kk, rfl⟩ := Int.eq_ofNat_of_zero_le hpr.1
  obtain ⟨_, hkk⟩ := hpr
  have HV1 : Hid (∀ W, Below w.heap.size w W → Bytes W (.slice a kk c) (bs.take kk)) := fun W hb => (HV.out.below hb).head (by omega)
  have HV2 : Hid (∀ W, Below w.heap.size w W → Bytes W (.slice (if c = kk then a else Option.map (fun x => x.add kk) a) (bs.length - kk) (c - kk)) (bs.drop kk)) := fun W hb => (HV.out.below hb).tail (by omega) hnc
  have H1 : Hid ((bs.take kk).length = kk) := by unfold Hid; simp; omega
  have H2 : Hid ((bs.drop kk).length = bs.length - kk) := by unfold Hid; simp
  have HJ : Hid (Crc32.join (Crc32.sum (bs.take kk)) (Crc32.sum (bs.drop kk)) (bs.length - kk) = Crc32.sum bs) := by
    unfold Hid
    have := Crc32.join_sum (bs.take kk) (bs.drop kk)
    rwa [List.take_append_drop, List.length_drop] at this
  have HU : Hid (Crc32.update (Crc32.sum (bs.take kk)) (bs.drop kk) = Crc32.sum bs) := by
    unfold Hid Crc32.sum
    rw [← Crc32.update_append, List.take_append_drop]
  generalize hn : bs.length = n at *
  have HN := hide hn
  clear hn
  generalize ha2 : (if c = kk then a else Option.map (fun x => x.add kk) a) = a2 at *
  generalize hb1 : bs.take kk = bs1 at *
  generalize hb2 : bs.drop kk = bs2 at *
  have HB1 := hide hb1
  have HB2 := hide hb2
  clear hb1 hb2
  go_wp2_with fail
  have hkn : kk ≤ n := by omega
  have hkc : (kk : Int) ≤ (c : Int) := by omega
  have hk3 : kk ≤ 3000 := by omega
  have hn3 : n - kk ≤ 3000 := by omega
  go_region_with (first
    | (go_at_call_of 11 (Value.slice a kk c); refine (own_n _ bs1 kk H1.out hk3 _ (HV1.out _ B1.out.drew)).mono ?_; rintro e w4 ⟨g4, c4, rfl, r4, b4⟩; have B4 := hide (then_below B1.out.drew b4 (Nat.le_refl _)); have R4 := hide r4; clear b4 r4)
    | (go_at_call_of 10 (Value.slice (some ⟨g4, 0, none⟩) kk c4); refine (sum_n g4 c4 bs1 kk H1.out hk3 _ R4.out).mono ?_; rintro e w5 ⟨rfl, b5⟩; have B5 := hide (then_below B4.out b5 (Nat.le_refl _)); clear b5)
    | (go_at_call_of 11 (Value.slice a2 (n - kk) (c - kk)); refine (own_n _ bs2 (n - kk) H2.out hn3 _ (HV2.out _ B5.out)).mono ?_; rintro e w6 ⟨g6, c6, rfl, r6, b6⟩; have B6 := hide (then_below B5.out b6 (Nat.le_refl _)); have R6 := hide r6; clear b6 r6)
    | (go_at_call_of 10 (Value.slice (some ⟨g6, 0, none⟩) (n - kk) c6); refine (sum_n g6 c6 bs2 (n - kk) H2.out hn3 _ R6.out).mono ?_; rintro e w7 ⟨rfl, b7⟩; have B7 := hide (then_below B6.out b7 (Nat.le_refl _)); clear b7))
  generalize Crc32.sum bs1 = s1 at *
  generalize Crc32.sum bs2 = s2 at *
  go_wp2_with fail
  rw [show ((n : Int) - (kk : Int)) = ((n - kk : Nat) : Int) by omega]
  refine (join_any s1 s2 (n - kk) _ (by omega) (HW.out.below B7.out)).mono ?_
  rintro e w8 ⟨rfl, b8⟩
  have B8 := hide (then_below B7.out b8 (Nat.le_refl _))
  clear b8
  rw [HJ.out]
  go_wp2_with fail
  refine (own_n _ bs n HN.out (by omega) _ (by have := HV.out.below B8.out; exact this)).mono ?_
  rintro e w9 ⟨g9, c9, rfl, r9, b9⟩
  have B9 := hide (then_below B8.out b9 (Nat.le_refl _))
  have R9 := hide r9
  clear b9 r9
  go_wp2_with fail
  refine (sum_n g9 c9 bs n HN.out (by omega) _ R9.out).mono ?_
  rintro e w10 ⟨rfl, b10⟩
  have B10 := hide (then_below B9.out b10 (Nat.le_refl _))
  clear b10
  generalize Crc32.sum bs = sm at *
  go_wp2_with fail
  refine (own_n _ bs2 (n - kk) H2.out hn3 _ (HV2.out _ B10.out)).mono ?_
  rintro e w11 ⟨g11, c11, rfl, r11, b11⟩
  have B11 := hide (then_below B10.out b11 (Nat.le_refl _))
  have R11 := hide r11
  clear b11 r11
  go_wp2_with fail
  refine (update_n s1 g11 c11 bs2 (n - kk) H2.out hn3 _ R11.out).mono ?_
  rintro e w12 ⟨rfl, b12⟩
  have B12 := hide (then_below B11.out b12 (Nat.le_refl _))
  clear b12
  rw [HU.out]
  go_wp2_with fail
  refine (mask_any sm _).mono ?_
  rintro e w13 ⟨rfl, hw⟩
  subst hw
  go_wp2_with fail
  refine (unmask_any (mask sm) _).mono ?_
  rintro e w14 ⟨rfl, hw⟩
  subst hw
  rw [unmask_mask]
  go_wp2_with fail
  go_ret
  exact ⟨rfl, B12.out⟩
end Go.Proofs.YtmhahapmjpbocaaDoor
