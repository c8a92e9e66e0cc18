/-
  The document's Row of any bytes: the frames that the plain mathematics tells.
-/
import Derived.Test.YtpighnknldhigaaRowOf
import Derived.Test.YtpighnknldhigaaRRead
namespace Go.Proofs.Ytpighnknldhigaa
open Go.RowKit

set_option maxRecDepth 100000 in
set_option maxHeartbeats 2000000 in
theorem rrow_any (a : Option Addr) (n c : Nat) (bs : List (BitVec 8)) (w : World) (hv : Bytes w (.slice a n c) bs) (hnc : n ≤ c) (hx : bs.length ≤ 1000000000) :
    Calls Try.prog 14 #[.slice a n c] w fun e w' => ∃ lv, e = .returned (.tuple #[lv, .int .i64 ((Fr.row bs).2.1 : Nat), .int .i64 ((Fr.row bs).2.2 : Nat)]) ∧ Lst w' w.heap.size lv (Fr.row bs).1 ∧ Below w.heap.size w w' := by
  have hn := hv.len
  have HV := hide hv
  have HN := hide hn
  have HX := hide hx
  clear hv hn hx
  go_enter Try.func14, Try.ntmps14
  go_wp2
  go_loopw [5, 6] (fun lv kv wr => ∃ (fs : List Frm) (k : Nat), kv = .int .i64 (k : Nat) ∧ k ≤ n ∧ fs.length ≤ k ∧ Lst wr w.heap.size lv fs ∧ Fr.row bs = (fs ++ (Fr.row (bs.drop k)).1, k + (Fr.row (bs.drop k)).2.1, (Fr.row (bs.drop k)).2.2) ∧ Below w.heap.size w wr) (fun _ kv _ => n - (intOf kv).toNat)
  case atStart => exact ⟨[], 0, rfl, Nat.zero_le _, Nat.le_refl _, .inl ⟨rfl, rfl⟩, by simp, Below.refl _ _⟩
  case round =>
    obtain ⟨fs, k, rfl, hk, hfk, hl, hrow, hb⟩ := hrel
    have HL := hide hl
    have HR := hide hrow
    have HB := hide hb
    clear hl hrow hb
    have hx := HX.out
    have hnn := HN.out
    by_cases hkn : k < n
    · obtain ⟨b, off, rfl⟩ := HV.out.addr (by omega)
      have hkc : (k : Int) ≤ (c : Int) := by omega
      have hkn' : (k : Int) ≤ (n : Int) := by omega
      have hck : ¬ c = k := by omega
      have hpart : Bytes wr (.slice (some ⟨b, off + k, none⟩) (n - k) (c - k)) (bs.drop k) := by
        have := (HV.out.below HB.out).part k (n - k) (c - k) (by omega)
        rwa [List.take_of_length_le (by rw [List.length_drop]; omega)] at this
      have hdl : (bs.drop k).length = n - k := by rw [List.length_drop]; omega
      have HP := hide hpart
      have HD := hide hdl
      have hmx : (bs.drop k).length ≤ maxLen := by rw [hdl]; unfold maxLen; omega
      have HMX := hide hmx
      clear hpart hdl hmx hx hnn
      by_cases hf : Fr.fault (bs.drop k) = 0
      · have hfl := Fr.fault_len hf
        have hstep := Fr.row_step (bs := bs.drop k) (by have := HD.out; omega) hf
        have hbl : (Fr.bodyOf (bs.drop k)).length = Fr.lenOf (bs.drop k) := by unfold Fr.bodyOf; rw [List.length_take, List.length_drop]; omega
        have HF := hide hf
        have HFL := hide hfl
        have HST := hide hstep
        have HBL := hide hbl
        clear hf hfl hstep hbl
        go_wp2_with fail
        refine (rread_any (some ⟨b, off + k, none⟩) (n - k) (c - k) (bs.drop k) _ HP.out (by omega) (by have := HX.out; have := HN.out; omega)).mono ?_
        rintro e w1 ⟨⟨hne, _⟩ | ⟨_, g, cp, rfl, hg, hcp, hrw⟩, b1⟩
        · exact absurd HF.out hne
        have B1 := hide (then_below HB.out b1 (Nat.le_refl _))
        have L1 := hide (HL.out.below b1)
        have hbod : Bod w1 ((bs.drop k).getD 0 0, Fr.bodyOf (bs.drop k)) (.int .u8 ((bs.drop k).getD 0 0).toNat, .slice (some ⟨g, 0, none⟩) (Fr.lenOf (bs.drop k)) cp) := ⟨rfl, g, cp, by show Value.slice _ _ _ = Value.slice _ (Fr.bodyOf (bs.drop k)).length _; rw [HBL.out], by show (Fr.bodyOf (bs.drop k)).length ≤ cp; rw [HBL.out]; exact hcp, hrw⟩
        have HBOD := hide hbod
        clear b1 hrw hbod
        generalize hKd : (bs.drop k).getD 0 0 = kd at *
        generalize hLL : Fr.lenOf (bs.drop k) = L at *
        generalize hBy : Fr.bodyOf (bs.drop k) = by' at *
        have HKd := hide hKd
        have HLL := hide hLL
        have HBy := hide hBy
        clear hKd hLL hBy
        have b2 : Below w1.heap.size w1 ((w1.alloc (.cells #[.int .u8 kd.toNat, .slice (some ⟨g, 0, none⟩) L cp] 27)).alloc (.cells #[.int .u8 kd.toNat, .slice (some ⟨g, 0, none⟩) L cp] 27)) := ((Below.refl _ _).alloc (Nat.le_refl _) _).alloc (by simp) _
        obtain ⟨lv', w3, hr3, l3, b3⟩ := append_frame ((w1.alloc (.cells #[.int .u8 kd.toNat, .slice (some ⟨g, 0, none⟩) L cp] 27)).alloc (.cells #[.int .u8 kd.toNat, .slice (some ⟨g, 0, none⟩) L cp] 27)) w.heap.size (Nat.le_trans B1.out.size b2.size) _ fs (L1.out.below b2) (by have := HX.out; have := HN.out; omega) (kd, by') _ (HBOD.out.below b2) ⟨w1.heap.size + 1, 0, none⟩ 1 (fun j u hu => by
          rw [Go.WideShapes.add_plain, Nat.zero_add, cell_of_row _ _ _ _ _ _ (heap_alloc2_new w1 _ _), List.getElem?_toArray]
          exact hu)
        have B3 := hide ((B1.out.trans (b2.mono B1.out.size)).trans b3)
        have L3 := hide l3
        have HR3 := hide hr3
        clear b2 b3 l3 hr3
        have hL12 : k + (L + 12) ≤ n := by have h1 := HFL.out.1; have h2 := HD.out; omega
        have hnb : n ≤ 1000000000 := by have := HX.out; have := HN.out; omega
        go_wp2_with (at_builtin; refine wpList_append_run rfl _ _ 29 rfl _ _ rfl rfl _ _ (HR3.out _) ?_)
        go_roundw
        case rel =>
          have h1 := HFL.out.1
          have h2 := HD.out
          refine ⟨fs ++ [(kd, by')], k + (L + 12), by go_num, by omega, by rw [List.length_append]; show fs.length + 1 ≤ _; omega, L3.out, ?_, B3.out⟩
          rw [HR.out, HST.out, List.drop_drop]
          simp only [List.append_assoc, List.cons_append, List.nil_append, Nat.add_assoc]
        case measure =>
          have h1 := HFL.out.1
          have h2 := HD.out
          simp [intOf]
          omega
      · have hne : ((Fr.fault (bs.drop k) : Nat) : Int) ≠ 0 := by omega
        have htorn := Fr.row_torn (bs := bs.drop k) (by have := HD.out; omega) hf
        have hlt := fault_lt (bs.drop k)
        have HF := hide hf
        have HT := hide htorn
        clear hf htorn
        go_wp2_with fail
        refine (rread_any (some ⟨b, off + k, none⟩) (n - k) (c - k) (bs.drop k) _ HP.out (by omega) (by have := HX.out; have := HN.out; omega)).mono ?_
        rintro e w1 ⟨⟨_, rfl⟩ | ⟨hz, _⟩, b1⟩
        rotate_left
        · exact absurd hz HF.out
        have B1 := hide (then_below HB.out b1 (Nat.le_refl _))
        have L1 := hide (HL.out.below b1)
        clear b1
        generalize hF : Fr.fault (bs.drop k) = F at *
        have HFF := hide hF
        clear hF
        have hne' : (((F : Nat) : Int) != 0) = true := by simpa using hne
        have ba : Below w1.heap.size w1 (w1.alloc (.cells #[.int .u8 0, .slice none 0 0] 27)) := (Below.refl _ _).alloc (Nat.le_refl _) _
        have BA := hide ba
        clear ba
        go_wp2_with fail
        go_returns
        refine ⟨u5, ?_, ?_, then_below B1.out BA.out (Nat.le_refl _)⟩
        · rw [HR.out, HT.out]
          rfl
        · rw [HR.out, HT.out, List.append_nil]
          exact L1.out.below BA.out
    · obtain rfl : k = n := by omega
      have hd : bs.drop k = [] := by rw [hnn]; exact List.drop_length
      have HDN := hide hd
      clear hd hx hnn
      go_wp2_with fail
      go_returns
      refine ⟨u5, ?_, ?_, HB.out⟩
      · rw [HR.out, HDN.out, Fr.row_nil]
        rfl
      · rw [HR.out, HDN.out, Fr.row_nil, List.append_nil]
        exact HL.out
end Go.Proofs.Ytpighnknldhigaa
