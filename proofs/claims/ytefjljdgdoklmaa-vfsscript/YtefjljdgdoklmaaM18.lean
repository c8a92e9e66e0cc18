import Derived.Test.YtefjljdgdoklmaaM17
import Derived.Deep.RegionHeld
/-
  The document's sorted names.
-/
namespace Go.Proofs.Ytefjljdgdoklmaa
open Go.RowKit Go.Maps

theorem ins_src {wr : World} {rr lg ln lc : Nat} {l : List (List UInt8)} (h : SRow wr rr (.slice (some ⟨lg, 0, none⟩) ln lc) l) (k : Nat) (hk : k ≤ ln) :
    (∀ V, Turns (fun j => wr.heap.size ≤ j) wr.drew V → SrcS V (.slice (some ⟨lg, 0, none⟩) k lc) k (l.take k)) ∧ ∀ V, Turns (fun j => wr.heap.size ≤ j) wr.drew V → ∀ c', SrcS V (.slice (some ⟨lg, k, none⟩) (l.length - k) c') (l.length - k) (l.drop k) := by
  rcases h with ⟨_, e⟩ | ⟨g, c, n, e, h2, h3, h4, h5⟩
  · cases e
  · cases e
    have hlt : lg < wr.heap.size := by
      obtain ⟨cs, h, _⟩ := h5
      exact lt_of_heap h
    have row : ∀ V, Turns (fun j => wr.heap.size ≤ j) wr.drew V → RowC V lg 9 lc (strCells l) := fun V t => h5.turn ((Turns.refl _ wr).drew.trans t) (by omega)
    refine ⟨fun V t => ?_, fun V t c' => ?_⟩
    · have := src_part (row V t) 0 k lc (by omega)
      rwa [List.drop_zero] at this
    · have := src_part (row V t) k (l.length - k) c' (by omega)
      rwa [List.take_of_length_le (by rw [List.length_drop]; omega)] at this

set_option maxRecDepth 100000 in
set_option maxHeartbeats 4000000 in
theorem rsorted_any (b n : Nat) (D : DataW Unit) (w : World) (hd : Dir w b n D) (hsz : Maps.size D ≤ 1000000) :
    Calls Try.prog 82 #[.map (some b)] w fun e w' => ∃ v, e = .returned v ∧ SRow w' w.heap.size v ((strKeys D).mergeSort leB) ∧ Below w.heap.size w w' := by
  have hbl := hd.lt
  have HD := hide hd
  clear hd
  go_enter Try.func82, Try.ntmps82
  go_wp2_with (first
    | (at_range; refine wpList_range_own _ rfl _ 81 rfl 9 92 law9 Try.underlying81 _ b n _ rfl HD.out ?_; intro w0 hrg0 hg0 hs0)
    | go_in)
  go_frame
  have T0 : Turns (fun _ => False) w w0 := (Turns.of_grown hg0).mono fun k _ e => by cases e
  have HB0 := hide ((Below.refl w.heap.size w).trans (T0.below (Nat.le_refl _) (fun k h => h.elim)))
  clear T0 hs0 hg0
  generalize hrr : w.heap.size = rr at *
  go_loopw [3] (fun ov wz => ∃ (left : Lit → Bool) (cnt : Nat) (ks : List (List UInt8)), wz.ranges Try.prog 9 ptrR b rr n D left cnt ∧ Collected D left ks ∧ ks.length + cnt ≤ Maps.size D ∧ SRow wz rr ov (ks.mergeSort leB) ∧ Below rr w wz) (fun _ wz => wz.rangeLeft b rr)
  case atStart => exact ⟨_, _, [], hrg0, Collected.start D, by simp, .inl ⟨by simp, rfl⟩, HB0.out⟩
  case round =>
    clear HB0 hrg0
    obtain ⟨left, cnt, ks, hrg, hcol, hks, hrow, hbz⟩ := hrel
    have HCOL := hide hcol
    have HROW := hide hrow
    have HB := hide hbz
    have HKS := hide hks
    clear hcol hrow hbz hks
    go_wp2_with (first
      | (at_next; refine wpList_next_ranges _ rfl _ rfl 9 law9 ptrR encStr ptrOf strK_shape ptrR_shape b rr n _ _ _ rfl hrg ?_ ?_)
      | go_in)
    · intro hc0 hl0
      have HP := hide (mergeSort_of_perm (HCOL.out.perm hrg.owns law9 Try.underlying9 hl0))
      clear hl0 hc0 hrg
      go_wp2_with fail
      go_ret
      subst hrr
      exact ⟨_, rfl, by rw [← HP.out]; exact HROW.out, HB.out⟩
    · intro x c kl y1 y2 w2 cnt1 hkey hlx hR hat hrg1 hlt hg1 hs1 hen
      obtain rfl : kl = .string x := by
        obtain ⟨x', ex, hkl, _⟩ := Go.Maps.keyOf_str Try.underlying9 hkey
        rw [hkl, encStr_inj ex]
      have HCOL2 := hide (HCOL.out.step hlx hat)
      have T2 : Turns (fun k => k = rr) wr w2 := (Turns.of_grown hg1).mono fun k _ e => by cases e; rfl
      have hnr := (ranges_map hrg).2
      have HROW2 := hide (HROW.out.keep T2 (fun k hk e => by
        obtain ⟨_, cs, h1⟩ := HROW.out.row hk
        rw [e] at h1
        exact hnr _ _ _ h1))
      have HB2 := hide (HB.out.trans (T2.below (by rw [← hrr]; exact HB.out.size) (fun k e => by rw [e]; exact Nat.le_refl _)))
      have hlen : (ks.mergeSort leB).length = ks.length := List.length_mergeSort ks
      have hkb : ks.length ≤ 1000000 := by have := HKS.out; omega
      obtain ⟨l, hl⟩ : ∃ l, l = ks.mergeSort leB := ⟨_, rfl⟩
      rw [← hl] at HROW2 hlen
      have HL := hide hl
      have HR1 := hide hrg1
      have HRG := hide hrg
      obtain ⟨la, ln, lc, rfl, hln, hlc, hcell⟩ : ∃ la ln lc, u3 = .slice la ln lc ∧ ln = l.length ∧ ln ≤ lc ∧ ∀ k y, l[k]? = some y → ∃ lg, la = some ⟨lg, 0, none⟩ ∧ w2.cell? ⟨lg, k, none⟩ = some (encStr y) := by
        rcases HROW2.out with ⟨e1, e2⟩ | ⟨lg, c, n, e1, e2, e3, e4, cs, h1, h2, h3⟩
        · exact ⟨_, _, _, e2, by rw [e1]; rfl, Nat.le_refl _, fun k y hk => by rw [e1] at hk; cases hk⟩
        · refine ⟨_, _, _, e1, e2, e3, fun k y hk => ⟨lg, rfl, ?_⟩⟩
          have hkl := (List.getElem?_eq_some_iff.1 hk).1
          rw [cell_of_row w2 lg k _ 9 (0, 0) h1, h3 k (by simpa [strCells] using hkl)]
          simp [strCells, hk]
      have HLN := hide hln
      have HCELL := hide hcell
      have hlnb : ln ≤ 1000000 := by omega
      clear hcell hln hrg1 hat hR hlx hkey T2 hnr HROW HB hg1 hs1 hrg hl hlen
      simp only [encStr] at hen ⊢
      generalize ptrOf c = pv at *
      go_wp2_with fail
      go_loopw [5] (fun iv wz => ∃ k : Nat, iv = .int .i64 (k : Nat) ∧ k ≤ ln ∧ (∀ j y, j < k → l[j]? = some y → y < x) ∧ wz = w2) (fun iv _ => ln - (intOf iv).toNat)
      case atStart => exact ⟨0, rfl, Nat.zero_le _, fun j y h => by omega, rfl⟩
      case round =>
        obtain ⟨k, rfl, hk, hbefore, rfl⟩ := hrel
        have HBE := hide hbefore
        clear hbefore
        have FIN : ∀ W3 v, Turns (fun j => wr.heap.size ≤ j) wr.drew W3 → SRow W3 wr.heap.size v (l.take k ++ x :: l.drop k) → (∀ z, l[k]? = some z → ¬ z < x) → (∃ (left : Lit → Bool) (cnt : Nat) (ks : List (List UInt8)), W3.ranges Try.prog 9 ptrR b rr n D left cnt ∧ Collected D left ks ∧ ks.length + cnt ≤ Maps.size D ∧ SRow W3 rr v (ks.mergeSort leB) ∧ Below rr w W3) ∧ W3.rangeLeft b rr < cnt := by
          intro W3 v t3 hr hz
          have hsz2 := HB2.out.size
          have t3' : Turns (fun j => wr.heap.size ≤ j) wr W3 := (Turns.refl _ wr).drew.trans t3
          have R3 := ranges_keep HR1.out t3' (by have := HR1.out.owns.lt; omega) (by have := HR1.out.lt; omega)
          refine ⟨⟨_, cnt1, ks ++ [x], R3, HCOL2.out, by have := HKS.out; rw [List.length_append, List.length_singleton]; omega, ?_, HB2.out.trans (t3'.below (by omega) (fun j hj => by omega))⟩, by rw [R3.left_eq]; exact hlt⟩
          rw [← ins_sorted ks x k l HL.out HBE.out hz]
          rcases hr with h | ⟨g, c, m, h1, h2, h3, h4, h5⟩
          · exact .inl h
          · exact .inr ⟨g, c, m, h1, h2, h3, by omega, h5⟩
        have HFIN := hide FIN
        have HLE := hide (fun y => bytesLess_eq y x)
        clear FIN
        by_cases hkl : k < ln
        · have i2 : (k : Int) < (ln : Int) := by omega
          have i3 : (0 : Int) ≤ (k : Int) := by omega
          obtain ⟨y, hy⟩ : ∃ y, l[k]? = some y := ⟨l[k]'(by have := HLN.out; omega), List.getElem?_eq_getElem _⟩
          obtain ⟨lg, rfl, ck⟩ := HCELL.out k y hy
          simp only [encStr] at ck
          have hyx := HLE.out y
          by_cases hlt2 : y < x
          · rw [decide_eq_true hlt2] at hyx
            have HY := hide hy
            have HLT := hide hlt2
            clear hy hlt2
            go_wp2_with fail
            refine ⟨⟨k + 1, by go_num, by omega, fun j z hj hz => ?_, trivial⟩, by simp [intOf]; omega⟩
            rcases Nat.lt_or_ge j k with h | h
            · exact HBE.out j z h hz
            · obtain rfl : j = k := by omega
              rw [HY.out] at hz
              cases hz
              exact HLT.out
          · rw [decide_eq_false hlt2] at hyx
            have HY := hide hy
            have HLT := hide hlt2
            clear hy hlt2
            have hz : ∀ z, l[k]? = some z → ¬ z < x := fun z hz => by
              rw [HY.out] at hz
              cases hz
              exact HLT.out
            obtain ⟨s1, s3⟩ := ins_src HROW2.out k hk
            have hll := HLN.out
            obtain ⟨⟨gX1, cX1, WX1, qX1, gX2, cX2, WX2, gX3, cX3, WX3, qX2, qX3, rowX, tX⟩, ⟨gY1, cY1, WY1, qY1, gY2, cY2, WY2, gY3, cY3, WY3, qY2, qY3, rowY, tY⟩, ⟨gZ1, cZ1, WZ1, qZ1, gZ2, cZ2, WZ2, gZ3, cZ3, WZ3, qZ2, qZ3, rowZ, tZ⟩⟩ := ins_orders (B := wr.heap.size) (W := wr.drew) (l := l) (s := x) (i := k) (x1 := .slice (some ⟨lg, 0, none⟩) k lc) (x3 := .slice (some ⟨lg, k, none⟩) (ln - k) (lc - k)) (by omega) (by omega) (Nat.le_refl _) s1 (by rw [hll]; exact fun V t => s3 V t _)
            have FX := hide (HFIN.out _ _ tX rowX hz)
            have FY := hide (HFIN.out _ _ tY rowY hz)
            have FZ := hide (HFIN.out _ _ tZ rowZ hz)
            have qx1 := qX1 30
            have qx2 := qX2 30
            have qx3 := qX3 30
            have qy1 := qY1 30
            have qy2 := qY2 30
            have qy3 := qY3 30
            have qz1 := qZ1 30
            have qz2 := qZ2 30
            have qz3 := qZ3 30
            have i4 : (k : Int) ≤ (lc : Int) := by omega
            have i5 : (k : Int) ≤ (ln : Int) := by omega
            have i6 : ¬ lc = k := by omega
            have i7 : ¬ (lc : Int) = (k : Int) := by omega
            clear tX rowX tY rowY tZ rowZ qX1 qX2 qX3 qY1 qY2 qY3 qZ1 qZ2 qZ3 s1 s3 hz hll
            go_wp2_with fail
            refine wp_region_held_drew (S := fun _ => True) (by kernel_rfl) trivial (fun _ => ?_)
            change wpAnyH _ _ _ _ _ 13 (Array.replicate 13 false) _ _
            refine wpAnyH_take (i := 1) (oi := ⟨some 27, .move (.tmp 3), 30, "ref.go:248", #[], none⟩) (v := .slice (some ⟨lg, 0, none⟩) ln lc) rfl (by kernel_rfl) (by kernel_rfl) (by kernel_rfl) (fun _ _ _ h => h) (Or.inl ⟨by rfl, ?_⟩) trivial ?_
            · intro w hSw
              go_simp
            simp only [Act.put, List.setIfInBounds_toArray, List.set_cons_zero, List.set_cons_succ]
            refine wpAnyH_take (i := 2) (oi := ⟨some 28, .move (.tmp 5), 3, "ref.go:248", #[], none⟩) (v := .int .i64 (k : Nat)) rfl (by kernel_rfl) (by kernel_rfl) (by kernel_rfl) (fun _ _ _ h => h) (Or.inl ⟨by rfl, ?_⟩) trivial ?_
            · intro w hSw
              go_simp
            simp only [Act.put, List.setIfInBounds_toArray, List.set_cons_zero, List.set_cons_succ]
            refine wpAnyH_take (i := 3) (oi := ⟨some 29, .slice 30 (.tmp 27) none (some (.tmp 28)) none, 30, "ref.go:248", #[⟨1, .data⟩, ⟨2, .data⟩], none⟩) (v := .slice (some ⟨lg, 0, none⟩) k lc) rfl (by kernel_rfl) (by kernel_rfl) (by kernel_rfl) (fun _ _ _ h => h) (Or.inl ⟨by rfl, ?_⟩) trivial ?_
            · intro w hSw
              go_simp
            simp only [Act.put, List.setIfInBounds_toArray, List.set_cons_zero, List.set_cons_succ]
            refine wpAnyH_take (i := 5) (oi := ⟨some 31, .move (.tmp 4), 9, "ref.go:248", #[], none⟩) (v := .string ⟨x.toArray⟩) rfl (by kernel_rfl) (by kernel_rfl) (by kernel_rfl) (fun _ _ _ h => h) (Or.inl ⟨by rfl, ?_⟩) trivial ?_
            · intro w hSw
              go_simp
            simp only [Act.put, List.setIfInBounds_toArray, List.set_cons_zero, List.set_cons_succ]
            refine wpAnyH_take (i := 8) (oi := ⟨some 34, .move (.tmp 3), 30, "ref.go:248", #[], none⟩) (v := .slice (some ⟨lg, 0, none⟩) ln lc) rfl (by kernel_rfl) (by kernel_rfl) (by kernel_rfl) (fun _ _ _ h => h) (Or.inl ⟨by rfl, ?_⟩) trivial ?_
            · intro w hSw
              go_simp
            simp only [Act.put, List.setIfInBounds_toArray, List.set_cons_zero, List.set_cons_succ]
            refine wpAnyH_take (i := 9) (oi := ⟨some 35, .move (.tmp 5), 3, "ref.go:248", #[], none⟩) (v := .int .i64 (k : Nat)) rfl (by kernel_rfl) (by kernel_rfl) (by kernel_rfl) (fun _ _ _ h => h) (Or.inl ⟨by rfl, ?_⟩) trivial ?_
            · intro w hSw
              go_simp
            simp only [Act.put, List.setIfInBounds_toArray, List.set_cons_zero, List.set_cons_succ]
            refine wpAnyH_take (i := 10) (oi := ⟨some 36, .slice 30 (.tmp 34) (some (.tmp 35)) none none, 30, "ref.go:248", #[⟨8, .data⟩, ⟨9, .data⟩], none⟩) (v := .slice (some ⟨lg, k, none⟩) (ln - k) (lc - k)) rfl (by kernel_rfl) (by kernel_rfl) (by kernel_rfl) (fun _ _ _ h => h) (Or.inl ⟨by rfl, ?_⟩) trivial ?_
            · intro w hSw
              go_simp
            simp only [Act.put, List.setIfInBounds_toArray, List.set_cons_zero, List.set_cons_succ]
            refine wpAnyH_ready (rs := [0, 6]) (by kernel_rfl) (by simp) ?_
            refine AllReadyH.cons rfl (fun K hK => ?_) (AllReadyH.cons rfl (fun K hK => ?_) AllReadyH.nil)
            · skip
              go_simp
              refine hK.out _ _ trivial (fun _ => ?_)
              clear hK K
              refine wpAnyH_ready (rs := [4, 6]) (by kernel_rfl) (by simp) ?_
              refine AllReadyH.cons rfl (fun K hK => ?_) (AllReadyH.cons rfl (fun K hK => ?_) AllReadyH.nil)
              · skip
                refine step_append_run rfl (.tmp 26) (.tmp 29) 30 rfl _ _ rfl rfl _ _ qx1 30 rfl ?_
                simp only [Act.put, List.setIfInBounds_toArray, List.set_cons_zero, List.set_cons_succ]
                refine hK.out _ _ trivial (fun _ => ?_)
                clear hK K
                refine wpAnyH_ready (rs := [6]) (by kernel_rfl) (by simp) ?_
                refine AllReadyH.cons rfl (fun K hK => ?_) AllReadyH.nil
                go_simp
                refine hK.out _ _ trivial (fun _ => ?_)
                clear hK K
                refine wpAnyH_ready (rs := [7]) (by kernel_rfl) (by simp) ?_
                refine AllReadyH.cons rfl (fun K hK => ?_) AllReadyH.nil
                refine step_append_run rfl (.tmp 30) (.tmp 32) 30 rfl _ _ rfl rfl _ _ qx2 33 rfl ?_
                simp only [Act.put, List.setIfInBounds_toArray, List.set_cons_zero, List.set_cons_succ]
                refine hK.out _ _ trivial (fun _ => ?_)
                clear hK K
                refine wpAnyH_ready (rs := [11]) (by kernel_rfl) (by simp) ?_
                refine AllReadyH.cons rfl (fun K hK => ?_) AllReadyH.nil
                refine step_append_run rfl (.tmp 33) (.tmp 36) 30 rfl _ _ rfl rfl _ _ qx3 37 rfl ?_
                simp only [Act.put, List.setIfInBounds_toArray, List.set_cons_zero, List.set_cons_succ]
                refine hK.out _ _ trivial (fun _ => ?_)
                clear hK K
                refine wpAnyH_ready (rs := [12]) (by kernel_rfl) (by simp) ?_
                refine AllReadyH.cons rfl (fun K hK => ?_) AllReadyH.nil
                go_simp
                refine hK.out _ _ trivial (fun _ => ?_)
                clear hK K
                refine wpAnyH_done (by kernel_rfl) ?_ _
                go_wp2_with fail
                exact ⟨FX.out.1, by rw [HRG.out.left_eq]; exact FX.out.2⟩
              · skip
                go_simp
                refine hK.out _ _ trivial (fun _ => ?_)
                clear hK K
                refine wpAnyH_ready (rs := [4]) (by kernel_rfl) (by simp) ?_
                refine AllReadyH.cons rfl (fun K hK => ?_) AllReadyH.nil
                refine step_append_run rfl (.tmp 26) (.tmp 29) 30 rfl _ _ rfl rfl _ _ qy1 30 rfl ?_
                simp only [Act.put, List.setIfInBounds_toArray, List.set_cons_zero, List.set_cons_succ]
                refine hK.out _ _ trivial (fun _ => ?_)
                clear hK K
                refine wpAnyH_ready (rs := [7]) (by kernel_rfl) (by simp) ?_
                refine AllReadyH.cons rfl (fun K hK => ?_) AllReadyH.nil
                refine step_append_run rfl (.tmp 30) (.tmp 32) 30 rfl _ _ rfl rfl _ _ qy2 33 rfl ?_
                simp only [Act.put, List.setIfInBounds_toArray, List.set_cons_zero, List.set_cons_succ]
                refine hK.out _ _ trivial (fun _ => ?_)
                clear hK K
                refine wpAnyH_ready (rs := [11]) (by kernel_rfl) (by simp) ?_
                refine AllReadyH.cons rfl (fun K hK => ?_) AllReadyH.nil
                refine step_append_run rfl (.tmp 33) (.tmp 36) 30 rfl _ _ rfl rfl _ _ qy3 37 rfl ?_
                simp only [Act.put, List.setIfInBounds_toArray, List.set_cons_zero, List.set_cons_succ]
                refine hK.out _ _ trivial (fun _ => ?_)
                clear hK K
                refine wpAnyH_ready (rs := [12]) (by kernel_rfl) (by simp) ?_
                refine AllReadyH.cons rfl (fun K hK => ?_) AllReadyH.nil
                go_simp
                refine hK.out _ _ trivial (fun _ => ?_)
                clear hK K
                refine wpAnyH_done (by kernel_rfl) ?_ _
                go_wp2_with fail
                exact ⟨FY.out.1, by rw [HRG.out.left_eq]; exact FY.out.2⟩
            · skip
              go_simp
              refine hK.out _ _ trivial (fun _ => ?_)
              clear hK K
              refine wpAnyH_ready (rs := [0]) (by kernel_rfl) (by simp) ?_
              refine AllReadyH.cons rfl (fun K hK => ?_) AllReadyH.nil
              go_simp
              refine hK.out _ _ trivial (fun _ => ?_)
              clear hK K
              refine wpAnyH_ready (rs := [4]) (by kernel_rfl) (by simp) ?_
              refine AllReadyH.cons rfl (fun K hK => ?_) AllReadyH.nil
              refine step_append_run rfl (.tmp 26) (.tmp 29) 30 rfl _ _ rfl rfl _ _ qz1 30 rfl ?_
              simp only [Act.put, List.setIfInBounds_toArray, List.set_cons_zero, List.set_cons_succ]
              refine hK.out _ _ trivial (fun _ => ?_)
              clear hK K
              refine wpAnyH_ready (rs := [7]) (by kernel_rfl) (by simp) ?_
              refine AllReadyH.cons rfl (fun K hK => ?_) AllReadyH.nil
              refine step_append_run rfl (.tmp 30) (.tmp 32) 30 rfl _ _ rfl rfl _ _ qz2 33 rfl ?_
              simp only [Act.put, List.setIfInBounds_toArray, List.set_cons_zero, List.set_cons_succ]
              refine hK.out _ _ trivial (fun _ => ?_)
              clear hK K
              refine wpAnyH_ready (rs := [11]) (by kernel_rfl) (by simp) ?_
              refine AllReadyH.cons rfl (fun K hK => ?_) AllReadyH.nil
              refine step_append_run rfl (.tmp 33) (.tmp 36) 30 rfl _ _ rfl rfl _ _ qz3 37 rfl ?_
              simp only [Act.put, List.setIfInBounds_toArray, List.set_cons_zero, List.set_cons_succ]
              refine hK.out _ _ trivial (fun _ => ?_)
              clear hK K
              refine wpAnyH_ready (rs := [12]) (by kernel_rfl) (by simp) ?_
              refine AllReadyH.cons rfl (fun K hK => ?_) AllReadyH.nil
              go_simp
              refine hK.out _ _ trivial (fun _ => ?_)
              clear hK K
              refine wpAnyH_done (by kernel_rfl) ?_ _
              go_wp2_with fail
              exact ⟨FZ.out.1, by rw [HRG.out.left_eq]; exact FZ.out.2⟩
        · obtain rfl : k = ln := by omega
          have hll := HLN.out
          have hz : ∀ z, l[k]? = some z → ¬ z < x := fun z hz => by
            rw [List.getElem?_eq_none (by omega)] at hz
            cases hz
          have hdrop : l.drop k = [] := List.drop_eq_nil_of_le (by omega)
          rcases HROW2.out with ⟨e1, e2⟩ | ⟨lg, c', n', e1, hrest⟩
          · cases e2
            have s1 : ∀ V, Turns (fun j => wr.heap.size ≤ j) wr.drew V → SrcS V (.slice none 0 0) 0 (l.take 0) := fun V _ => Src.ofNil V Try.underlying30 0
            have s3 : ∀ V, Turns (fun j => wr.heap.size ≤ j) wr.drew V → SrcS V (.slice none 0 0) (l.length - 0) (l.drop 0) := fun V _ => by
              rw [e1]
              exact Src.ofNil V Try.underlying30 0
            clear hdrop e1
            obtain ⟨⟨gX1, cX1, WX1, qX1, gX2, cX2, WX2, gX3, cX3, WX3, qX2, qX3, rowX, tX⟩, ⟨gY1, cY1, WY1, qY1, gY2, cY2, WY2, gY3, cY3, WY3, qY2, qY3, rowY, tY⟩, ⟨gZ1, cZ1, WZ1, qZ1, gZ2, cZ2, WZ2, gZ3, cZ3, WZ3, qZ2, qZ3, rowZ, tZ⟩⟩ := ins_orders (B := wr.heap.size) (W := wr.drew) (l := l) (s := x) (i := 0) (x1 := .slice none 0 0) (x3 := .slice none 0 0) (by omega) (by omega) (Nat.le_refl _) s1 s3
            have FX := hide (HFIN.out _ _ tX rowX hz)
            have FY := hide (HFIN.out _ _ tY rowY hz)
            have FZ := hide (HFIN.out _ _ tZ rowZ hz)
            have qx1 := qX1 30
            have qx2 := qX2 30
            have qx3 := qX3 30
            have qy1 := qY1 30
            have qy2 := qY2 30
            have qy3 := qY3 30
            have qz1 := qZ1 30
            have qz2 := qZ2 30
            have qz3 := qZ3 30
            clear hll
            clear tX rowX tY rowY tZ rowZ qX1 qX2 qX3 qY1 qY2 qY3 qZ1 qZ2 qZ3 s1 s3 hz
            go_wp2_with fail
            refine wp_region_held_drew (S := fun _ => True) (by kernel_rfl) trivial (fun _ => ?_)
            change wpAnyH _ _ _ _ _ 13 (Array.replicate 13 false) _ _
            refine wpAnyH_take (i := 1) (oi := ⟨some 27, .move (.tmp 3), 30, "ref.go:248", #[], none⟩) (v := .slice none 0 0) rfl (by kernel_rfl) (by kernel_rfl) (by kernel_rfl) (fun _ _ _ h => h) (Or.inl ⟨by rfl, ?_⟩) trivial ?_
            · intro w hSw
              go_simp
            simp only [Act.put, List.setIfInBounds_toArray, List.set_cons_zero, List.set_cons_succ]
            refine wpAnyH_take (i := 2) (oi := ⟨some 28, .move (.tmp 5), 3, "ref.go:248", #[], none⟩) (v := .int .i64 0) rfl (by kernel_rfl) (by kernel_rfl) (by kernel_rfl) (fun _ _ _ h => h) (Or.inl ⟨by rfl, ?_⟩) trivial ?_
            · intro w hSw
              go_simp
            simp only [Act.put, List.setIfInBounds_toArray, List.set_cons_zero, List.set_cons_succ]
            refine wpAnyH_take (i := 3) (oi := ⟨some 29, .slice 30 (.tmp 27) none (some (.tmp 28)) none, 30, "ref.go:248", #[⟨1, .data⟩, ⟨2, .data⟩], none⟩) (v := .slice none 0 0) rfl (by kernel_rfl) (by kernel_rfl) (by kernel_rfl) (fun _ _ _ h => h) (Or.inl ⟨by rfl, ?_⟩) trivial ?_
            · intro w hSw
              go_simp
            simp only [Act.put, List.setIfInBounds_toArray, List.set_cons_zero, List.set_cons_succ]
            refine wpAnyH_take (i := 5) (oi := ⟨some 31, .move (.tmp 4), 9, "ref.go:248", #[], none⟩) (v := .string ⟨x.toArray⟩) rfl (by kernel_rfl) (by kernel_rfl) (by kernel_rfl) (fun _ _ _ h => h) (Or.inl ⟨by rfl, ?_⟩) trivial ?_
            · intro w hSw
              go_simp
            simp only [Act.put, List.setIfInBounds_toArray, List.set_cons_zero, List.set_cons_succ]
            refine wpAnyH_take (i := 8) (oi := ⟨some 34, .move (.tmp 3), 30, "ref.go:248", #[], none⟩) (v := .slice none 0 0) rfl (by kernel_rfl) (by kernel_rfl) (by kernel_rfl) (fun _ _ _ h => h) (Or.inl ⟨by rfl, ?_⟩) trivial ?_
            · intro w hSw
              go_simp
            simp only [Act.put, List.setIfInBounds_toArray, List.set_cons_zero, List.set_cons_succ]
            refine wpAnyH_take (i := 9) (oi := ⟨some 35, .move (.tmp 5), 3, "ref.go:248", #[], none⟩) (v := .int .i64 0) rfl (by kernel_rfl) (by kernel_rfl) (by kernel_rfl) (fun _ _ _ h => h) (Or.inl ⟨by rfl, ?_⟩) trivial ?_
            · intro w hSw
              go_simp
            simp only [Act.put, List.setIfInBounds_toArray, List.set_cons_zero, List.set_cons_succ]
            refine wpAnyH_take (i := 10) (oi := ⟨some 36, .slice 30 (.tmp 34) (some (.tmp 35)) none none, 30, "ref.go:248", #[⟨8, .data⟩, ⟨9, .data⟩], none⟩) (v := .slice none 0 0) rfl (by kernel_rfl) (by kernel_rfl) (by kernel_rfl) (fun _ _ _ h => h) (Or.inl ⟨by rfl, ?_⟩) trivial ?_
            · intro w hSw
              go_simp
            simp only [Act.put, List.setIfInBounds_toArray, List.set_cons_zero, List.set_cons_succ]
            refine wpAnyH_ready (rs := [0, 6]) (by kernel_rfl) (by simp) ?_
            refine AllReadyH.cons rfl (fun K hK => ?_) (AllReadyH.cons rfl (fun K hK => ?_) AllReadyH.nil)
            · skip
              go_simp
              refine hK.out _ _ trivial (fun _ => ?_)
              clear hK K
              refine wpAnyH_ready (rs := [4, 6]) (by kernel_rfl) (by simp) ?_
              refine AllReadyH.cons rfl (fun K hK => ?_) (AllReadyH.cons rfl (fun K hK => ?_) AllReadyH.nil)
              · skip
                refine step_append_run rfl (.tmp 26) (.tmp 29) 30 rfl _ _ rfl rfl _ _ qx1 30 rfl ?_
                simp only [Act.put, List.setIfInBounds_toArray, List.set_cons_zero, List.set_cons_succ]
                refine hK.out _ _ trivial (fun _ => ?_)
                clear hK K
                refine wpAnyH_ready (rs := [6]) (by kernel_rfl) (by simp) ?_
                refine AllReadyH.cons rfl (fun K hK => ?_) AllReadyH.nil
                go_simp
                refine hK.out _ _ trivial (fun _ => ?_)
                clear hK K
                refine wpAnyH_ready (rs := [7]) (by kernel_rfl) (by simp) ?_
                refine AllReadyH.cons rfl (fun K hK => ?_) AllReadyH.nil
                refine step_append_run rfl (.tmp 30) (.tmp 32) 30 rfl _ _ rfl rfl _ _ qx2 33 rfl ?_
                simp only [Act.put, List.setIfInBounds_toArray, List.set_cons_zero, List.set_cons_succ]
                refine hK.out _ _ trivial (fun _ => ?_)
                clear hK K
                refine wpAnyH_ready (rs := [11]) (by kernel_rfl) (by simp) ?_
                refine AllReadyH.cons rfl (fun K hK => ?_) AllReadyH.nil
                refine step_append_run rfl (.tmp 33) (.tmp 36) 30 rfl _ _ rfl rfl _ _ qx3 37 rfl ?_
                simp only [Act.put, List.setIfInBounds_toArray, List.set_cons_zero, List.set_cons_succ]
                refine hK.out _ _ trivial (fun _ => ?_)
                clear hK K
                refine wpAnyH_ready (rs := [12]) (by kernel_rfl) (by simp) ?_
                refine AllReadyH.cons rfl (fun K hK => ?_) AllReadyH.nil
                go_simp
                refine hK.out _ _ trivial (fun _ => ?_)
                clear hK K
                refine wpAnyH_done (by kernel_rfl) ?_ _
                go_wp2_with fail
                exact ⟨FX.out.1, by rw [HRG.out.left_eq]; exact FX.out.2⟩
              · skip
                go_simp
                refine hK.out _ _ trivial (fun _ => ?_)
                clear hK K
                refine wpAnyH_ready (rs := [4]) (by kernel_rfl) (by simp) ?_
                refine AllReadyH.cons rfl (fun K hK => ?_) AllReadyH.nil
                refine step_append_run rfl (.tmp 26) (.tmp 29) 30 rfl _ _ rfl rfl _ _ qy1 30 rfl ?_
                simp only [Act.put, List.setIfInBounds_toArray, List.set_cons_zero, List.set_cons_succ]
                refine hK.out _ _ trivial (fun _ => ?_)
                clear hK K
                refine wpAnyH_ready (rs := [7]) (by kernel_rfl) (by simp) ?_
                refine AllReadyH.cons rfl (fun K hK => ?_) AllReadyH.nil
                refine step_append_run rfl (.tmp 30) (.tmp 32) 30 rfl _ _ rfl rfl _ _ qy2 33 rfl ?_
                simp only [Act.put, List.setIfInBounds_toArray, List.set_cons_zero, List.set_cons_succ]
                refine hK.out _ _ trivial (fun _ => ?_)
                clear hK K
                refine wpAnyH_ready (rs := [11]) (by kernel_rfl) (by simp) ?_
                refine AllReadyH.cons rfl (fun K hK => ?_) AllReadyH.nil
                refine step_append_run rfl (.tmp 33) (.tmp 36) 30 rfl _ _ rfl rfl _ _ qy3 37 rfl ?_
                simp only [Act.put, List.setIfInBounds_toArray, List.set_cons_zero, List.set_cons_succ]
                refine hK.out _ _ trivial (fun _ => ?_)
                clear hK K
                refine wpAnyH_ready (rs := [12]) (by kernel_rfl) (by simp) ?_
                refine AllReadyH.cons rfl (fun K hK => ?_) AllReadyH.nil
                go_simp
                refine hK.out _ _ trivial (fun _ => ?_)
                clear hK K
                refine wpAnyH_done (by kernel_rfl) ?_ _
                go_wp2_with fail
                exact ⟨FY.out.1, by rw [HRG.out.left_eq]; exact FY.out.2⟩
            · skip
              go_simp
              refine hK.out _ _ trivial (fun _ => ?_)
              clear hK K
              refine wpAnyH_ready (rs := [0]) (by kernel_rfl) (by simp) ?_
              refine AllReadyH.cons rfl (fun K hK => ?_) AllReadyH.nil
              go_simp
              refine hK.out _ _ trivial (fun _ => ?_)
              clear hK K
              refine wpAnyH_ready (rs := [4]) (by kernel_rfl) (by simp) ?_
              refine AllReadyH.cons rfl (fun K hK => ?_) AllReadyH.nil
              refine step_append_run rfl (.tmp 26) (.tmp 29) 30 rfl _ _ rfl rfl _ _ qz1 30 rfl ?_
              simp only [Act.put, List.setIfInBounds_toArray, List.set_cons_zero, List.set_cons_succ]
              refine hK.out _ _ trivial (fun _ => ?_)
              clear hK K
              refine wpAnyH_ready (rs := [7]) (by kernel_rfl) (by simp) ?_
              refine AllReadyH.cons rfl (fun K hK => ?_) AllReadyH.nil
              refine step_append_run rfl (.tmp 30) (.tmp 32) 30 rfl _ _ rfl rfl _ _ qz2 33 rfl ?_
              simp only [Act.put, List.setIfInBounds_toArray, List.set_cons_zero, List.set_cons_succ]
              refine hK.out _ _ trivial (fun _ => ?_)
              clear hK K
              refine wpAnyH_ready (rs := [11]) (by kernel_rfl) (by simp) ?_
              refine AllReadyH.cons rfl (fun K hK => ?_) AllReadyH.nil
              refine step_append_run rfl (.tmp 33) (.tmp 36) 30 rfl _ _ rfl rfl _ _ qz3 37 rfl ?_
              simp only [Act.put, List.setIfInBounds_toArray, List.set_cons_zero, List.set_cons_succ]
              refine hK.out _ _ trivial (fun _ => ?_)
              clear hK K
              refine wpAnyH_ready (rs := [12]) (by kernel_rfl) (by simp) ?_
              refine AllReadyH.cons rfl (fun K hK => ?_) AllReadyH.nil
              go_simp
              refine hK.out _ _ trivial (fun _ => ?_)
              clear hK K
              refine wpAnyH_done (by kernel_rfl) ?_ _
              go_wp2_with fail
              exact ⟨FZ.out.1, by rw [HRG.out.left_eq]; exact FZ.out.2⟩
          · cases e1
            clear hrest
            obtain ⟨s1, s3'⟩ := ins_src HROW2.out k hk
            have s3 : ∀ a c' V, Turns (fun j => wr.heap.size ≤ j) wr.drew V → SrcS V (.slice (some a) 0 c') (l.length - k) (l.drop k) := fun a c' V _ => by
              rw [hdrop, show l.length - k = 0 by omega]
              exact src_none V a c'
            have i4 : (k : Int) ≤ (lc : Int) := by omega
            clear s3' hdrop
            by_cases i6 : lc = k
            · subst i6
              replace s3 := s3 ⟨lg, 0, none⟩ 0
              obtain ⟨⟨gX1, cX1, WX1, qX1, gX2, cX2, WX2, gX3, cX3, WX3, qX2, qX3, rowX, tX⟩, ⟨gY1, cY1, WY1, qY1, gY2, cY2, WY2, gY3, cY3, WY3, qY2, qY3, rowY, tY⟩, ⟨gZ1, cZ1, WZ1, qZ1, gZ2, cZ2, WZ2, gZ3, cZ3, WZ3, qZ2, qZ3, rowZ, tZ⟩⟩ := ins_orders (B := wr.heap.size) (W := wr.drew) (l := l) (s := x) (i := lc) (x1 := .slice (some ⟨lg, 0, none⟩) lc lc) (x3 := .slice (some ⟨lg, 0, none⟩) 0 0) (by omega) (by omega) (Nat.le_refl _) s1 s3
              have FX := hide (HFIN.out _ _ tX rowX hz)
              have FY := hide (HFIN.out _ _ tY rowY hz)
              have FZ := hide (HFIN.out _ _ tZ rowZ hz)
              have qx1 := qX1 30
              have qx2 := qX2 30
              have qx3 := qX3 30
              have qy1 := qY1 30
              have qy2 := qY2 30
              have qy3 := qY3 30
              have qz1 := qZ1 30
              have qz2 := qZ2 30
              have qz3 := qZ3 30
              clear hll
              clear tX rowX tY rowY tZ rowZ qX1 qX2 qX3 qY1 qY2 qY3 qZ1 qZ2 qZ3 s1 s3 hz
              go_wp2_with fail
              refine wp_region_held_drew (S := fun _ => True) (by kernel_rfl) trivial (fun _ => ?_)
              change wpAnyH _ _ _ _ _ 13 (Array.replicate 13 false) _ _
              refine wpAnyH_take (i := 1) (oi := ⟨some 27, .move (.tmp 3), 30, "ref.go:248", #[], none⟩) (v := .slice (some ⟨lg, 0, none⟩) lc lc) rfl (by kernel_rfl) (by kernel_rfl) (by kernel_rfl) (fun _ _ _ h => h) (Or.inl ⟨by rfl, ?_⟩) trivial ?_
              · intro w hSw
                go_simp
              simp only [Act.put, List.setIfInBounds_toArray, List.set_cons_zero, List.set_cons_succ]
              refine wpAnyH_take (i := 2) (oi := ⟨some 28, .move (.tmp 5), 3, "ref.go:248", #[], none⟩) (v := .int .i64 (lc : Nat)) rfl (by kernel_rfl) (by kernel_rfl) (by kernel_rfl) (fun _ _ _ h => h) (Or.inl ⟨by rfl, ?_⟩) trivial ?_
              · intro w hSw
                go_simp
              simp only [Act.put, List.setIfInBounds_toArray, List.set_cons_zero, List.set_cons_succ]
              refine wpAnyH_take (i := 3) (oi := ⟨some 29, .slice 30 (.tmp 27) none (some (.tmp 28)) none, 30, "ref.go:248", #[⟨1, .data⟩, ⟨2, .data⟩], none⟩) (v := .slice (some ⟨lg, 0, none⟩) lc lc) rfl (by kernel_rfl) (by kernel_rfl) (by kernel_rfl) (fun _ _ _ h => h) (Or.inl ⟨by rfl, ?_⟩) trivial ?_
              · intro w hSw
                go_simp
              simp only [Act.put, List.setIfInBounds_toArray, List.set_cons_zero, List.set_cons_succ]
              refine wpAnyH_take (i := 5) (oi := ⟨some 31, .move (.tmp 4), 9, "ref.go:248", #[], none⟩) (v := .string ⟨x.toArray⟩) rfl (by kernel_rfl) (by kernel_rfl) (by kernel_rfl) (fun _ _ _ h => h) (Or.inl ⟨by rfl, ?_⟩) trivial ?_
              · intro w hSw
                go_simp
              simp only [Act.put, List.setIfInBounds_toArray, List.set_cons_zero, List.set_cons_succ]
              refine wpAnyH_take (i := 8) (oi := ⟨some 34, .move (.tmp 3), 30, "ref.go:248", #[], none⟩) (v := .slice (some ⟨lg, 0, none⟩) lc lc) rfl (by kernel_rfl) (by kernel_rfl) (by kernel_rfl) (fun _ _ _ h => h) (Or.inl ⟨by rfl, ?_⟩) trivial ?_
              · intro w hSw
                go_simp
              simp only [Act.put, List.setIfInBounds_toArray, List.set_cons_zero, List.set_cons_succ]
              refine wpAnyH_take (i := 9) (oi := ⟨some 35, .move (.tmp 5), 3, "ref.go:248", #[], none⟩) (v := .int .i64 (lc : Nat)) rfl (by kernel_rfl) (by kernel_rfl) (by kernel_rfl) (fun _ _ _ h => h) (Or.inl ⟨by rfl, ?_⟩) trivial ?_
              · intro w hSw
                go_simp
              simp only [Act.put, List.setIfInBounds_toArray, List.set_cons_zero, List.set_cons_succ]
              refine wpAnyH_take (i := 10) (oi := ⟨some 36, .slice 30 (.tmp 34) (some (.tmp 35)) none none, 30, "ref.go:248", #[⟨8, .data⟩, ⟨9, .data⟩], none⟩) (v := .slice (some ⟨lg, 0, none⟩) 0 0) rfl (by kernel_rfl) (by kernel_rfl) (by kernel_rfl) (fun _ _ _ h => h) (Or.inl ⟨by rfl, ?_⟩) trivial ?_
              · intro w hSw
                go_simp
              simp only [Act.put, List.setIfInBounds_toArray, List.set_cons_zero, List.set_cons_succ]
              refine wpAnyH_ready (rs := [0, 6]) (by kernel_rfl) (by simp) ?_
              refine AllReadyH.cons rfl (fun K hK => ?_) (AllReadyH.cons rfl (fun K hK => ?_) AllReadyH.nil)
              · skip
                go_simp
                refine hK.out _ _ trivial (fun _ => ?_)
                clear hK K
                refine wpAnyH_ready (rs := [4, 6]) (by kernel_rfl) (by simp) ?_
                refine AllReadyH.cons rfl (fun K hK => ?_) (AllReadyH.cons rfl (fun K hK => ?_) AllReadyH.nil)
                · skip
                  refine step_append_run rfl (.tmp 26) (.tmp 29) 30 rfl _ _ rfl rfl _ _ qx1 30 rfl ?_
                  simp only [Act.put, List.setIfInBounds_toArray, List.set_cons_zero, List.set_cons_succ]
                  refine hK.out _ _ trivial (fun _ => ?_)
                  clear hK K
                  refine wpAnyH_ready (rs := [6]) (by kernel_rfl) (by simp) ?_
                  refine AllReadyH.cons rfl (fun K hK => ?_) AllReadyH.nil
                  go_simp
                  refine hK.out _ _ trivial (fun _ => ?_)
                  clear hK K
                  refine wpAnyH_ready (rs := [7]) (by kernel_rfl) (by simp) ?_
                  refine AllReadyH.cons rfl (fun K hK => ?_) AllReadyH.nil
                  refine step_append_run rfl (.tmp 30) (.tmp 32) 30 rfl _ _ rfl rfl _ _ qx2 33 rfl ?_
                  simp only [Act.put, List.setIfInBounds_toArray, List.set_cons_zero, List.set_cons_succ]
                  refine hK.out _ _ trivial (fun _ => ?_)
                  clear hK K
                  refine wpAnyH_ready (rs := [11]) (by kernel_rfl) (by simp) ?_
                  refine AllReadyH.cons rfl (fun K hK => ?_) AllReadyH.nil
                  refine step_append_run rfl (.tmp 33) (.tmp 36) 30 rfl _ _ rfl rfl _ _ qx3 37 rfl ?_
                  simp only [Act.put, List.setIfInBounds_toArray, List.set_cons_zero, List.set_cons_succ]
                  refine hK.out _ _ trivial (fun _ => ?_)
                  clear hK K
                  refine wpAnyH_ready (rs := [12]) (by kernel_rfl) (by simp) ?_
                  refine AllReadyH.cons rfl (fun K hK => ?_) AllReadyH.nil
                  go_simp
                  refine hK.out _ _ trivial (fun _ => ?_)
                  clear hK K
                  refine wpAnyH_done (by kernel_rfl) ?_ _
                  go_wp2_with fail
                  exact ⟨FX.out.1, by rw [HRG.out.left_eq]; exact FX.out.2⟩
                · skip
                  go_simp
                  refine hK.out _ _ trivial (fun _ => ?_)
                  clear hK K
                  refine wpAnyH_ready (rs := [4]) (by kernel_rfl) (by simp) ?_
                  refine AllReadyH.cons rfl (fun K hK => ?_) AllReadyH.nil
                  refine step_append_run rfl (.tmp 26) (.tmp 29) 30 rfl _ _ rfl rfl _ _ qy1 30 rfl ?_
                  simp only [Act.put, List.setIfInBounds_toArray, List.set_cons_zero, List.set_cons_succ]
                  refine hK.out _ _ trivial (fun _ => ?_)
                  clear hK K
                  refine wpAnyH_ready (rs := [7]) (by kernel_rfl) (by simp) ?_
                  refine AllReadyH.cons rfl (fun K hK => ?_) AllReadyH.nil
                  refine step_append_run rfl (.tmp 30) (.tmp 32) 30 rfl _ _ rfl rfl _ _ qy2 33 rfl ?_
                  simp only [Act.put, List.setIfInBounds_toArray, List.set_cons_zero, List.set_cons_succ]
                  refine hK.out _ _ trivial (fun _ => ?_)
                  clear hK K
                  refine wpAnyH_ready (rs := [11]) (by kernel_rfl) (by simp) ?_
                  refine AllReadyH.cons rfl (fun K hK => ?_) AllReadyH.nil
                  refine step_append_run rfl (.tmp 33) (.tmp 36) 30 rfl _ _ rfl rfl _ _ qy3 37 rfl ?_
                  simp only [Act.put, List.setIfInBounds_toArray, List.set_cons_zero, List.set_cons_succ]
                  refine hK.out _ _ trivial (fun _ => ?_)
                  clear hK K
                  refine wpAnyH_ready (rs := [12]) (by kernel_rfl) (by simp) ?_
                  refine AllReadyH.cons rfl (fun K hK => ?_) AllReadyH.nil
                  go_simp
                  refine hK.out _ _ trivial (fun _ => ?_)
                  clear hK K
                  refine wpAnyH_done (by kernel_rfl) ?_ _
                  go_wp2_with fail
                  exact ⟨FY.out.1, by rw [HRG.out.left_eq]; exact FY.out.2⟩
              · skip
                go_simp
                refine hK.out _ _ trivial (fun _ => ?_)
                clear hK K
                refine wpAnyH_ready (rs := [0]) (by kernel_rfl) (by simp) ?_
                refine AllReadyH.cons rfl (fun K hK => ?_) AllReadyH.nil
                go_simp
                refine hK.out _ _ trivial (fun _ => ?_)
                clear hK K
                refine wpAnyH_ready (rs := [4]) (by kernel_rfl) (by simp) ?_
                refine AllReadyH.cons rfl (fun K hK => ?_) AllReadyH.nil
                refine step_append_run rfl (.tmp 26) (.tmp 29) 30 rfl _ _ rfl rfl _ _ qz1 30 rfl ?_
                simp only [Act.put, List.setIfInBounds_toArray, List.set_cons_zero, List.set_cons_succ]
                refine hK.out _ _ trivial (fun _ => ?_)
                clear hK K
                refine wpAnyH_ready (rs := [7]) (by kernel_rfl) (by simp) ?_
                refine AllReadyH.cons rfl (fun K hK => ?_) AllReadyH.nil
                refine step_append_run rfl (.tmp 30) (.tmp 32) 30 rfl _ _ rfl rfl _ _ qz2 33 rfl ?_
                simp only [Act.put, List.setIfInBounds_toArray, List.set_cons_zero, List.set_cons_succ]
                refine hK.out _ _ trivial (fun _ => ?_)
                clear hK K
                refine wpAnyH_ready (rs := [11]) (by kernel_rfl) (by simp) ?_
                refine AllReadyH.cons rfl (fun K hK => ?_) AllReadyH.nil
                refine step_append_run rfl (.tmp 33) (.tmp 36) 30 rfl _ _ rfl rfl _ _ qz3 37 rfl ?_
                simp only [Act.put, List.setIfInBounds_toArray, List.set_cons_zero, List.set_cons_succ]
                refine hK.out _ _ trivial (fun _ => ?_)
                clear hK K
                refine wpAnyH_ready (rs := [12]) (by kernel_rfl) (by simp) ?_
                refine AllReadyH.cons rfl (fun K hK => ?_) AllReadyH.nil
                go_simp
                refine hK.out _ _ trivial (fun _ => ?_)
                clear hK K
                refine wpAnyH_done (by kernel_rfl) ?_ _
                go_wp2_with fail
                exact ⟨FZ.out.1, by rw [HRG.out.left_eq]; exact FZ.out.2⟩
            · replace s3 := s3 ⟨lg, k, none⟩ (lc - k)
              have i7 : ¬ (lc : Int) = (k : Int) := by omega
              obtain ⟨⟨gX1, cX1, WX1, qX1, gX2, cX2, WX2, gX3, cX3, WX3, qX2, qX3, rowX, tX⟩, ⟨gY1, cY1, WY1, qY1, gY2, cY2, WY2, gY3, cY3, WY3, qY2, qY3, rowY, tY⟩, ⟨gZ1, cZ1, WZ1, qZ1, gZ2, cZ2, WZ2, gZ3, cZ3, WZ3, qZ2, qZ3, rowZ, tZ⟩⟩ := ins_orders (B := wr.heap.size) (W := wr.drew) (l := l) (s := x) (i := k) (x1 := .slice (some ⟨lg, 0, none⟩) k lc) (x3 := .slice (some ⟨lg, k, none⟩) 0 (lc - k)) (by omega) (by omega) (Nat.le_refl _) s1 s3
              have FX := hide (HFIN.out _ _ tX rowX hz)
              have FY := hide (HFIN.out _ _ tY rowY hz)
              have FZ := hide (HFIN.out _ _ tZ rowZ hz)
              have qx1 := qX1 30
              have qx2 := qX2 30
              have qx3 := qX3 30
              have qy1 := qY1 30
              have qy2 := qY2 30
              have qy3 := qY3 30
              have qz1 := qZ1 30
              have qz2 := qZ2 30
              have qz3 := qZ3 30
              clear hll
              clear tX rowX tY rowY tZ rowZ qX1 qX2 qX3 qY1 qY2 qY3 qZ1 qZ2 qZ3 s1 s3 hz
              go_wp2_with fail
              refine wp_region_held_drew (S := fun _ => True) (by kernel_rfl) trivial (fun _ => ?_)
              change wpAnyH _ _ _ _ _ 13 (Array.replicate 13 false) _ _
              refine wpAnyH_take (i := 1) (oi := ⟨some 27, .move (.tmp 3), 30, "ref.go:248", #[], none⟩) (v := .slice (some ⟨lg, 0, none⟩) k lc) rfl (by kernel_rfl) (by kernel_rfl) (by kernel_rfl) (fun _ _ _ h => h) (Or.inl ⟨by rfl, ?_⟩) trivial ?_
              · intro w hSw
                go_simp
              simp only [Act.put, List.setIfInBounds_toArray, List.set_cons_zero, List.set_cons_succ]
              refine wpAnyH_take (i := 2) (oi := ⟨some 28, .move (.tmp 5), 3, "ref.go:248", #[], none⟩) (v := .int .i64 (k : Nat)) rfl (by kernel_rfl) (by kernel_rfl) (by kernel_rfl) (fun _ _ _ h => h) (Or.inl ⟨by rfl, ?_⟩) trivial ?_
              · intro w hSw
                go_simp
              simp only [Act.put, List.setIfInBounds_toArray, List.set_cons_zero, List.set_cons_succ]
              refine wpAnyH_take (i := 3) (oi := ⟨some 29, .slice 30 (.tmp 27) none (some (.tmp 28)) none, 30, "ref.go:248", #[⟨1, .data⟩, ⟨2, .data⟩], none⟩) (v := .slice (some ⟨lg, 0, none⟩) k lc) rfl (by kernel_rfl) (by kernel_rfl) (by kernel_rfl) (fun _ _ _ h => h) (Or.inl ⟨by rfl, ?_⟩) trivial ?_
              · intro w hSw
                go_simp
              simp only [Act.put, List.setIfInBounds_toArray, List.set_cons_zero, List.set_cons_succ]
              refine wpAnyH_take (i := 5) (oi := ⟨some 31, .move (.tmp 4), 9, "ref.go:248", #[], none⟩) (v := .string ⟨x.toArray⟩) rfl (by kernel_rfl) (by kernel_rfl) (by kernel_rfl) (fun _ _ _ h => h) (Or.inl ⟨by rfl, ?_⟩) trivial ?_
              · intro w hSw
                go_simp
              simp only [Act.put, List.setIfInBounds_toArray, List.set_cons_zero, List.set_cons_succ]
              refine wpAnyH_take (i := 8) (oi := ⟨some 34, .move (.tmp 3), 30, "ref.go:248", #[], none⟩) (v := .slice (some ⟨lg, 0, none⟩) k lc) rfl (by kernel_rfl) (by kernel_rfl) (by kernel_rfl) (fun _ _ _ h => h) (Or.inl ⟨by rfl, ?_⟩) trivial ?_
              · intro w hSw
                go_simp
              simp only [Act.put, List.setIfInBounds_toArray, List.set_cons_zero, List.set_cons_succ]
              refine wpAnyH_take (i := 9) (oi := ⟨some 35, .move (.tmp 5), 3, "ref.go:248", #[], none⟩) (v := .int .i64 (k : Nat)) rfl (by kernel_rfl) (by kernel_rfl) (by kernel_rfl) (fun _ _ _ h => h) (Or.inl ⟨by rfl, ?_⟩) trivial ?_
              · intro w hSw
                go_simp
              simp only [Act.put, List.setIfInBounds_toArray, List.set_cons_zero, List.set_cons_succ]
              refine wpAnyH_take (i := 10) (oi := ⟨some 36, .slice 30 (.tmp 34) (some (.tmp 35)) none none, 30, "ref.go:248", #[⟨8, .data⟩, ⟨9, .data⟩], none⟩) (v := .slice (some ⟨lg, k, none⟩) 0 (lc - k)) rfl (by kernel_rfl) (by kernel_rfl) (by kernel_rfl) (fun _ _ _ h => h) (Or.inl ⟨by rfl, ?_⟩) trivial ?_
              · intro w hSw
                go_simp
              simp only [Act.put, List.setIfInBounds_toArray, List.set_cons_zero, List.set_cons_succ]
              refine wpAnyH_ready (rs := [0, 6]) (by kernel_rfl) (by simp) ?_
              refine AllReadyH.cons rfl (fun K hK => ?_) (AllReadyH.cons rfl (fun K hK => ?_) AllReadyH.nil)
              · skip
                go_simp
                refine hK.out _ _ trivial (fun _ => ?_)
                clear hK K
                refine wpAnyH_ready (rs := [4, 6]) (by kernel_rfl) (by simp) ?_
                refine AllReadyH.cons rfl (fun K hK => ?_) (AllReadyH.cons rfl (fun K hK => ?_) AllReadyH.nil)
                · skip
                  refine step_append_run rfl (.tmp 26) (.tmp 29) 30 rfl _ _ rfl rfl _ _ qx1 30 rfl ?_
                  simp only [Act.put, List.setIfInBounds_toArray, List.set_cons_zero, List.set_cons_succ]
                  refine hK.out _ _ trivial (fun _ => ?_)
                  clear hK K
                  refine wpAnyH_ready (rs := [6]) (by kernel_rfl) (by simp) ?_
                  refine AllReadyH.cons rfl (fun K hK => ?_) AllReadyH.nil
                  go_simp
                  refine hK.out _ _ trivial (fun _ => ?_)
                  clear hK K
                  refine wpAnyH_ready (rs := [7]) (by kernel_rfl) (by simp) ?_
                  refine AllReadyH.cons rfl (fun K hK => ?_) AllReadyH.nil
                  refine step_append_run rfl (.tmp 30) (.tmp 32) 30 rfl _ _ rfl rfl _ _ qx2 33 rfl ?_
                  simp only [Act.put, List.setIfInBounds_toArray, List.set_cons_zero, List.set_cons_succ]
                  refine hK.out _ _ trivial (fun _ => ?_)
                  clear hK K
                  refine wpAnyH_ready (rs := [11]) (by kernel_rfl) (by simp) ?_
                  refine AllReadyH.cons rfl (fun K hK => ?_) AllReadyH.nil
                  refine step_append_run rfl (.tmp 33) (.tmp 36) 30 rfl _ _ rfl rfl _ _ qx3 37 rfl ?_
                  simp only [Act.put, List.setIfInBounds_toArray, List.set_cons_zero, List.set_cons_succ]
                  refine hK.out _ _ trivial (fun _ => ?_)
                  clear hK K
                  refine wpAnyH_ready (rs := [12]) (by kernel_rfl) (by simp) ?_
                  refine AllReadyH.cons rfl (fun K hK => ?_) AllReadyH.nil
                  go_simp
                  refine hK.out _ _ trivial (fun _ => ?_)
                  clear hK K
                  refine wpAnyH_done (by kernel_rfl) ?_ _
                  go_wp2_with fail
                  exact ⟨FX.out.1, by rw [HRG.out.left_eq]; exact FX.out.2⟩
                · skip
                  go_simp
                  refine hK.out _ _ trivial (fun _ => ?_)
                  clear hK K
                  refine wpAnyH_ready (rs := [4]) (by kernel_rfl) (by simp) ?_
                  refine AllReadyH.cons rfl (fun K hK => ?_) AllReadyH.nil
                  refine step_append_run rfl (.tmp 26) (.tmp 29) 30 rfl _ _ rfl rfl _ _ qy1 30 rfl ?_
                  simp only [Act.put, List.setIfInBounds_toArray, List.set_cons_zero, List.set_cons_succ]
                  refine hK.out _ _ trivial (fun _ => ?_)
                  clear hK K
                  refine wpAnyH_ready (rs := [7]) (by kernel_rfl) (by simp) ?_
                  refine AllReadyH.cons rfl (fun K hK => ?_) AllReadyH.nil
                  refine step_append_run rfl (.tmp 30) (.tmp 32) 30 rfl _ _ rfl rfl _ _ qy2 33 rfl ?_
                  simp only [Act.put, List.setIfInBounds_toArray, List.set_cons_zero, List.set_cons_succ]
                  refine hK.out _ _ trivial (fun _ => ?_)
                  clear hK K
                  refine wpAnyH_ready (rs := [11]) (by kernel_rfl) (by simp) ?_
                  refine AllReadyH.cons rfl (fun K hK => ?_) AllReadyH.nil
                  refine step_append_run rfl (.tmp 33) (.tmp 36) 30 rfl _ _ rfl rfl _ _ qy3 37 rfl ?_
                  simp only [Act.put, List.setIfInBounds_toArray, List.set_cons_zero, List.set_cons_succ]
                  refine hK.out _ _ trivial (fun _ => ?_)
                  clear hK K
                  refine wpAnyH_ready (rs := [12]) (by kernel_rfl) (by simp) ?_
                  refine AllReadyH.cons rfl (fun K hK => ?_) AllReadyH.nil
                  go_simp
                  refine hK.out _ _ trivial (fun _ => ?_)
                  clear hK K
                  refine wpAnyH_done (by kernel_rfl) ?_ _
                  go_wp2_with fail
                  exact ⟨FY.out.1, by rw [HRG.out.left_eq]; exact FY.out.2⟩
              · skip
                go_simp
                refine hK.out _ _ trivial (fun _ => ?_)
                clear hK K
                refine wpAnyH_ready (rs := [0]) (by kernel_rfl) (by simp) ?_
                refine AllReadyH.cons rfl (fun K hK => ?_) AllReadyH.nil
                go_simp
                refine hK.out _ _ trivial (fun _ => ?_)
                clear hK K
                refine wpAnyH_ready (rs := [4]) (by kernel_rfl) (by simp) ?_
                refine AllReadyH.cons rfl (fun K hK => ?_) AllReadyH.nil
                refine step_append_run rfl (.tmp 26) (.tmp 29) 30 rfl _ _ rfl rfl _ _ qz1 30 rfl ?_
                simp only [Act.put, List.setIfInBounds_toArray, List.set_cons_zero, List.set_cons_succ]
                refine hK.out _ _ trivial (fun _ => ?_)
                clear hK K
                refine wpAnyH_ready (rs := [7]) (by kernel_rfl) (by simp) ?_
                refine AllReadyH.cons rfl (fun K hK => ?_) AllReadyH.nil
                refine step_append_run rfl (.tmp 30) (.tmp 32) 30 rfl _ _ rfl rfl _ _ qz2 33 rfl ?_
                simp only [Act.put, List.setIfInBounds_toArray, List.set_cons_zero, List.set_cons_succ]
                refine hK.out _ _ trivial (fun _ => ?_)
                clear hK K
                refine wpAnyH_ready (rs := [11]) (by kernel_rfl) (by simp) ?_
                refine AllReadyH.cons rfl (fun K hK => ?_) AllReadyH.nil
                refine step_append_run rfl (.tmp 33) (.tmp 36) 30 rfl _ _ rfl rfl _ _ qz3 37 rfl ?_
                simp only [Act.put, List.setIfInBounds_toArray, List.set_cons_zero, List.set_cons_succ]
                refine hK.out _ _ trivial (fun _ => ?_)
                clear hK K
                refine wpAnyH_ready (rs := [12]) (by kernel_rfl) (by simp) ?_
                refine AllReadyH.cons rfl (fun K hK => ?_) AllReadyH.nil
                go_simp
                refine hK.out _ _ trivial (fun _ => ?_)
                clear hK K
                refine wpAnyH_done (by kernel_rfl) ?_ _
                go_wp2_with fail
                exact ⟨FZ.out.1, by rw [HRG.out.left_eq]; exact FZ.out.2⟩
end Go.Proofs.Ytefjljdgdoklmaa

/-
  The document's Names.
-/
namespace Go.Proofs.Ytefjljdgdoklmaa
open Go.RowKit Go.Maps

set_option maxRecDepth 100000 in
set_option maxHeartbeats 1000000 in
theorem rnames_rep (A : Nat → Prop) (q : Nat) (r : RDisk) (w : World) (h : RRep A w q r) (hn : RNum r) (hsz : Maps.size r.now ≤ 1000000) :
    Calls Try.prog 67 #[.pointer (some ⟨q, 0, none⟩)] w fun e w' => ∃ v, e = .returned v ∧ SRow w' w.heap.size v ((strKeys r.now).mergeSort leB) ∧ Below w.heap.size w w' := by
  have H := hide h
  have HN := hide hn
  have HS := hide hsz
  clear h hn hsz
  go_enter Try.func67, Try.ntmps67
  go_wp2_with fail
  refine (rnow_rep A q r _ H.out HN.out).mono ?_
  rintro e w1 ⟨N, rfl, d1, b1⟩
  have D1 := hide d1
  have B1 := hide b1
  clear d1 b1
  go_wp2_with fail
  refine (rsorted_any w.heap.size N r.now w1 D1.out HS.out).mono ?_
  rintro e w2 ⟨v, rfl, hr, b2⟩
  have HR := hide hr
  have B2 := hide b2
  clear hr b2
  go_wp2_with fail
  go_ret
  have hsz := B1.out.size
  refine ⟨v, rfl, ?_, B1.out.trans (B2.out.mono hsz)⟩
  rcases HR.out with h | ⟨g, c, n, h1, h2, h3, h4, h5⟩
  · exact .inl h
  · exact .inr ⟨g, c, n, h1, h2, h3, by omega, h5⟩
end Go.Proofs.Ytefjljdgdoklmaa
