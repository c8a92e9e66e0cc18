/-
  An entry's bytes, put behind bytes of one's own.
-/
import Derived.Test.YtolaaodhnhdadaaB2
import Derived.Test.YtolaaodhnhdadaaAp
namespace Go.Proofs.Ytolaaodhnhdadaa
open Go.RowKit
set_option maxRecDepth 100000
set_option maxHeartbeats 4000000
def shorts (l : List Nat) : List (BitVec 8) := l.flatMap short
theorem shorts_len (l : List Nat) : (shorts l).length = lens l := by
  induction l with
  | nil => rfl
  | cons x r ih => simp only [shorts, List.flatMap_cons, List.length_append, lens, List.map_cons, List.sum_cons] at ih ⊢; omega
theorem shorts_snoc (l : List Nat) (x : Nat) : shorts (l ++ [x]) = shorts l ++ short x := by simp [shorts]
theorem entB_shorts (s : Nat) (e : Ent) : entB s e = shorts (numsOf s e) ++ e.key.drop s ++ e.val := by
  simp [entB, shorts, numsOf]
theorem appendEntry_any (g c : Nat) (bs : List (BitVec 8)) (m : Nat) (hm : m = bs.length) (x : Tow) (hc : chk1 x.e = 0) (s : Nat) (hs : s ≤ x.e.key.length) (hcap : x.e.key.length ≤ x.kc) (w : World) (hmc : m ≤ c) (hrow : RowB w g c bs) (hb : m ≤ 600000000)
    (hkey : ∀ w', Turns (fun k => k = g) w w' → Bytes w' x.kv x.e.key) (hval : ∀ w', Turns (fun k => k = g) w w' → Bytes w' x.vv x.e.val) :
    Calls Try.prog 22 #[.slice (some ⟨g, 0, none⟩) m c, .agg #[x.kv, .int .u64 (x.e.seq : Nat), .int .i64 x.e.kind, x.vv], .int .i64 (s : Nat)] w fun e w' => ∃ g' c', e = .returned (.slice (some ⟨g', 0, none⟩) (m + (entB s x.e).length) c') ∧ m + (entB s x.e).length ≤ c' ∧ RowB w' g' c' (bs ++ entB s x.e) ∧ Grow g w g' w' := by
  obtain ⟨h1, h2, h3, h4, h5, h6⟩ := chk1_fine hc
  have hglt : g < w.heap.size := by
    obtain ⟨cs, h1, _⟩ := hrow
    exact lt_of_heap h1
  have hlen := entB_len s x.e
  have heq := entB_shorts s x.e
  have hnl := numsOf_lt hc hs
  have hN : numsOf s x.e = [s, x.e.key.length - s, x.e.seq * 4 + x.e.kind.toNat, x.e.val.length] := rfl
  have HN := hide (fun u => numbers_any x hc s hs u)
  have HLEN := hide hlen
  have HEQ := hide heq
  generalize numsOf s x.e = ns at *
  have HNL := hide hnl
  have HNS := hide hN
  generalize entB s x.e = EB at *
  obtain ⟨ka, kc, va, vc, key, seq, kind, val⟩ := x
  simp only [Tow.kv, Tow.vv] at *
  have b0 := (Below.refl w.heap.size w).alloc (Nat.le_refl _) (.cells #[.slice ka key.length kc, .int .u64 (seq : Nat), .int .i64 kind, .slice va val.length vc] 28)
  have hbox := heap_alloc_new w (.cells #[.slice ka key.length kc, .int .u64 (seq : Nat), .int .i64 kind, .slice va val.length vc] 28)
  have hrow0 := RowC.below hrow b0
  have HB0 := hide b0
  have HBOX := hide hbox
  have HROW := hide hrow0
  have HM := hide hm
  have HK := hide (fun w' (t : Turns (fun k => k = g) _ w') => hkey w' ((Turns.of_below b0 _).trans t))
  have HV := hide (fun w' (t : Turns (fun k => k = g) _ w') => hval w' ((Turns.of_below b0 _).trans t))
  have hsz : (w.alloc (.cells #[.slice ka key.length kc, .int .u64 (seq : Nat), .int .i64 kind, .slice va val.length vc] 28)).heap.size = w.heap.size + 1 := by simp
  have HSZ := hide hsz
  have HNE := hide h4
  clear hc h1 h2 h3 h4 hlen heq hnl hN b0 hbox hrow0 hrow hkey hval hm hsz
  generalize hL : key.length = L at *
  generalize hV : val.length = V at *
  generalize hX : seq * 4 + kind.toNat = X at *
  have HL := hide hL
  have HV' := hide hV
  clear hX hL hV
  go_enter Try.func22, Try.ntmps22
  go_wp2_with fail
  generalize w.alloc (.cells #[.slice ka L kc, .int .u64 (seq : Nat), .int .i64 kind, .slice va V vc] 28) = w0 at *
  refine (HN.out _).mono ?_
  rintro e w1 ⟨rfl, b1⟩
  have B1 := hide b1
  clear b1
  go_wp2_with fail
  go_loopw [0, 12] (fun v i wr => ∃ k g1 c1 m1 : Nat, v = .slice (some ⟨g1, 0, none⟩) m1 c1 ∧ i = .int .i64 (k : Nat) ∧ k ≤ 4 ∧ m1 = m + lens (ns.take k) ∧ m1 ≤ c1 ∧ RowB wr g1 c1 (bs ++ shorts (ns.take k)) ∧ Grow g w0 g1 wr) (fun _ i _ => 4 - (intOf i).toNat)
  case atStart => exact ⟨0, g, c, m, rfl, rfl, by omega, by simp [lens], hmc, by rw [List.take_zero]; simp only [shorts, List.flatMap_nil, List.append_nil]; exact RowC.below HROW.out B1.out, .inl rfl, Turns.of_below B1.out _⟩
  case round =>
    obtain ⟨k, g1, c1, m1, rfl, rfl, hk, hm1, hmc1, hrow1, hg1⟩ := hrel
    have hle := lens_le (ns.take k) fun y hy => HNL.out y (List.mem_of_mem_take hy)
    rw [List.length_take] at hle
    have hcase : k = 0 ∨ k = 1 ∨ k = 2 ∨ k = 3 ∨ k = 4 := by omega
    have stepL : ∀ j y, ns[j]? = some y → lens (ns.take (j + 1)) = lens (ns.take j) + (short y).length := fun j y hy => by
      obtain ⟨hj, e⟩ := List.getElem?_eq_some_iff.1 hy
      rw [List.take_succ_eq_append_getElem hj, lens_snoc, e]
    have stepS : ∀ j y, ns[j]? = some y → shorts (ns.take (j + 1)) = shorts (ns.take j) ++ short y := fun j y hy => by
      obtain ⟨hj, e⟩ := List.getElem?_eq_some_iff.1 hy
      rw [List.take_succ_eq_append_getElem hj, shorts_snoc, e]
    have SL := hide stepL
    have SS := hide stepS
    have hbd : m1 ≤ 600001000 := by omega
    have HM1 := hide hm1
    have HR1 := hide hrow1
    have HG1 := hide hg1
    clear hle stepL stepS hm1 hrow1 hg1
    rcases hcase with rfl | rfl | rfl | rfl | rfl
    · have hy := HNL.out s (by rw [HNS.out]; simp)
      have SL1 := hide (SL.out 0 s (by rw [HNS.out]; rfl))
      have SS1 := hide (SS.out 0 s (by rw [HNS.out]; rfl))
      have hl := short_len s hy
      have ix := idx0 (s : Nat) ((L - s : Nat) : Int) (X : Nat) (V : Nat)
      go_wp2_with fail
      refine (number_nil s hy _).mono ?_
      rintro e w2 ⟨gn, cn, rfl, hgn, hrown, bn⟩
      obtain ⟨g2, c2, w3, hr, hc2, hrow2, hb2⟩ := append_grow w2 g1 m1 c1 _ (by rw [List.length_append, shorts_len, ← HM.out]; exact HM1.out) (.slice (some ⟨gn, 0, none⟩) (short s).length cn) (short s) _ rfl (RowB.bytes hrown rfl) hmc1 (RowC.below HR1.out bn) (by omega)
      have HA := hide hr
      have HR2 := hide hrow2
      have HG2 := hide (HG1.out.trans (hb2.before bn))
      clear hr hrow2 hb2 hrown bn ix
      generalize hY : (short s).length = Y at *
      have HY := hide hY
      clear hY
      go_wp2_with (at_builtin; refine wpList_append_run rfl (.tmp 15) (.tmp 17) 22 rfl (.slice (some ⟨g1, 0, none⟩) m1 c1) (.slice (some ⟨gn, 0, none⟩) Y cn) rfl rfl _ _ (HA.out _) ?_)
      go_roundw
      case rel => exact ⟨0 + 1, g2, c2, m1 + Y, rfl, by go_num, by omega, by rw [SL1.out, HM1.out]; omega, hc2, by rw [SS1.out, ← List.append_assoc]; exact HR2.out, HG2.out⟩
      case measure => simp [intOf]
    · have hy := HNL.out (L - s) (by rw [HNS.out]; simp)
      have SL1 := hide (SL.out 1 (L - s) (by rw [HNS.out]; rfl))
      have SS1 := hide (SS.out 1 (L - s) (by rw [HNS.out]; rfl))
      have hl := short_len (L - s) hy
      have ix := idx1 (s : Nat) ((L - s : Nat) : Int) (X : Nat) (V : Nat)
      go_wp2_with fail
      refine (number_nil (L - s) hy _).mono ?_
      rintro e w2 ⟨gn, cn, rfl, hgn, hrown, bn⟩
      obtain ⟨g2, c2, w3, hr, hc2, hrow2, hb2⟩ := append_grow w2 g1 m1 c1 _ (by rw [List.length_append, shorts_len, ← HM.out]; exact HM1.out) (.slice (some ⟨gn, 0, none⟩) (short (L - s)).length cn) (short (L - s)) _ rfl (RowB.bytes hrown rfl) hmc1 (RowC.below HR1.out bn) (by omega)
      have HA := hide hr
      have HR2 := hide hrow2
      have HG2 := hide (HG1.out.trans (hb2.before bn))
      clear hr hrow2 hb2 hrown bn ix
      generalize hY : (short (L - s)).length = Y at *
      have HY := hide hY
      clear hY
      go_wp2_with (at_builtin; refine wpList_append_run rfl (.tmp 15) (.tmp 17) 22 rfl (.slice (some ⟨g1, 0, none⟩) m1 c1) (.slice (some ⟨gn, 0, none⟩) Y cn) rfl rfl _ _ (HA.out _) ?_)
      go_roundw
      case rel => exact ⟨1 + 1, g2, c2, m1 + Y, rfl, by go_num, by omega, by rw [SL1.out, HM1.out]; omega, hc2, by rw [SS1.out, ← List.append_assoc]; exact HR2.out, HG2.out⟩
      case measure => simp [intOf]
    · have hy := HNL.out X (by rw [HNS.out]; simp)
      have SL1 := hide (SL.out 2 X (by rw [HNS.out]; rfl))
      have SS1 := hide (SS.out 2 X (by rw [HNS.out]; rfl))
      have hl := short_len X hy
      have ix := idx2 (s : Nat) ((L - s : Nat) : Int) (X : Nat) (V : Nat)
      go_wp2_with fail
      refine (number_nil X hy _).mono ?_
      rintro e w2 ⟨gn, cn, rfl, hgn, hrown, bn⟩
      obtain ⟨g2, c2, w3, hr, hc2, hrow2, hb2⟩ := append_grow w2 g1 m1 c1 _ (by rw [List.length_append, shorts_len, ← HM.out]; exact HM1.out) (.slice (some ⟨gn, 0, none⟩) (short X).length cn) (short X) _ rfl (RowB.bytes hrown rfl) hmc1 (RowC.below HR1.out bn) (by omega)
      have HA := hide hr
      have HR2 := hide hrow2
      have HG2 := hide (HG1.out.trans (hb2.before bn))
      clear hr hrow2 hb2 hrown bn ix
      generalize hY : (short X).length = Y at *
      have HY := hide hY
      clear hY
      go_wp2_with (at_builtin; refine wpList_append_run rfl (.tmp 15) (.tmp 17) 22 rfl (.slice (some ⟨g1, 0, none⟩) m1 c1) (.slice (some ⟨gn, 0, none⟩) Y cn) rfl rfl _ _ (HA.out _) ?_)
      go_roundw
      case rel => exact ⟨2 + 1, g2, c2, m1 + Y, rfl, by go_num, by omega, by rw [SL1.out, HM1.out]; omega, hc2, by rw [SS1.out, ← List.append_assoc]; exact HR2.out, HG2.out⟩
      case measure => simp [intOf]
    · have hy := HNL.out V (by rw [HNS.out]; simp)
      have SL1 := hide (SL.out 3 V (by rw [HNS.out]; rfl))
      have SS1 := hide (SS.out 3 V (by rw [HNS.out]; rfl))
      have hl := short_len V hy
      have ix := idx3 (s : Nat) ((L - s : Nat) : Int) (X : Nat) (V : Nat)
      go_wp2_with fail
      refine (number_nil V hy _).mono ?_
      rintro e w2 ⟨gn, cn, rfl, hgn, hrown, bn⟩
      obtain ⟨g2, c2, w3, hr, hc2, hrow2, hb2⟩ := append_grow w2 g1 m1 c1 _ (by rw [List.length_append, shorts_len, ← HM.out]; exact HM1.out) (.slice (some ⟨gn, 0, none⟩) (short V).length cn) (short V) _ rfl (RowB.bytes hrown rfl) hmc1 (RowC.below HR1.out bn) (by omega)
      have HA := hide hr
      have HR2 := hide hrow2
      have HG2 := hide (HG1.out.trans (hb2.before bn))
      clear hr hrow2 hb2 hrown bn ix
      generalize hY : (short V).length = Y at *
      have HY := hide hY
      clear hY
      go_wp2_with (at_builtin; refine wpList_append_run rfl (.tmp 15) (.tmp 17) 22 rfl (.slice (some ⟨g1, 0, none⟩) m1 c1) (.slice (some ⟨gn, 0, none⟩) Y cn) rfl rfl _ _ (HA.out _) ?_)
      go_roundw
      case rel => exact ⟨3 + 1, g2, c2, m1 + Y, rfl, by go_num, by omega, by rw [SL1.out, HM1.out]; omega, hc2, by rw [SS1.out, ← List.append_assoc]; exact HR2.out, HG2.out⟩
      case measure => simp [intOf]
    · have hbx := HG1.out.turns.heap HBOX.out (by omega)
      have f0 : wr.cell? ⟨w.heap.size, 0, none⟩ = some (.slice ka L kc) := cell_of_row wr _ 0 _ 28 (0, 0) hbx
      have HBX := hide hbx
      have hk1 := HK.out wr HG1.out.turns
      have hg1n : w.heap.size ≠ g1 := by
        rcases HG1.out.own with e | e
        · omega
        · have := HSZ.out; omega
      have hV1 := HV.out wr HG1.out.turns
      have hkl : 0 < L := by have := HL.out; rcases Nat.eq_zero_or_pos L with q | q; exact absurd (List.eq_nil_of_length_eq_zero (this.trans q)) HNE.out; exact q
      obtain ⟨kb, ko, rfl⟩ := hk1.addr hkl
      have HK1 := hide hk1
      clear hbx hk1 hV1
      have i1 : (s : Int) ≤ (L : Int) := by omega
      have i2 : (L : Int) ≤ (kc : Int) := by omega
      by_cases hcs : s = kc
      · subst hcs
        have f3 : wr.cell? ⟨w.heap.size, 3, none⟩ = some (.slice va V vc) := cell_of_row wr _ 3 _ 28 (0, 0) HBX.out
        obtain ⟨g3, c3, w5, hr3, hc3, hrow3, hb3⟩ := append_grow wr g1 m1 c1 _ (by rw [List.length_append, shorts_len, ← HM.out]; exact HM1.out) (.slice va V vc) val V HV'.out.symm (HV.out wr HG1.out.turns) hmc1 HR1.out (by omega)
        have HA3 := hide hr3
        have HR3 := hide hrow3
        have HG3 := hide ((HG1.out.trans hb3).before HB0.out)
        have hfin : m1 + V = m + EB.length := by rw [HLEN.out, HM1.out, List.take_of_length_le (by rw [HNS.out]; simp)]; omega
        have HFIN := hide hfin
        have HD := hide (show key.drop s = [] from List.drop_of_length_le (by rw [HL.out]; omega))
        clear hr3 hrow3 hb3 hfin
        go_wp2_with (at_builtin; refine wpList_append_run rfl (.tmp 26) (.tmp 28) 22 rfl (.slice (some ⟨g1, 0, none⟩) m1 c1) (.slice va V vc) rfl rfl _ _ (HA3.out _) ?_)
        go_ret
        refine ⟨g3, c3, ?_, ?_, ?_, HG3.out⟩
        · rw [← HFIN.out]; rfl
        · rw [← HFIN.out]; exact hc3
        · have h9 := HR3.out
          rw [List.take_of_length_le (by rw [HNS.out]; simp)] at h9
          rw [HEQ.out, HD.out, List.append_nil, ← List.append_assoc]
          exact h9
      · have hcs' : ¬ (s : Int) = (kc : Int) := by omega
        obtain ⟨g2, c2, w4, hr, hc2, hrow2, hb2⟩ := append_grow wr g1 m1 c1 _ (by rw [List.length_append, shorts_len, ← HM.out]; exact HM1.out) (.slice (some ⟨kb, ko + s, none⟩) (L - s) (kc - s)) (key.drop s) (L - s) (by rw [List.length_drop, HL.out]) (by have := bytes_add HK1.out s hs (kc - s); rwa [Go.WideShapes.add_plain] at this) hmc1 HR1.out (by omega)
        have hG2 := HG1.out.trans hb2
        have hbx2 := hb2.turns.heap HBX.out hg1n
        have f3 : w4.cell? ⟨w.heap.size, 3, none⟩ = some (.slice va V vc) := cell_of_row w4 _ 3 _ 28 (0, 0) hbx2
        obtain ⟨g3, c3, w5, hr3, hc3, hrow3, hb3⟩ := append_grow w4 g2 (m1 + (L - s)) c2 _ (by rw [List.length_append, List.length_append, List.length_drop, HL.out, shorts_len, ← HM.out, HM1.out]) (.slice va V vc) val V HV'.out.symm (HV.out w4 hG2.turns) hc2 hrow2 (by omega)
        have HA := hide hr
        have HA3 := hide hr3
        have HR3 := hide hrow3
        have HG3 := hide ((hG2.trans hb3).before HB0.out)
        have hfin : m1 + (L - s) + V = m + EB.length := by rw [HLEN.out, HM1.out, List.take_of_length_le (by rw [HNS.out]; simp)]; omega
        have HFIN := hide hfin
        clear hr hr3 hrow2 hrow3 hb2 hb3 hG2 hbx2 hfin
        go_wp2_with (first
          | (at_builtin; refine wpList_append_run rfl (.tmp 20) (.tmp 24) 22 rfl (.slice (some ⟨g1, 0, none⟩) m1 c1) (.slice (some ⟨kb, ko + s, none⟩) (L - s) (kc - s)) rfl rfl _ _ (HA.out _) ?_)
          | (at_builtin; refine wpList_append_run rfl (.tmp 26) (.tmp 28) 22 rfl (.slice (some ⟨g2, 0, none⟩) (m1 + (L - s)) c2) (.slice va V vc) rfl rfl _ _ (HA3.out _) ?_))
        go_ret
        refine ⟨g3, c3, ?_, ?_, ?_, HG3.out⟩
        · rw [← HFIN.out]; rfl
        · rw [← HFIN.out]; exact hc3
        · have h9 := HR3.out
          rw [List.take_of_length_le (by rw [HNS.out]; simp)] at h9
          rw [HEQ.out, ← List.append_assoc, ← List.append_assoc]
          exact h9
end Go.Proofs.Ytolaaodhnhdadaa
