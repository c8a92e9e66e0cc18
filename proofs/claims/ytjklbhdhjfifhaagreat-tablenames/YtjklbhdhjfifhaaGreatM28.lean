import Derived.Test.YtjklbhdhjfifhaaGreatM25
/-
  The bytes of a block, parted: its entries', and the places behind them.
-/
namespace Go.Proofs.YtjklbhdhjfifhaaGreat
open Go.RowKit
set_option maxRecDepth 100000
set_option maxHeartbeats 4000000
theorem at67 (a : Option Addr) (len c : Nat) (h : 4 ≤ len) (w : World) : (Instr.arrayAt 231 (.slice a len c)).run Tryz.prog w = .ok (.pointer a) w := by
  simp [Instr.arrayAt, Sem.run_bind, show ¬ len < 4 by omega]
theorem split_bad (a : Option Addr) (n c : Nat) (bs : List (BitVec 8)) (w : World) (h : Bytes w (.slice a n c) bs) (hnc : n ≤ c) (hn : n ≤ 100000)
    (hbad : bs.length < 4 ∨ (bs.length - 4) / 4 < at4 bs (bs.length - 4)) :
    Calls Tryz.prog 169 #[.slice a n c] w fun e w' => e = .returned (.tuple #[.slice none 0 0, .slice none 0 0, .bool false]) ∧ Below w.heap.size w w' := by
  have hl := h.len
  have H := hide h
  rw [← hl] at hbad
  have HL := hide hl
  clear h hl
  by_cases h4 : n < 4
  · have h4' : (n : Int) - 4 < 0 := by omega
    go_enter Tryz.func169, Tryz.ntmps169
    go_wp2_with fail
    go_returns
    exact ⟨rfl, Below.refl _ _⟩
  · obtain ⟨e, rfl⟩ : ∃ e, n = e + 4 := ⟨n - 4, by omega⟩
    have hK : e / 4 < at4 bs e := by rcases hbad with q | q; omega; simpa using q
    obtain ⟨b, off, rfl⟩ := H.out.addr (by omega)
    have hlen : bs.length = e + 4 := HL.out.symm
    have d : ∀ j, j < 4 → w.cell? ⟨b, off + e + j, none⟩ = some (.int .u8 ((bs.getD (e + j) 0).toNat : Int)) := fun j hj => by
      rw [show off + e + j = off + (e + j) by omega]
      exact H.out.at (e + j) (by omega)
    have d0 := d 0 (by omega)
    have d1 := d 1 (by omega)
    have d2 := d 2 (by omega)
    have d3 := d 3 (by omega)
    rw [Nat.add_zero, Nat.add_zero] at d0
    have HQ := hide (fun u => number4_any (bs.getD e 0) (bs.getD (e + 1) 0) (bs.getD (e + 2) 0) (bs.getD (e + 3) 0) u)
    have hlt := at4_lt bs e
    have hdef : le4 (bs.getD e 0) (bs.getD (e + 1) 0) (bs.getD (e + 2) 0) (bs.getD (e + 3) 0) = at4 bs e := rfl
    rw [hdef] at HQ
    unfold arr4 at HQ
    generalize (bs.getD e 0).toNat = B0 at *
    generalize (bs.getD (e + 1) 0).toNat = B1 at *
    generalize (bs.getD (e + 2) 0).toNat = B2 at *
    generalize (bs.getD (e + 3) 0).toNat = B3 at *
    generalize at4 bs e = K at *
    have hat := at67 (some ⟨b, off + e, none⟩) 4 (c - e) (by omega)
    have hw1 : IntKind.i64.wrap (e : Int) = (e : Int) := wrapI _ (by omega) (by omega)
    have hK' : ((e / 4 : Nat) : Int) < (K : Int) := by omega
    have hce : ¬ c = e := by omega
    have hce' : ¬ (c : Int) = (e : Int) := by omega
    clear d hdef hbad H HL hlen
    go_enter Tryz.func169, Tryz.ntmps169
    go_wp2_with fail
    refine (HQ.out w).mono ?_
    rintro x w1 ⟨rfl, b1⟩
    have BB := hide b1
    clear b1 HQ
    go_wp2_with fail
    go_returns
    exact ⟨rfl, BB.out⟩
theorem split_ok (a : Option Addr) (n c : Nat) (bs : List (BitVec 8)) (w : World) (h : Bytes w (.slice a n c) bs) (hnc : n ≤ c) (hn : n ≤ 100000)
    (h4 : 4 ≤ bs.length) (hK : at4 bs (bs.length - 4) ≤ (bs.length - 4) / 4) :
    Calls Tryz.prog 169 #[.slice a n c] w fun e w' => ∃ pl, e = .returned (.tuple #[.slice a (bs.length - 4 - 4 * at4 bs (bs.length - 4)) c, pl, .bool true]) ∧ IRow w' w.heap.size pl (pls bs (bs.length - 4 - 4 * at4 bs (bs.length - 4)) (at4 bs (bs.length - 4))) ∧ Below w.heap.size w w' := by
  have hl := h.len
  have H := hide h
  rw [← hl] at h4 hK
  rw [← hl]
  have HL := hide hl
  clear h hl
  obtain ⟨e, rfl⟩ : ∃ e, n = e + 4 := ⟨n - 4, by omega⟩
  rw [Nat.add_sub_cancel] at hK ⊢
  obtain ⟨b, off, rfl⟩ := H.out.addr (by omega)
  have hlen : bs.length = e + 4 := HL.out.symm
  have d : ∀ k j, j < 4 → k ≤ e → w.cell? ⟨b, off + k + j, none⟩ = some (.int .u8 ((bs.getD (k + j) 0).toNat : Int)) := fun k j hj hk => by
    rw [show off + k + j = off + (k + j) by omega]
    exact H.out.at (k + j) (by omega)
  have d0 := d e 0 (by omega) (Nat.le_refl _)
  have d1 := d e 1 (by omega) (Nat.le_refl _)
  have d2 := d e 2 (by omega) (Nat.le_refl _)
  have d3 := d e 3 (by omega) (Nat.le_refl _)
  rw [Nat.add_zero, Nat.add_zero] at d0
  have HD := hide d
  have HQ := hide (fun u => number4_any (bs.getD e 0) (bs.getD (e + 1) 0) (bs.getD (e + 2) 0) (bs.getD (e + 3) 0) u)
  have hlt := at4_lt bs e
  have hdef : le4 (bs.getD e 0) (bs.getD (e + 1) 0) (bs.getD (e + 2) 0) (bs.getD (e + 3) 0) = at4 bs e := rfl
  rw [hdef] at HQ
  unfold arr4 at HQ
  generalize (bs.getD e 0).toNat = B0 at *
  generalize (bs.getD (e + 1) 0).toNat = B1 at *
  generalize (bs.getD (e + 2) 0).toNat = B2 at *
  generalize (bs.getD (e + 3) 0).toNat = B3 at *
  generalize at4 bs e = K at *
  have hat := at67 (some ⟨b, off + e, none⟩) 4 (c - e) (by omega)
  have hw1 : IntKind.i64.wrap (e : Int) = (e : Int) := wrapI _ (by omega) (by omega)
  have hK' : ¬ ((e / 4 : Nat) : Int) < (K : Int) := by omega
  have hce : ¬ c = e := by omega
  have hce' : ¬ (c : Int) = (e : Int) := by omega
  obtain ⟨f, hf⟩ : ∃ f, e = f + 4 * K := ⟨e - 4 * K, by omega⟩
  have hfe : (e : Int) - (K : Int) * 4 = (f : Int) := by omega
  have hwf : IntKind.i64.wrap ((e : Int) - (K : Int) * 4) = (f : Int) := by rw [hfe]; exact wrapI _ (by omega) (by omega)
  have hfs : e - 4 * K = f := by omega
  rw [hfs]
  have HF := hide hf
  clear d hdef H HL hlen hf hfs hfe
  generalize hW : w.heap.size = W0
  have HW := hide hW
  clear hW
  go_enter Tryz.func169, Tryz.ntmps169
  go_wp2_with fail
  refine (HQ.out w).mono ?_
  rintro x w1 ⟨rfl, b1⟩
  have BB := hide b1
  clear b1 HQ d0 d1 d2 d3 hat
  go_wp2_with fail
  go_loopw [3, 8] (fun rs i wr => ∃ j g : Nat, i = .int .i64 (g : Nat) ∧ g = f + 4 * j ∧ j ≤ K ∧ IRow wr W0 rs (pls bs f j) ∧ Below W0 w wr) (fun _ i _ => e + 4 - (intOf i).toNat)
  case atStart => exact ⟨0, f, rfl, rfl, Nat.zero_le _, .inl ⟨rfl, rfl⟩, by rw [← HW.out]; exact BB.out⟩
  case round =>
    obtain ⟨j, g, rfl, hg, hj, hI, hb⟩ := hrel
    have HG := hide hg
    have HI := hide hI
    have HB := hide hb
    have hb' : Below w.heap.size w wr := by rw [HW.out]; exact hb
    have hsz : W0 ≤ wr.heap.size := by have := hb'.size; have := HW.out; omega
    by_cases hjK : j < K
    · have hge : g + 4 ≤ e := by have := HF.out; omega
      have hgi : (g : Int) < (e : Int) := by omega
      have dd : ∀ q, q < 4 → wr.cell? ⟨b, off + g + q, none⟩ = some (.int .u8 ((bs.getD (g + q) 0).toNat : Int)) := fun q hq => by
        have := HD.out g q hq (by omega)
        rw [hb'.cell (p := ⟨b, off + g + q, none⟩) (block_lt_of_cell this), this]
      have d0 := dd 0 (by omega)
      have d1 := dd 1 (by omega)
      have d2 := dd 2 (by omega)
      have d3 := dd 3 (by omega)
      rw [Nat.add_zero, Nat.add_zero] at d0
      have HQ := hide (fun u => number4_any (bs.getD g 0) (bs.getD (g + 1) 0) (bs.getD (g + 2) 0) (bs.getD (g + 3) 0) u)
      have hdef : le4 (bs.getD g 0) (bs.getD (g + 1) 0) (bs.getD (g + 2) 0) (bs.getD (g + 3) 0) = at4 bs g := rfl
      have hlt2 := at4_lt bs g
      rw [hdef] at HQ
      unfold arr4 at HQ
      have HS := hide (show pls bs f j ++ [at4 bs g] = pls bs f (j + 1) by rw [pls_snoc, ← hg])
      generalize (bs.getD g 0).toNat = B0 at *
      generalize (bs.getD (g + 1) 0).toNat = B1 at *
      generalize (bs.getD (g + 2) 0).toNat = B2 at *
      generalize (bs.getD (g + 3) 0).toNat = B3 at *
      generalize at4 bs g = V at *
      have hat := at67 (some ⟨b, off + g, none⟩) (e + 4 - g) (c - g) (by omega)
      have hcg : ¬ c = g := by omega
      have hcg' : ¬ (c : Int) = (g : Int) := by omega
      have hi0 : (0 : Int) ≤ (g : Int) := by omega
      have hi1 : (g : Int) ≤ (e : Int) + 4 := by omega
      clear dd hdef hg hI hb
      go_wp2_with fail
      refine (HQ.out wr).mono ?_
      rintro x w2 ⟨rfl, b2⟩
      obtain ⟨gr, nr, cr, w4, hr, hI4, t4, b4, hg4⟩ := append_int w2 W0 u3 _ (HI.out.keep (Turns.of_below b2 (fun _ => False)) (fun _ _ x => x)) (Nat.le_trans hsz b2.size) (by rw [pls_len]; omega) V
      rw [HS.out] at hI4
      have HA := hide hr
      have HI4 := hide hI4
      have HB4 := hide ((HB.out.trans (b2.mono hsz)).trans b4)
      clear hr hI4 t4 b4 hg4 b2 HQ d0 d1 d2 d3 hat
      go_wp2_with (at_builtin; refine wpList_append_run rfl (.tmp 36) (.tmp 44) 168 rfl u3 (.slice (some ⟨w2.heap.size, 0, none⟩) 1 1) rfl rfl _ _ (HA.out _) ?_)
      go_roundw
      case rel => exact ⟨j + 1, g + 4, by go_num, by rw [HG.out]; omega, by omega, HI4.out, HB4.out⟩
      case measure => simp [intOf]; omega
    · have hge : g = e := by have := HF.out; have : j = K := by omega
                             subst this; omega
      have HJ := hide (show j = K by omega)
      subst hge
      have hfl : f ≤ g + 4 := by have := HF.out; omega
      have hfi : (f : Int) ≤ (g : Int) + 4 := by omega
      have hfc : (f : Int) ≤ (c : Int) := by omega
      have hfc2 : f ≤ c := by omega
      clear hg hI hb hb'
      go_wp2_with fail
      go_returns
      exact ⟨u3, rfl, by rw [← HJ.out]; exact HI.out, HB.out⟩
end Go.Proofs.YtjklbhdhjfifhaaGreat

/-
  Are two entries the same?
-/
namespace Go.Proofs.YtjklbhdhjfifhaaGreat
open Go.RowKit
set_option maxRecDepth 100000
set_option maxHeartbeats 4000000
theorem entryEq_any (ka va ka' va' : Option Addr) (kn kc vn vc kn' kc' vn' vc' s s' : Nat) (k k' : Int) (key val key' val' : List (BitVec 8)) (w : World) (h1 : Bytes w (.slice ka kn kc) key) (h2 : Bytes w (.slice va vn vc) val) (h3 : Bytes w (.slice ka' kn' kc') key') (h4 : Bytes w (.slice va' vn' vc') val') (hk : kn ≤ 1000000) (hv : vn ≤ 1000000) :
    Calls Tryz.prog 24 #[.agg #[.slice ka kn kc, .int .u64 (s : Nat), .int .i64 k, .slice va vn vc], .agg #[.slice ka' kn' kc', .int .u64 (s' : Nat), .int .i64 k', .slice va' vn' vc']] w fun e w' => e = .returned (.bool (decide (s = s' ∧ k = k' ∧ key = key' ∧ val = val'))) ∧ Below w.heap.size w w' := by
  have t0 : Turns (fun _ => False) w ((w.alloc (.cells #[.slice ka kn kc, .int .u64 (s : Nat), .int .i64 k, .slice va vn vc] 35)).alloc (.cells #[.slice ka' kn' kc', .int .u64 (s' : Nat), .int .i64 k', .slice va' vn' vc'] 35)) := ((Turns.refl _ w).alloc _).alloc _
  have HB := hide (t0.below (B := w.heap.size) (Nat.le_refl _) (fun _ x => x.elim))
  have H1 := hide (h1.quiet t0)
  have H2 := hide (h2.quiet t0)
  have H3 := hide (h3.quiet t0)
  have H4 := hide (h4.quiet t0)
  have r0 := heap_keep ((Below.refl _ (w.alloc (.cells #[.slice ka kn kc, .int .u64 (s : Nat), .int .i64 k, .slice va vn vc] 35))).alloc (Nat.le_refl _) (.cells #[.slice ka' kn' kc', .int .u64 (s' : Nat), .int .i64 k', .slice va' vn' vc'] 35)) (heap_alloc_new w (.cells #[.slice ka kn kc, .int .u64 (s : Nat), .int .i64 k, .slice va vn vc] 35))
  have r1 := heap_alloc_new (w.alloc (.cells #[.slice ka kn kc, .int .u64 (s : Nat), .int .i64 k, .slice va vn vc] 35)) (.cells #[.slice ka' kn' kc', .int .u64 (s' : Nat), .int .i64 k', .slice va' vn' vc'] 35)
  rw [show (w.alloc (.cells #[.slice ka kn kc, .int .u64 (s : Nat), .int .i64 k, .slice va vn vc] 35)).heap.size = w.heap.size + 1 by simp] at r1
  have R0 := hide r0
  have R1 := hide r1
  clear h1 h2 h3 h4 t0 r0 r1
  go_enter Tryz.func24, Tryz.ntmps24
  go_upto_region 1 with (fail)
  generalize (w.alloc (.cells #[.slice ka kn kc, .int .u64 (s : Nat), .int .i64 k, .slice va vn vc] 35)).alloc (.cells #[.slice ka' kn' kc', .int .u64 (s' : Nat), .int .i64 k', .slice va' vn' vc'] 35) = w0 at *
  generalize hg0 : w.heap.size = g at *
  have HG := hide hg0
  clear hg0
  have a0 : w0.cell? ⟨g, 0, none⟩ = some (.slice ka kn kc) := cell_of_row w0 (g) 0 _ 35 (0, 0) R0.out
  have a1 : w0.cell? ⟨g, 1, none⟩ = some (.int .u64 (s : Nat)) := cell_of_row w0 (g) 1 _ 35 (0, 0) R0.out
  have a2 : w0.cell? ⟨g, 2, none⟩ = some (.int .i64 k) := cell_of_row w0 (g) 2 _ 35 (0, 0) R0.out
  have a3 : w0.cell? ⟨g, 3, none⟩ = some (.slice va vn vc) := cell_of_row w0 (g) 3 _ 35 (0, 0) R0.out
  have b0 : w0.cell? ⟨g + 1, 0, none⟩ = some (.slice ka' kn' kc') := cell_of_row w0 (g + 1) 0 _ 35 (0, 0) R1.out
  have b1 : w0.cell? ⟨g + 1, 1, none⟩ = some (.int .u64 (s' : Nat)) := cell_of_row w0 (g + 1) 1 _ 35 (0, 0) R1.out
  have b2 : w0.cell? ⟨g + 1, 2, none⟩ = some (.int .i64 k') := cell_of_row w0 (g + 1) 2 _ 35 (0, 0) R1.out
  have b3 : w0.cell? ⟨g + 1, 3, none⟩ = some (.slice va' vn' vc') := cell_of_row w0 (g + 1) 3 _ 35 (0, 0) R1.out
  by_cases e1 : s = s'
  · subst e1
    by_cases e2 : k = k'
    · subst e2
      go_wp2_with fail
      refine (bytes_any ka ka' kn kn' kc kc' key key' w0 H1.out H3.out (by omega)).mono ?_
      rintro e w1 ⟨rfl, m1, rfl⟩
      by_cases e3 : key = key'
      · rw [decide_eq_true e3]
        have HE3 := hide e3
        clear e3
        go_wp2_with fail
        refine (bytes_any va va' vn vn' vc vc' val val' _ (H2.out.drewN m1) (H4.out.drewN m1) (by omega)).mono ?_
        rintro e w2 ⟨rfl, m2, rfl⟩
        generalize hd : decide (val = val') = d
        have HD := hide hd
        clear hd
        go_wp2_with fail
        go_ret
        go_light
        refine ⟨congrArg Ending.returned (congrArg Value.bool ?_), by rw [HG.out]; first | exact belowN HB.out (m1 + m2) | exact belowN (belowN HB.out m1) m2⟩
        rw [← HD.out]
        have q := HE3.out
        simp [q]
      · rw [decide_eq_false e3]
        have HE3 := hide e3
        clear e3
        go_wp2_with fail
        go_ret
        go_light
        exact ⟨congrArg Ending.returned (congrArg Value.bool (by have q := HE3.out; simp [q])), by rw [HG.out]; exact belowN HB.out m1⟩
    · have e2' : (k == k') = false := by simpa using e2
      have HE2 := hide e2
      clear e2
      go_wp2_with fail
      go_ret
      go_light
      exact ⟨congrArg Ending.returned (congrArg Value.bool (by have q := HE2.out; simp [q])), by rw [HG.out]; exact HB.out⟩
  · have e1' : ¬ (s : Int) = (s' : Int) := by omega
    have HE1 := hide e1
    clear e1
    go_wp2_with fail
    go_ret
    go_light
    exact ⟨congrArg Ending.returned (congrArg Value.bool (by have q := HE1.out; simp [q])), by rw [HG.out]; exact HB.out⟩
end Go.Proofs.YtjklbhdhjfifhaaGreat
