import Derived.Test.YtmmcikbedegigaaGreatM26
/-
  VersionBack: the walk.
-/
namespace Go.Proofs.YtmmcikbedegigaaGreat
open Go.RowKit
set_option maxRecDepth 100000
set_option maxHeartbeats 8000000
/-- How the loop stands. -/
structure Bk (w wr : World) (V k : Nat) (pa : Option Addr) (pc p1 p2 p3 : Nat) (L : List Lv) : Prop where
  blk : wr.heap[V]? = some (.cells #[.slice pa 5 pc, .int .u64 (p1 : Nat), .int .u64 (p2 : Nat), .int .u64 (p3 : Nat)] 27 (0, 0))
  ver : VOk wr pa p1 p2 p3 L k
  turn : Turns (fun _ => False) w wr
  new : w.heap.size ≤ V
theorem Bk.quiet {w wr w' : World} {V k : Nat} {pa : Option Addr} {pc p1 p2 p3 : Nat} {L : List Lv} (h : Bk w wr V k pa pc p1 p2 p3 L) (t : Turns (fun _ => False) wr w') : Bk w w' V k pa pc p1 p2 p3 L := ⟨t.heap h.blk fun x => x, h.ver.quiet t, h.turn.trans t, h.new⟩
theorem back_any (a : Option Addr) (n c : Nat) (l : List EdL) (w : World) (h : Eds w a l) (hn : n = l.length) :
    Calls Tryz.prog 3 #[.slice a n c] w fun e w' => e = .returned (.bool true) ∧ Turns (fun _ => False) w w' := by
  have H := hide h
  have HN := hide hn
  clear h hn
  go_enter Tryz.func3, Tryz.ntmps3
  go_wp2_with fail
  refine (lives_any w).mono ?_
  rintro e w1 ⟨rfl, t1⟩
  have T1 := hide t1
  clear t1
  by_cases hn20 : n ≤ 20
  · have i20 : ¬ (20 : Int) < (n : Int) := by omega
    go_wp2_with fail
    refine (first_any w1).mono ?_
    rintro e w2 ⟨G0, L0, rfl, hV0, hL0, t2⟩
    have T2 := hide (T1.out.trans t2)
    have tA := (Turns.refl (fun _ => False) w2).alloc (.cells #[.slice (some ⟨G0, 0, none⟩) 5 5, .int .u64 1, .int .u64 0, .int .u64 0] 27)
    have HB0 := hide (show Bk w (w2.alloc (.cells #[.slice (some ⟨G0, 0, none⟩) 5 5, .int .u64 1, .int .u64 0, .int .u64 0] 27)) w2.heap.size 0 (some ⟨G0, 0, none⟩) 5 1 0 0 L0 from
      ⟨heap_alloc_new w2 _, ⟨hV0.quiet tA, by rw [hL0]; decide, by
        have h1 := cnt_wt L0
        rw [hL0] at h1
        rw [h1]
        exact Nat.le_refl _, by
        have h1 := byts_wt L0
        rw [hL0] at h1
        rw [h1]
        exact Nat.le_refl _⟩, T2.out.trans tA, T2.out.size⟩)
    clear t2 tA hV0 hL0 T1
    unfold verAgg
    go_wp2_with fail
    generalize hw3 : w2.alloc (.cells #[.slice (some ⟨G0, 0, none⟩) 5 5, .int .u64 1, .int .u64 0, .int .u64 0] 27) = w3 at *
    clear hw3
    generalize w2.heap.size = V at *
    clear T2
    go_loopw [4] (fun iv wr => ∃ (k : Nat) (pa : Option Addr) (pc p1 p2 p3 : Nat) (L : List Lv), iv = .int .i64 (k : Nat) ∧ k ≤ n ∧ Bk w wr V k pa pc p1 p2 p3 L) (fun iv _ => n - (intOf iv).toNat)
    case atStart => exact ⟨0, _, _, _, _, _, L0, rfl, Nat.zero_le _, HB0.out⟩
    case round =>
      clear HB0
      obtain ⟨k, pa, pc, p1, p2, p3, L, rfl, hk, hbk⟩ := hrel
      have HB := hide hbk
      clear hbk
      by_cases hkn : k < n
      · obtain ⟨x, hx⟩ : ∃ x, l[k]? = some x := ⟨_, List.getElem?_eq_getElem (by have := HN.out; omega)⟩
        obtain ⟨⟨b, off, ea, hcell⟩, hep⟩ := H.out k x hx
        subst ea
        have i1 : (k : Int) < (n : Int) := by omega
        have i0 : (0 : Int) ≤ (k : Int) := by omega
        have HEP := hide hep
        have HCW := hide (fun (u : World) (t : Turns (fun _ => False) w u) => show u.cell? ⟨b, off + k * 5, none⟩ = some (.slice x.da x.dn x.dc) ∧ u.cell? ⟨b, off + k * 5 + 1, none⟩ = some (.slice x.aa x.an x.ac) ∧ u.cell? ⟨b, off + k * 5 + 2, none⟩ = some (.int .u64 (x.en : Nat)) ∧ u.cell? ⟨b, off + k * 5 + 3, none⟩ = some (.int .u64 (x.es : Nat)) ∧ u.cell? ⟨b, off + k * 5 + 4, none⟩ = some (.int .u64 (x.el : Nat)) from ⟨t.cell (hcell 0 _ rfl) (fun x => x), t.cell (hcell 1 _ rfl) (fun x => x), t.cell (hcell 2 _ rfl) (fun x => x), t.cell (hcell 3 _ rfl) (fun x => x), t.cell (hcell 4 _ rfl) (fun x => x)⟩)
        obtain ⟨e0, e1, e2, e3, e4⟩ := HCW.out wr HB.out.turn
        replace hep := hep.quiet HB.out.turn
        have CS := hide (smallE_any x.da x.dn x.dc x.aa x.an x.ac x.en x.es x.el x.A wr hep.A hep.an hep.ar hep.dr)
        have HSM := hide (show (decide (x.an ≤ 100) && (decide (x.dn ≤ 100) && decide (w64 (addsN x.A : Nat) ≤ 10000))) = true → SmE x from fun q => by
          simp only [Bool.and_eq_true, decide_eq_true_eq] at q
          have := HEP.out.an
          exact ⟨q.1, q.2.1, smallE_fin HEP.out.fit (by omega) q.2.2⟩)
        unfold edAgg at CS
        generalize (decide (x.an ≤ 100) && (decide (x.dn ≤ 100) && decide (w64 (addsN x.A : Nat) ≤ 10000))) = SB at *
        have HK := hide hk
        clear hcell hep hx hk
        go_wp2_with fail
        refine CS.out.mono ?_
        rintro e w4 ⟨rfl, t4⟩
        have T4 := hide t4
        clear t4 CS e0 e1 e2 e3 e4
        cases SB with
        | false =>
          go_wp2_with fail
          go_ret
          exact ⟨rfl, HB.out.turn.trans T4.out⟩
        | true =>
          have hsm := HSM.out rfl
          have HSME := hide hsm
          clear hsm HSM
          have CA := hide (fun (u : World) (t : Turns (fun _ => False) wr u) => applyS_any (pc := pc) (HB.out.ver.quiet t) (by omega) (HEP.out.quiet (HB.out.turn.trans t)) HSME.out)
          unfold verAgg edAgg at CA
          have SK := hide (fun (u : World) (t : Turns (fun _ => False) wr u) => show (u.cell? ⟨V, 0, none⟩ = some (.slice pa 5 pc) ∧ u.cell? ⟨V, 1, none⟩ = some (.int .u64 (p1 : Nat)) ∧ u.cell? ⟨V, 2, none⟩ = some (.int .u64 (p2 : Nat)) ∧ u.cell? ⟨V, 3, none⟩ = some (.int .u64 (p3 : Nat))) ∧ (u.cell? ⟨b, off + k * 5, none⟩ = some (.slice x.da x.dn x.dc) ∧ u.cell? ⟨b, off + k * 5 + 1, none⟩ = some (.slice x.aa x.an x.ac) ∧ u.cell? ⟨b, off + k * 5 + 2, none⟩ = some (.int .u64 (x.en : Nat)) ∧ u.cell? ⟨b, off + k * 5 + 3, none⟩ = some (.int .u64 (x.es : Nat)) ∧ u.cell? ⟨b, off + k * 5 + 4, none⟩ = some (.int .u64 (x.el : Nat))) from
            ⟨⟨t.cell (cell_of_row wr V 0 _ 27 (0, 0) HB.out.blk) (fun x => x), t.cell (cell_of_row wr V 1 _ 27 (0, 0) HB.out.blk) (fun x => x), t.cell (cell_of_row wr V 2 _ 27 (0, 0) HB.out.blk) (fun x => x), t.cell (cell_of_row wr V 3 _ 27 (0, 0) HB.out.blk) (fun x => x)⟩, HCW.out u (HB.out.turn.trans t)⟩)
          have HED := hide (fun (u : World) (t : Turns (fun _ => False) w u) => edIn_sm (HEP.out.quiet t) HSME.out)
          have HSQ := hide (show ∀ d ∈ x.A, d.2.f.seq < 18446744073709551616 from fun d hd => (HEP.out.fit d hd).2.1)
          have HBY := hide (show ((fA x.A).map fun d => keyF d.2).sum ≤ 10000 by rw [addsN_key]; exact HSME.out.by')
          obtain ⟨da, dn, dc, aa, an, ac, en, es, el, D, A⟩ := x
          simp only at *
          generalize hxx : (⟨da, dn, dc, aa, an, ac, en, es, el, D, A⟩ : EdL) = x at *
          have HXX := hide hxx
          clear hxx
          go_upto_region 11 with (fail)
          go_cut [5, 6] from 25 to 87 (fun v5 v6 wc => ∃ (U : Nat) (er : Int) (qa : Option Addr) (qn qc q1 q2 q3 : Nat) (L1 : List Lv), v5 = .pointer (some ⟨U, 0, none⟩) ∧ v6 = .int .i64 er ∧ wc.heap[U]? = some (.cells #[.slice qa qn qc, .int .u64 (q1 : Nat), .int .u64 (q2 : Nat), .int .u64 (q3 : Nat)] 27 (0, 0)) ∧ Turns (fun _ => False) wr wc ∧ wr.heap.size ≤ U ∧ AppS wc (flL L) p1 p2 p3 x k er qa qn q1 q2 q3 L1)
          case first =>
            rename_i kk rest jj kk' m1 m2
            clear rest
            have tV : Turns (fun _ => False) wr w4.drew := T4.out.drew
            refine wp_region_z_drew 10 (S := fun u => (u.cell? ⟨V, 0, none⟩ = some (.slice pa 5 pc) ∧ u.cell? ⟨V, 1, none⟩ = some (.int .u64 (p1 : Nat)) ∧ u.cell? ⟨V, 2, none⟩ = some (.int .u64 (p2 : Nat)) ∧ u.cell? ⟨V, 3, none⟩ = some (.int .u64 (p3 : Nat))) ∧ u.cell? ⟨b, off + k * 5, none⟩ = some (.slice da dn dc) ∧ u.cell? ⟨b, off + k * 5 + 1, none⟩ = some (.slice aa an ac) ∧ u.cell? ⟨b, off + k * 5 + 2, none⟩ = some (.int .u64 (en : Nat)) ∧ u.cell? ⟨b, off + k * 5 + 3, none⟩ = some (.int .u64 (es : Nat)) ∧ u.cell? ⟨b, off + k * 5 + 4, none⟩ = some (.int .u64 (el : Nat))) (by kernel_rfl) (SK.out _ tV) (fun _ => ?_)
            change wpAnyZ _ _ _ _ _ _ 12 (Array.replicate 12 false) _ _
            refine wpAnyZ_take (i := 0) (oi := { dst := some 38, op := Op.load 27 (Operand.tmp 3), type := 27, pos := "law.go:112", after := #[], guard := none }) (v := .agg #[.slice pa 5 pc, .int .u64 (p1 : Nat), .int .u64 (p2 : Nat), .int .u64 (p3 : Nat)]) rfl (by kernel_rfl) (by kernel_rfl) (by kernel_rfl) (by kernel_rfl) (fun _ _ _ h => h) (Or.inl ⟨by rfl, ?_⟩) (SK.out _ tV) ?_
            · rintro w ⟨⟨s0, s1, s2, s3⟩, d0, d1, d2, d3, d4⟩
              go_simp
            simp only [Act.put, List.setIfInBounds_toArray, List.set_cons_zero, List.set_cons_succ]
            refine wpAnyZ_take (i := 1) (oi := { dst := some 39, op := Op.move (Operand.tmp 0), type := 22, pos := "law.go:112", after := #[], guard := none }) (v := .slice (some ⟨b, off, none⟩) n c) rfl (by kernel_rfl) (by kernel_rfl) (by kernel_rfl) (by kernel_rfl) (fun _ _ _ h => h) (Or.inl ⟨by rfl, ?_⟩) (SK.out _ tV) ?_
            · rintro w ⟨⟨s0, s1, s2, s3⟩, d0, d1, d2, d3, d4⟩
              go_simp
            simp only [Act.put, List.setIfInBounds_toArray, List.set_cons_zero, List.set_cons_succ]
            refine wpAnyZ_take (i := 2) (oi := { dst := some 40, op := Op.move (Operand.tmp 4), type := 3, pos := "law.go:112", after := #[], guard := none }) (v := .int .i64 (k : Nat)) rfl (by kernel_rfl) (by kernel_rfl) (by kernel_rfl) (by kernel_rfl) (fun _ _ _ h => h) (Or.inl ⟨by rfl, ?_⟩) (SK.out _ tV) ?_
            · rintro w ⟨⟨s0, s1, s2, s3⟩, d0, d1, d2, d3, d4⟩
              go_simp
            simp only [Act.put, List.setIfInBounds_toArray, List.set_cons_zero, List.set_cons_succ]
            refine wpAnyZ_take (i := 3) (oi := { dst := some 41, op := Op.indexAddr 22 (Operand.tmp 39) (Operand.tmp 40), type := 0, pos := "law.go:112", after := #[{ on := 1, ground := Ground.data }, { on := 2, ground := Ground.data }], guard := none }) (v := .pointer (some ⟨b, off + k * 5, none⟩)) rfl (by kernel_rfl) (by kernel_rfl) (by kernel_rfl) (by kernel_rfl) (fun _ _ _ h => h) (Or.inl ⟨by rfl, ?_⟩) (SK.out _ tV) ?_
            · rintro w ⟨⟨s0, s1, s2, s3⟩, d0, d1, d2, d3, d4⟩
              go_simp
            simp only [Act.put, List.setIfInBounds_toArray, List.set_cons_zero, List.set_cons_succ]
            refine wpAnyZ_take (i := 4) (oi := { dst := some 42, op := Op.load 33 (Operand.tmp 41), type := 33, pos := "law.go:112", after := #[{ on := 3, ground := Ground.data }], guard := none }) (v := .agg #[.slice da dn dc, .slice aa an ac, .int .u64 (en : Nat), .int .u64 (es : Nat), .int .u64 (el : Nat)]) rfl (by kernel_rfl) (by kernel_rfl) (by kernel_rfl) (by kernel_rfl) (fun _ _ _ h => h) (Or.inl ⟨by rfl, ?_⟩) (SK.out _ tV) ?_
            · rintro w ⟨⟨s0, s1, s2, s3⟩, d0, d1, d2, d3, d4⟩
              go_simp
            simp only [Act.put, List.setIfInBounds_toArray, List.set_cons_zero, List.set_cons_succ]
            generalize w4.drew = Wd at *
            refine wpAnyZ_ready (rs := [5, 9]) (by kernel_rfl) (by simp) ?_
            refine AllReadyZ.cons rfl (fun K hK => ?_) (AllReadyZ.cons rfl (fun K hK => ?_) AllReadyZ.nil)
            · go_simp
              refine (CA.out _ tV).mono ?_
              rintro oo u5 ⟨t5, er, qa, qn, qc, q1, q2, q3, L1, rfl, hap⟩
              have tV := tV.trans t5
              clear t5
              go_simp
              refine hK.out _ _ (SK.out _ tV) (fun _ => ?_)
              clear hK K
              refine wpAnyZ_take (i := 6) (oi := { dst := some 37, op := Op.move (Operand.tmp 43), type := 35, pos := "law.go:112", after := #[{ on := 5, ground := Ground.data }], guard := none }) (v := .tuple #[.agg #[.slice qa qn qc, .int .u64 (q1 : Nat), .int .u64 (q2 : Nat), .int .u64 (q3 : Nat)], .int .i64 er]) rfl (by kernel_rfl) (by kernel_rfl) (by kernel_rfl) (by kernel_rfl) (fun _ _ _ h => h) (Or.inl ⟨by rfl, ?_⟩) (SK.out _ tV) ?_
              · rintro w ⟨⟨s0, s1, s2, s3⟩, d0, d1, d2, d3, d4⟩
                go_simp
              simp only [Act.put, List.setIfInBounds_toArray, List.set_cons_zero, List.set_cons_succ]
              refine wpAnyZ_take (i := 7) (oi := { dst := some 44, op := Op.extract (Operand.tmp 37) 0, type := 27, pos := "law.go:112", after := #[{ on := 6, ground := Ground.data }], guard := none }) (v := .agg #[.slice qa qn qc, .int .u64 (q1 : Nat), .int .u64 (q2 : Nat), .int .u64 (q3 : Nat)]) rfl (by kernel_rfl) (by kernel_rfl) (by kernel_rfl) (by kernel_rfl) (fun _ _ _ h => h) (Or.inl ⟨by rfl, ?_⟩) (SK.out _ tV) ?_
              · rintro w ⟨⟨s0, s1, s2, s3⟩, d0, d1, d2, d3, d4⟩
                go_simp
              simp only [Act.put, List.setIfInBounds_toArray, List.set_cons_zero, List.set_cons_succ]
              refine wpAnyZ_late (i := 8) (oi := { dst := some 45, op := Op.extract (Operand.tmp 37) 1, type := 34, pos := "law.go:112", after := #[{ on := 6, ground := Ground.data }, { on := 10, ground := Ground.gcOnly Departure.lateStores }], guard := none }) (v := .int .i64 er) rfl (by kernel_rfl) (by kernel_rfl) (by kernel_rfl) (by kernel_rfl) (fun _ _ _ h => h) (Or.inl ⟨by rfl, ?_⟩) (.inr (SK.out _ tV)) ?_
              · rintro w -
                go_simp
              simp only [Act.put, List.setIfInBounds_toArray, List.set_cons_zero, List.set_cons_succ]
              refine wpAnyZ_ready (rs := [9]) (by kernel_rfl) (by simp) ?_
              refine AllReadyZ.cons rfl (fun K hK => ?_) AllReadyZ.nil
              go_simp
              obtain ⟨uA, huA⟩ : ∃ uA, uA = u5.alloc (.cells #[.slice none 0 0, .int .u64 0, .int .u64 0, .int .u64 0] 27) := ⟨_, rfl⟩
              have hnA : uA.heap[u5.heap.size]? = some (.cells #[.slice none 0 0, .int .u64 0, .int .u64 0, .int .u64 0] 27) := by rw [huA]; exact heap_alloc_new _ _
              have tA : Turns (fun _ => False) u5 uA := by rw [huA]; exact (Turns.refl _ _).alloc _
              have hsz := tV.size
              have tV := tV.trans tA
              have hap := hap.quiet tA
              rw [← huA]
              refine hK.out _ _ (SK.out _ tV) (fun _ => ?_)
              clear hK K tA huA
              obtain ⟨PA, hPA⟩ : ∃ PA, PA = u5.heap.size := ⟨_, rfl⟩
              have HPA := hide (show wr.heap.size ≤ PA from by rw [hPA]; exact hsz)
              rw [← hPA]
              replace hnA : uA.heap[PA]? = some (.cells #[.slice none 0 0, .int .u64 0, .int .u64 0, .int .u64 0] 27) := by rw [hPA]; exact hnA
              clear hPA hsz
              have e0 := cell_of_row uA PA 0 _ 27 (0, 0) hnA
              have e1 := cell_of_row uA PA 1 _ 27 (0, 0) hnA
              have e2 := cell_of_row uA PA 2 _ 27 (0, 0) hnA
              have e3 := cell_of_row uA PA 3 _ 27 (0, 0) hnA
              have z0 := frozen_of_row uA PA 0 _ 27 hnA
              have z1 := frozen_of_row uA PA 1 _ 27 hnA
              have z2 := frozen_of_row uA PA 2 _ 27 hnA
              have z3 := frozen_of_row uA PA 3 _ 27 hnA
              have TK := hide ((((Tick.refl hnA).set 0 (.slice qa qn qc)).set 1 (.int .u64 (q1 : Nat))).set 2 (.int .u64 (q2 : Nat)) |>.set 3 (.int .u64 (q3 : Nat)))
              have HAP := hide (hap.alien (Turns.of_tick TK.out) hnA)
              have TV := hide (tV.andThen (Turns.of_tick TK.out) fun j hj e => by have := HPA.out; omega)
              clear hnA tV hap
              refine wpAnyZ_ready (rs := [10]) (by kernel_rfl) (by simp) ?_
              refine AllReadyZ.free rfl (by kernel_rfl) (fun K hK => ?_) AllReadyZ.nil
              go_simp
              refine hK.out _ _ ?_
              clear hK K
              refine wpAnyZ_late (i := 11) (oi := { dst := some 6, op := Op.assign (Operand.tmp 45), type := 34, pos := "law.go:112", after := #[{ on := 8, ground := Ground.data }, { on := 10, ground := Ground.chain }, { on := 0, ground := Ground.phase }, { on := 1, ground := Ground.phase }, { on := 2, ground := Ground.phase }, { on := 3, ground := Ground.phase }, { on := 4, ground := Ground.phase }, { on := 5, ground := Ground.phase }, { on := 6, ground := Ground.phase }, { on := 7, ground := Ground.phase }, { on := 8, ground := Ground.phase }, { on := 9, ground := Ground.phase }, { on := 10, ground := Ground.phase }], guard := none }) (v := .int .i64 er) rfl (by kernel_rfl) (by kernel_rfl) (by kernel_rfl) (by kernel_rfl) (fun _ _ _ h => h) (Or.inl ⟨by rfl, ?_⟩) (.inl (by kernel_rfl)) ?_
              · rintro w -
                go_simp
              simp only [Act.put, List.setIfInBounds_toArray, List.set_cons_zero, List.set_cons_succ]
              refine wpAnyZ_done (by kernel_rfl) ?_ _
              go_wp2_with fail
              go_meet
              exact ⟨PA, er, qa, qn, qc, q1, q2, q3, L1, rfl, rfl, TK.out.1, TV.out, HPA.out, HAP.out⟩
            · go_simp
              obtain ⟨uA, huA⟩ : ∃ uA, uA = Wd.alloc (.cells #[.slice none 0 0, .int .u64 0, .int .u64 0, .int .u64 0] 27) := ⟨_, rfl⟩
              have hnA : uA.heap[Wd.heap.size]? = some (.cells #[.slice none 0 0, .int .u64 0, .int .u64 0, .int .u64 0] 27) := by rw [huA]; exact heap_alloc_new _ _
              have tA : Turns (fun _ => False) Wd uA := by rw [huA]; exact (Turns.refl _ _).alloc _
              have hsz := tV.size
              have tV := tV.trans tA
              rw [← huA]
              refine hK.out _ _ (SK.out _ tV) (fun _ => ?_)
              clear hK K tA huA
              obtain ⟨PA, hPA⟩ : ∃ PA, PA = Wd.heap.size := ⟨_, rfl⟩
              have HPA := hide (show wr.heap.size ≤ PA from by rw [hPA]; exact hsz)
              rw [← hPA]
              replace hnA : uA.heap[PA]? = some (.cells #[.slice none 0 0, .int .u64 0, .int .u64 0, .int .u64 0] 27) := by rw [hPA]; exact hnA
              clear hPA hsz
              refine wpAnyZ_ready (rs := [5]) (by kernel_rfl) (by simp) ?_
              refine AllReadyZ.cons rfl (fun K hK => ?_) AllReadyZ.nil
              go_simp
              refine (CA.out _ tV).mono ?_
              rintro oo u5 ⟨t5, er, qa, qn, qc, q1, q2, q3, L1, rfl, hap⟩
              have hnA := t5.heap hnA (fun x => x)
              have tV := tV.trans t5
              clear t5
              go_simp
              refine hK.out _ _ (SK.out _ tV) (fun _ => ?_)
              clear hK K
              refine wpAnyZ_take (i := 6) (oi := { dst := some 37, op := Op.move (Operand.tmp 43), type := 35, pos := "law.go:112", after := #[{ on := 5, ground := Ground.data }], guard := none }) (v := .tuple #[.agg #[.slice qa qn qc, .int .u64 (q1 : Nat), .int .u64 (q2 : Nat), .int .u64 (q3 : Nat)], .int .i64 er]) rfl (by kernel_rfl) (by kernel_rfl) (by kernel_rfl) (by kernel_rfl) (fun _ _ _ h => h) (Or.inl ⟨by rfl, ?_⟩) (SK.out _ tV) ?_
              · rintro w ⟨⟨s0, s1, s2, s3⟩, d0, d1, d2, d3, d4⟩
                go_simp
              simp only [Act.put, List.setIfInBounds_toArray, List.set_cons_zero, List.set_cons_succ]
              refine wpAnyZ_take (i := 7) (oi := { dst := some 44, op := Op.extract (Operand.tmp 37) 0, type := 27, pos := "law.go:112", after := #[{ on := 6, ground := Ground.data }], guard := none }) (v := .agg #[.slice qa qn qc, .int .u64 (q1 : Nat), .int .u64 (q2 : Nat), .int .u64 (q3 : Nat)]) rfl (by kernel_rfl) (by kernel_rfl) (by kernel_rfl) (by kernel_rfl) (fun _ _ _ h => h) (Or.inl ⟨by rfl, ?_⟩) (SK.out _ tV) ?_
              · rintro w ⟨⟨s0, s1, s2, s3⟩, d0, d1, d2, d3, d4⟩
                go_simp
              simp only [Act.put, List.setIfInBounds_toArray, List.set_cons_zero, List.set_cons_succ]
              refine wpAnyZ_late (i := 8) (oi := { dst := some 45, op := Op.extract (Operand.tmp 37) 1, type := 34, pos := "law.go:112", after := #[{ on := 6, ground := Ground.data }, { on := 10, ground := Ground.gcOnly Departure.lateStores }], guard := none }) (v := .int .i64 er) rfl (by kernel_rfl) (by kernel_rfl) (by kernel_rfl) (by kernel_rfl) (fun _ _ _ h => h) (Or.inl ⟨by rfl, ?_⟩) (.inr (SK.out _ tV)) ?_
              · rintro w -
                go_simp
              simp only [Act.put, List.setIfInBounds_toArray, List.set_cons_zero, List.set_cons_succ]
              have e0 := cell_of_row u5 PA 0 _ 27 (0, 0) hnA
              have e1 := cell_of_row u5 PA 1 _ 27 (0, 0) hnA
              have e2 := cell_of_row u5 PA 2 _ 27 (0, 0) hnA
              have e3 := cell_of_row u5 PA 3 _ 27 (0, 0) hnA
              have z0 := frozen_of_row u5 PA 0 _ 27 hnA
              have z1 := frozen_of_row u5 PA 1 _ 27 hnA
              have z2 := frozen_of_row u5 PA 2 _ 27 hnA
              have z3 := frozen_of_row u5 PA 3 _ 27 hnA
              have TK := hide ((((Tick.refl hnA).set 0 (.slice qa qn qc)).set 1 (.int .u64 (q1 : Nat))).set 2 (.int .u64 (q2 : Nat)) |>.set 3 (.int .u64 (q3 : Nat)))
              have HAP := hide (hap.alien (Turns.of_tick TK.out) hnA)
              have TV := hide (tV.andThen (Turns.of_tick TK.out) fun j hj e => by have := HPA.out; omega)
              clear hnA tV hap
              refine wpAnyZ_ready (rs := [10]) (by kernel_rfl) (by simp) ?_
              refine AllReadyZ.free rfl (by kernel_rfl) (fun K hK => ?_) AllReadyZ.nil
              go_simp
              refine hK.out _ _ ?_
              clear hK K
              refine wpAnyZ_late (i := 11) (oi := { dst := some 6, op := Op.assign (Operand.tmp 45), type := 34, pos := "law.go:112", after := #[{ on := 8, ground := Ground.data }, { on := 10, ground := Ground.chain }, { on := 0, ground := Ground.phase }, { on := 1, ground := Ground.phase }, { on := 2, ground := Ground.phase }, { on := 3, ground := Ground.phase }, { on := 4, ground := Ground.phase }, { on := 5, ground := Ground.phase }, { on := 6, ground := Ground.phase }, { on := 7, ground := Ground.phase }, { on := 8, ground := Ground.phase }, { on := 9, ground := Ground.phase }, { on := 10, ground := Ground.phase }], guard := none }) (v := .int .i64 er) rfl (by kernel_rfl) (by kernel_rfl) (by kernel_rfl) (by kernel_rfl) (fun _ _ _ h => h) (Or.inl ⟨by rfl, ?_⟩) (.inl (by kernel_rfl)) ?_
              · rintro w -
                go_simp
              simp only [Act.put, List.setIfInBounds_toArray, List.set_cons_zero, List.set_cons_succ]
              refine wpAnyZ_done (by kernel_rfl) ?_ _
              go_wp2_with fail
              go_meet
              exact ⟨PA, er, qa, qn, qc, q1, q2, q3, L1, rfl, rfl, TK.out.1, TV.out, HPA.out, HAP.out⟩
          case rest =>
            obtain ⟨U, er, qa, qn, qc, q1, q2, q3, L1, rfl, rfl, hU, ht, hUge, hap⟩ := hcut
            have HU := hide hU
            have HT := hide (HB.out.turn.trans ht)
            have HV := hide (ht.heap HB.out.blk (fun x => x))
            have HAP := hide (show er ≠ 0 ∨ (er = 0 ∧ qn = 5 ∧ q1 = en ∧ q2 = es ∧ q3 = el ∧ VOk wc qa q1 q2 q3 L1 (k + 1) ∧ ApplyR (flL L) p1 p2 p3 D (fA A) en es el (some (flL L1)) 0 ∧ ∃ B G, qa = some ⟨G, 0, none⟩ ∧ DR wc B G 5 L1) from by rw [← HXX.out] at hap; exact hap)
            have CAP := hide (fun (u : World) (t : Turns (fun _ => False) w u) => append_any da dn dc aa an ac en es el D A u (HED.out u t) HSQ.out (Nat.le_trans HBY.out (by omega)))
            unfold edAgg at CAP
            have HVQ := hide (HB.out.ver.quiet ht)
            have HNV := hide HB.out.new
            have hkk : k + 1 ≤ n := by omega
            clear hU ht hUge hap SK CA HB T4
            by_cases her : er = 0
            · obtain ⟨h1, h2, h3, h4, hvok, hR, B1, G1, h5, hdr⟩ : qn = 5 ∧ q1 = en ∧ q2 = es ∧ q3 = el ∧ VOk wc qa q1 q2 q3 L1 (k + 1) ∧ ApplyR (flL L) p1 p2 p3 D (fA A) en es el (some (flL L1)) 0 ∧ ∃ B G, qa = some ⟨G, 0, none⟩ ∧ DR wc B G 5 L1 := by
                rcases HAP.out with h | ⟨_, h⟩
                · exact absurd her h
                · exact h
              subst her h1 h2 h3 h4 h5
              have HAE := hide (appliedEdit hR (by have := (HED.out w (Turns.refl _ _)).dlen; have := (HED.out w (Turns.refl _ _)).dmx; omega) (by unfold fA; rw [List.length_map]; have := (HED.out w (Turns.refl _ _)).alen; have := (HED.out w (Turns.refl _ _)).amx; omega))
              have u0 := cell_of_row wc U 0 _ 27 (0, 0) HU.out
              have u1 := cell_of_row wc U 1 _ 27 (0, 0) HU.out
              have u2 := cell_of_row wc U 2 _ 27 (0, 0) HU.out
              have u3 := cell_of_row wc U 3 _ 27 (0, 0) HU.out
              have v0 := cell_of_row wc V 0 _ 27 (0, 0) HV.out
              have v1 := cell_of_row wc V 1 _ 27 (0, 0) HV.out
              have v2 := cell_of_row wc V 2 _ 27 (0, 0) HV.out
              have v3 := cell_of_row wc V 3 _ 27 (0, 0) HV.out
              have z0 := frozen_of_row wc V 0 _ 27 HV.out
              have z1 := frozen_of_row wc V 1 _ 27 HV.out
              have z2 := frozen_of_row wc V 2 _ 27 HV.out
              have z3 := frozen_of_row wc V 3 _ 27 HV.out
              have TK := hide ((((Tick.refl HV.out).set 0 (.slice (some ⟨G1, 0, none⟩) 5 qc)).set 1 (.int .u64 (q1 : Nat))).set 2 (.int .u64 (q2 : Nat)) |>.set 3 (.int .u64 (q3 : Nat)))
              have HBK := hide (show Bk w _ V (k + 1) (some ⟨G1, 0, none⟩) qc q1 q2 q3 L1 from ⟨TK.out.1, { hvok with ver := { hvok.ver with levs := (hdr.alien (Turns.of_tick TK.out) HV.out (by decide) (by decide) (by decide)).levs } }, HT.out.andThen (Turns.of_tick TK.out) fun j hj e => by have := HNV.out; omega, HNV.out⟩)
              clear hvok hR hdr
              go_upto_region 14 with (fail)
              clear u0 u1 u2 u3 v0 v1 v2 v3 z0 z1 z2 z3 TK
              generalize (((wc.setCell ⟨V, 0, none⟩ (.slice (some ⟨G1, 0, none⟩) 5 qc)).setCell ⟨V, 1, none⟩ (.int .u64 (q1 : Nat))).setCell ⟨V, 2, none⟩ (.int .u64 (q2 : Nat))).setCell ⟨V, 3, none⟩ (.int .u64 (q3 : Nat)) = w5 at *
              have v0 := cell_of_row w5 V 0 _ 27 (0, 0) HBK.out.blk
              have v1 := cell_of_row w5 V 1 _ 27 (0, 0) HBK.out.blk
              have v2 := cell_of_row w5 V 2 _ 27 (0, 0) HBK.out.blk
              have v3 := cell_of_row w5 V 3 _ 27 (0, 0) HBK.out.blk
              have CK := hide (check_any (some ⟨G1, 0, none⟩) 5 qc q1 q2 q3 L1 w5 HBK.out.ver.ver)
              rw [show chkV L1 q1 q2 q3 = 0 by unfold chkV; rw [wrongV_F, HBK.out.ver.ok]; rfl] at CK
              unfold verAgg at CK
              go_wp2_with fail
              refine CK.out.mono ?_
              rintro e w6 ⟨rfl, t6⟩
              have BK6 := hide (HBK.out.quiet t6)
              clear t6 CK v0 v1 v2 v3
              obtain ⟨e0, e1, e2, e3, e4⟩ := HCW.out w6 BK6.out.turn
              go_wp2_with fail
              refine (CAP.out w6 BK6.out.turn).mono ?_
              rintro e w7 ⟨t7, hApp⟩
              obtain ⟨ap, an', ac', rfl, hal, hab⟩ : ∃ a n c, e = .returned (.tuple #[.slice a n c, .int .i64 0]) ∧ n = (editB q1 q2 q3 D (fA A)).length ∧ Bytes w7 (.slice a n c) (editB q1 q2 q3 D (fA A)) := by
                rcases hApp with ⟨h1, _⟩ | ⟨_, _, h⟩
                · exfalso
                  rcases h1 with h1 | h1
                  · rw [HAE.out.1] at h1; cases h1
                  · rw [HAE.out.2.1] at h1; cases h1
                · exact h
              have BK7 := hide (BK6.out.quiet t7)
              have HAL := hide (show an' ≤ 1000000 by
                have he := HED.out w (Turns.refl _ _)
                rw [hal]
                refine editB_len he.b1 he.b2 he.b3 (fun d hd => ?_) (fun d hd => ?_) (by have := he.dlen; have := he.dmx; omega) (by have := he.alen; have := he.amx; omega) (Nat.le_trans HBY.out (by omega))
                · obtain ⟨q, hq⟩ := List.getElem?_of_mem hd; exact (he.drops q d hq).1
                · have := he.fit d hd; exact ⟨this.1, HSQ.out d hd, this.2.1, this.2.2⟩)
              have HAB := hide hab
              clear t7 hApp hal hab e0 e1 e2 e3 e4
              go_wp2_with fail
              refine (parse_any ap an' ac' _ w7 HAB.out HAL.out).mono ?_
              rintro e w8 ⟨t8, v, z, rfl, _, hpar⟩
              obtain ⟨rfl, da', dn', dc', sa, sn, sc, A', rfl, h1, h2, h3, h4, h5⟩ := hpar _ HAE.out.2.2
              have tA : Turns (fun _ => False) w8 (w8.alloc (.cells #[.slice da' dn' dc', .slice sa sn sc, .int .u64 (q1 : Nat), .int .u64 (q2 : Nat), .int .u64 (q3 : Nat)] 33)) := (Turns.refl _ _).alloc _
              have BK8 := hide (BK7.out.quiet (t8.trans tA))
              have P8 := hide (heap_alloc_new w8 (.cells #[.slice da' dn' dc', .slice sa sn sc, .int .u64 (q1 : Nat), .int .u64 (q2 : Nat), .int .u64 (q3 : Nat)] 33))
              simp only at h1 h2 h3 h4 h5
              have HPD := hide h1
              have HPR := hide (h2.quiet tA)
              have HPN := hide h3
              have HPF := hide h4
              have HPA := hide (h5.quiet tA)
              clear t8 hpar h1 h2 h3 h4 h5 tA HAB
              unfold edAgg
              simp only
              go_upto_region 18 with (fail)
              generalize w8.alloc (.cells #[.slice da' dn' dc', .slice sa sn sc, .int .u64 (q1 : Nat), .int .u64 (q2 : Nat), .int .u64 (q3 : Nat)] 33) = w9 at *
              generalize w8.heap.size = P9 at *
              have he9 := HED.out w9 BK8.out.turn
              obtain rfl : dn = dn' := by rw [HPD.out]; exact he9.dlen
              have hla : A'.length = A.length := by have h1 := congrArg List.length HPF.out; unfold fA at h1; simpa using h1
              obtain rfl : an = sn := by rw [HPN.out, hla]; exact he9.alen
              have KE := hide (fun (u : World) (t : Turns (fun _ => False) w9 u) => kedit_same da' dn dc' D sa an sc A' da dc aa ac A q1 q2 q3 u (HPR.out.quiet t) ((HED.out u (BK8.out.turn.trans t)).drops) (HPA.out.quiet t) ((HED.out u (BK8.out.turn.trans t)).adds) he9.dlen HPN.out HPF.out (by have := he9.dmx; omega) (by have := he9.amx; omega) (fun d hd => by
                have h1 : (d.1, d.2.f) ∈ fA A := by rw [← HPF.out]; exact List.mem_map.2 ⟨d, hd, rfl⟩
                obtain ⟨d0, hd0, e0⟩ := List.mem_map.1 h1
                have h2 := he9.fit d0 hd0
                have h3 : d0.2.f = d.2.f := congrArg Prod.snd e0
                rw [← h3]
                omega))
              unfold edAgg at KE
              have SK := hide (fun (u : World) (t : Turns (fun _ => False) w9 u) => show (u.cell? ⟨P9, 0, none⟩ = some (.slice da' dn dc') ∧ u.cell? ⟨P9, 1, none⟩ = some (.slice sa an sc) ∧ u.cell? ⟨P9, 2, none⟩ = some (.int .u64 (q1 : Nat)) ∧ u.cell? ⟨P9, 3, none⟩ = some (.int .u64 (q2 : Nat)) ∧ u.cell? ⟨P9, 4, none⟩ = some (.int .u64 (q3 : Nat))) ∧ (u.cell? ⟨b, off + k * 5, none⟩ = some (.slice da dn dc) ∧ u.cell? ⟨b, off + k * 5 + 1, none⟩ = some (.slice aa an ac) ∧ u.cell? ⟨b, off + k * 5 + 2, none⟩ = some (.int .u64 (q1 : Nat)) ∧ u.cell? ⟨b, off + k * 5 + 3, none⟩ = some (.int .u64 (q2 : Nat)) ∧ u.cell? ⟨b, off + k * 5 + 4, none⟩ = some (.int .u64 (q3 : Nat))) from ⟨⟨t.cell (cell_of_row w9 P9 0 _ 33 (0, 0) P8.out) (fun x => x), t.cell (cell_of_row w9 P9 1 _ 33 (0, 0) P8.out) (fun x => x), t.cell (cell_of_row w9 P9 2 _ 33 (0, 0) P8.out) (fun x => x), t.cell (cell_of_row w9 P9 3 _ 33 (0, 0) P8.out) (fun x => x), t.cell (cell_of_row w9 P9 4 _ 33 (0, 0) P8.out) (fun x => x)⟩, HCW.out u (BK8.out.turn.trans t)⟩)
              clear he9 hla
              have tV : Turns (fun _ => False) w9 w9.drew := (Turns.refl _ _).drew
              refine wp_region_held_drew (S := fun u => (u.cell? ⟨P9, 0, none⟩ = some (.slice da' dn dc') ∧ u.cell? ⟨P9, 1, none⟩ = some (.slice sa an sc) ∧ u.cell? ⟨P9, 2, none⟩ = some (.int .u64 (q1 : Nat)) ∧ u.cell? ⟨P9, 3, none⟩ = some (.int .u64 (q2 : Nat)) ∧ u.cell? ⟨P9, 4, none⟩ = some (.int .u64 (q3 : Nat))) ∧ u.cell? ⟨b, off + k * 5, none⟩ = some (.slice da dn dc) ∧ u.cell? ⟨b, off + k * 5 + 1, none⟩ = some (.slice aa an ac) ∧ u.cell? ⟨b, off + k * 5 + 2, none⟩ = some (.int .u64 (q1 : Nat)) ∧ u.cell? ⟨b, off + k * 5 + 3, none⟩ = some (.int .u64 (q2 : Nat)) ∧ u.cell? ⟨b, off + k * 5 + 4, none⟩ = some (.int .u64 (q3 : Nat))) (by kernel_rfl) (SK.out _ tV) (fun _ => ?_)
              change wpAnyH _ _ _ _ _ 19 (Array.replicate 19 false) _ _
              refine wpAnyH_take (i := 0) (oi := { dst := some 69, op := Op.move (Operand.tmp 8), type := 34, pos := "law.go:121", after := #[], guard := none }) (v := .int .i64 0) rfl (by kernel_rfl) (by kernel_rfl) (by kernel_rfl) (fun _ _ _ h => h) (Or.inl ⟨by rfl, ?_⟩) (SK.out _ tV) ?_
              · rintro w ⟨⟨s0, s1, s2, s3, s4⟩, d0, d1, d2, d3, d4⟩
                go_simp
              simp only [Act.put, List.setIfInBounds_toArray, List.set_cons_zero, List.set_cons_succ]
              refine wpAnyH_take (i := 1) (oi := { dst := some 70, op := Op.binOp BinOp.eql 34 (Operand.tmp 69) (Operand.const (Value.int IntKind.i64 0)) 34, type := 4, pos := "law.go:121", after := #[{ on := 0, ground := Ground.data }], guard := none }) (v := .bool true) rfl (by kernel_rfl) (by kernel_rfl) (by kernel_rfl) (fun _ _ _ h => h) (Or.inl ⟨by rfl, ?_⟩) (SK.out _ tV) ?_
              · rintro w ⟨⟨s0, s1, s2, s3, s4⟩, d0, d1, d2, d3, d4⟩
                go_simp
              simp only [Act.put, List.setIfInBounds_toArray, List.set_cons_zero, List.set_cons_succ]
              refine wpAnyH_take (i := 2) (oi := { dst := some 71, op := Op.move (Operand.tmp 70), type := 4, pos := "law.go:121", after := #[{ on := 1, ground := Ground.data }], guard := none }) (v := .bool true) rfl (by kernel_rfl) (by kernel_rfl) (by kernel_rfl) (fun _ _ _ h => h) (Or.inl ⟨by rfl, ?_⟩) (SK.out _ tV) ?_
              · rintro w ⟨⟨s0, s1, s2, s3, s4⟩, d0, d1, d2, d3, d4⟩
                go_simp
              simp only [Act.put, List.setIfInBounds_toArray, List.set_cons_zero, List.set_cons_succ]
              refine wpAnyH_take (i := 3) (oi := { dst := some 72, op := Op.move (Operand.tmp 6), type := 34, pos := "law.go:121", after := #[{ on := 2, ground := Ground.guard }], guard := some (2, true) }) (v := .int .i64 0) rfl (by kernel_rfl) (by kernel_rfl) (by kernel_rfl) (fun _ _ _ h => h) (Or.inl ⟨by rfl, ?_⟩) (SK.out _ tV) ?_
              · rintro w ⟨⟨s0, s1, s2, s3, s4⟩, d0, d1, d2, d3, d4⟩
                go_simp
              simp only [Act.put, List.setIfInBounds_toArray, List.set_cons_zero, List.set_cons_succ]
              refine wpAnyH_take (i := 4) (oi := { dst := some 73, op := Op.binOp BinOp.eql 34 (Operand.tmp 72) (Operand.const (Value.int IntKind.i64 0)) 34, type := 4, pos := "law.go:121", after := #[{ on := 3, ground := Ground.data }, { on := 2, ground := Ground.guard }], guard := some (2, true) }) (v := .bool true) rfl (by kernel_rfl) (by kernel_rfl) (by kernel_rfl) (fun _ _ _ h => h) (Or.inl ⟨by rfl, ?_⟩) (SK.out _ tV) ?_
              · rintro w ⟨⟨s0, s1, s2, s3, s4⟩, d0, d1, d2, d3, d4⟩
                go_simp
              simp only [Act.put, List.setIfInBounds_toArray, List.set_cons_zero, List.set_cons_succ]
              refine wpAnyH_take (i := 5) (oi := { dst := some 74, op := Op.pick (Operand.tmp 71) (Operand.tmp 73) (Operand.const (Value.bool false)), type := 4, pos := "law.go:121", after := #[{ on := 2, ground := Ground.data }, { on := 4, ground := Ground.data }], guard := none }) (v := .bool true) rfl (by kernel_rfl) (by kernel_rfl) (by kernel_rfl) (fun _ _ _ h => h) (Or.inl ⟨by rfl, ?_⟩) (SK.out _ tV) ?_
              · rintro w ⟨⟨s0, s1, s2, s3, s4⟩, d0, d1, d2, d3, d4⟩
                go_simp
              simp only [Act.put, List.setIfInBounds_toArray, List.set_cons_zero, List.set_cons_succ]
              refine wpAnyH_take (i := 6) (oi := { dst := some 75, op := Op.move (Operand.tmp 74), type := 4, pos := "law.go:121", after := #[{ on := 5, ground := Ground.data }, { on := 2, ground := Ground.chain }], guard := none }) (v := .bool true) rfl (by kernel_rfl) (by kernel_rfl) (by kernel_rfl) (fun _ _ _ h => h) (Or.inl ⟨by rfl, ?_⟩) (SK.out _ tV) ?_
              · rintro w ⟨⟨s0, s1, s2, s3, s4⟩, d0, d1, d2, d3, d4⟩
                go_simp
              simp only [Act.put, List.setIfInBounds_toArray, List.set_cons_zero, List.set_cons_succ]
              refine wpAnyH_take (i := 7) (oi := { dst := some 76, op := Op.move (Operand.tmp 10), type := 34, pos := "law.go:121", after := #[{ on := 6, ground := Ground.guard }], guard := some (6, true) }) (v := .int .i64 0) rfl (by kernel_rfl) (by kernel_rfl) (by kernel_rfl) (fun _ _ _ h => h) (Or.inl ⟨by rfl, ?_⟩) (SK.out _ tV) ?_
              · rintro w ⟨⟨s0, s1, s2, s3, s4⟩, d0, d1, d2, d3, d4⟩
                go_simp
              simp only [Act.put, List.setIfInBounds_toArray, List.set_cons_zero, List.set_cons_succ]
              refine wpAnyH_take (i := 8) (oi := { dst := some 77, op := Op.binOp BinOp.neq 34 (Operand.tmp 76) (Operand.const (Value.int IntKind.i64 0)) 34, type := 4, pos := "law.go:121", after := #[{ on := 7, ground := Ground.data }, { on := 6, ground := Ground.guard }], guard := some (6, true) }) (v := .bool false) rfl (by kernel_rfl) (by kernel_rfl) (by kernel_rfl) (fun _ _ _ h => h) (Or.inl ⟨by rfl, ?_⟩) (SK.out _ tV) ?_
              · rintro w ⟨⟨s0, s1, s2, s3, s4⟩, d0, d1, d2, d3, d4⟩
                go_simp
              simp only [Act.put, List.setIfInBounds_toArray, List.set_cons_zero, List.set_cons_succ]
              refine wpAnyH_take (i := 9) (oi := { dst := some 78, op := Op.move (Operand.tmp 77), type := 4, pos := "law.go:121", after := #[{ on := 8, ground := Ground.data }, { on := 6, ground := Ground.chain }, { on := 6, ground := Ground.guard }], guard := some (6, true) }) (v := .bool false) rfl (by kernel_rfl) (by kernel_rfl) (by kernel_rfl) (fun _ _ _ h => h) (Or.inl ⟨by rfl, ?_⟩) (SK.out _ tV) ?_
              · rintro w ⟨⟨s0, s1, s2, s3, s4⟩, d0, d1, d2, d3, d4⟩
                go_simp
              simp only [Act.put, List.setIfInBounds_toArray, List.set_cons_zero, List.set_cons_succ]
              refine wpAnyH_take (i := 10) (oi := { dst := some 79, op := Op.load 33 (Operand.tmp 9), type := 33, pos := "law.go:121", after := #[{ on := 9, ground := Ground.guard }], guard := some (9, false) }) (v := .agg #[.slice da' dn dc', .slice sa an sc, .int .u64 (q1 : Nat), .int .u64 (q2 : Nat), .int .u64 (q3 : Nat)]) rfl (by kernel_rfl) (by kernel_rfl) (by kernel_rfl) (fun _ _ _ h => h) (Or.inl ⟨by rfl, ?_⟩) (SK.out _ tV) ?_
              · rintro w ⟨⟨s0, s1, s2, s3, s4⟩, d0, d1, d2, d3, d4⟩
                go_simp
              simp only [Act.put, List.setIfInBounds_toArray, List.set_cons_zero, List.set_cons_succ]
              refine wpAnyH_take (i := 11) (oi := { dst := some 80, op := Op.move (Operand.tmp 0), type := 22, pos := "law.go:121", after := #[{ on := 9, ground := Ground.guard }], guard := some (9, false) }) (v := .slice (some ⟨b, off, none⟩) n c) rfl (by kernel_rfl) (by kernel_rfl) (by kernel_rfl) (fun _ _ _ h => h) (Or.inl ⟨by rfl, ?_⟩) (SK.out _ tV) ?_
              · rintro w ⟨⟨s0, s1, s2, s3, s4⟩, d0, d1, d2, d3, d4⟩
                go_simp
              simp only [Act.put, List.setIfInBounds_toArray, List.set_cons_zero, List.set_cons_succ]
              refine wpAnyH_take (i := 12) (oi := { dst := some 81, op := Op.move (Operand.tmp 4), type := 3, pos := "law.go:121", after := #[{ on := 9, ground := Ground.guard }], guard := some (9, false) }) (v := .int .i64 (k : Nat)) rfl (by kernel_rfl) (by kernel_rfl) (by kernel_rfl) (fun _ _ _ h => h) (Or.inl ⟨by rfl, ?_⟩) (SK.out _ tV) ?_
              · rintro w ⟨⟨s0, s1, s2, s3, s4⟩, d0, d1, d2, d3, d4⟩
                go_simp
              simp only [Act.put, List.setIfInBounds_toArray, List.set_cons_zero, List.set_cons_succ]
              refine wpAnyH_take (i := 13) (oi := { dst := some 82, op := Op.indexAddr 22 (Operand.tmp 80) (Operand.tmp 81), type := 0, pos := "law.go:121", after := #[{ on := 11, ground := Ground.data }, { on := 12, ground := Ground.data }, { on := 9, ground := Ground.guard }], guard := some (9, false) }) (v := .pointer (some ⟨b, off + k * 5, none⟩)) rfl (by kernel_rfl) (by kernel_rfl) (by kernel_rfl) (fun _ _ _ h => h) (Or.inl ⟨by rfl, ?_⟩) (SK.out _ tV) ?_
              · rintro w ⟨⟨s0, s1, s2, s3, s4⟩, d0, d1, d2, d3, d4⟩
                go_simp
              simp only [Act.put, List.setIfInBounds_toArray, List.set_cons_zero, List.set_cons_succ]
              refine wpAnyH_take (i := 14) (oi := { dst := some 83, op := Op.load 33 (Operand.tmp 82), type := 33, pos := "law.go:121", after := #[{ on := 13, ground := Ground.data }, { on := 9, ground := Ground.guard }], guard := some (9, false) }) (v := .agg #[.slice da dn dc, .slice aa an ac, .int .u64 (q1 : Nat), .int .u64 (q2 : Nat), .int .u64 (q3 : Nat)]) rfl (by kernel_rfl) (by kernel_rfl) (by kernel_rfl) (fun _ _ _ h => h) (Or.inl ⟨by rfl, ?_⟩) (SK.out _ tV) ?_
              · rintro w ⟨⟨s0, s1, s2, s3, s4⟩, d0, d1, d2, d3, d4⟩
                go_simp
              simp only [Act.put, List.setIfInBounds_toArray, List.set_cons_zero, List.set_cons_succ]
              refine wpAnyH_ready (rs := [15]) (by kernel_rfl) (by simp) ?_
              refine AllReadyH.cons rfl (fun K hK => ?_) AllReadyH.nil
              go_simp
              refine (KE.out _ tV).mono ?_
              rintro oo Vn ⟨rfl, tN0⟩
              have tN := tN0
              have tV := tV.trans tN
              clear tN
              go_simp
              refine hK.out _ _ (SK.out _ tV) (fun _ => ?_)
              clear hK K
              refine wpAnyH_take (i := 16) (oi := { dst := some 85, op := Op.unOp UnOp.not 4 (Operand.tmp 84), type := 4, pos := "law.go:121", after := #[{ on := 15, ground := Ground.data }, { on := 9, ground := Ground.guard }], guard := some (9, false) }) (v := .bool false) rfl (by kernel_rfl) (by kernel_rfl) (by kernel_rfl) (fun _ _ _ h => h) (Or.inl ⟨by rfl, ?_⟩) (SK.out _ tV) ?_
              · rintro w ⟨⟨s0, s1, s2, s3, s4⟩, d0, d1, d2, d3, d4⟩
                go_simp
              simp only [Act.put, List.setIfInBounds_toArray, List.set_cons_zero, List.set_cons_succ]
              refine wpAnyH_take (i := 17) (oi := { dst := some 86, op := Op.pick (Operand.tmp 78) (Operand.const (Value.bool true)) (Operand.tmp 85), type := 4, pos := "law.go:121", after := #[{ on := 9, ground := Ground.data }, { on := 16, ground := Ground.data }, { on := 6, ground := Ground.guard }], guard := some (6, true) }) (v := .bool false) rfl (by kernel_rfl) (by kernel_rfl) (by kernel_rfl) (fun _ _ _ h => h) (Or.inl ⟨by rfl, ?_⟩) (SK.out _ tV) ?_
              · rintro w ⟨⟨s0, s1, s2, s3, s4⟩, d0, d1, d2, d3, d4⟩
                go_simp
              simp only [Act.put, List.setIfInBounds_toArray, List.set_cons_zero, List.set_cons_succ]
              refine wpAnyH_take (i := 18) (oi := { dst := some 87, op := Op.pick (Operand.tmp 75) (Operand.tmp 86) (Operand.const (Value.bool false)), type := 4, pos := "law.go:121", after := #[{ on := 6, ground := Ground.data }, { on := 17, ground := Ground.data }], guard := none }) (v := .bool false) rfl (by kernel_rfl) (by kernel_rfl) (by kernel_rfl) (fun _ _ _ h => h) (Or.inl ⟨by rfl, ?_⟩) (SK.out _ tV) ?_
              · rintro w ⟨⟨s0, s1, s2, s3, s4⟩, d0, d1, d2, d3, d4⟩
                go_simp
              simp only [Act.put, List.setIfInBounds_toArray, List.set_cons_zero, List.set_cons_succ]
              refine wpAnyH_done (by kernel_rfl) ?_ _
              have BK9 := hide (BK8.out.quiet tV)
              clear tV
              go_wp2_with fail
              go_roundw
              case rel => exact ⟨k + 1, _, _, _, _, _, L1, by go_num, hkk, BK9.out⟩
              case measure => simp [intOf]; omega
            · have her' : (er == 0) = false := by simpa using her
              have HV2 := hide (show Bk w wc V (k + 1) pa pc p1 p2 p3 L from ⟨HV.out, HVQ.out.mono (by omega), HT.out, HNV.out⟩)
              obtain ⟨e0, e1, e2, e3, e4⟩ := HCW.out wc HT.out
              clear her HAP
              go_wp2_with fail
              refine (CAP.out wc HT.out).mono ?_
              rintro e w7 ⟨t7, hApp⟩
              have BK7 := hide (HV2.out.quiet t7)
              clear e0 e1 e2 e3 e4 t7
              rcases hApp with ⟨_, rfl⟩ | ⟨_, _, ap, an', ac', rfl, hal, hab⟩
              · go_wp2_with fail
                refine (parse_any none 0 0 [] w7 (Bytes.empty _) (by omega)).mono ?_
                rintro e w8 ⟨t8, v, z, rfl, ⟨da', dn', dc', sa, sn, sc, y1, y2, y3, rfl⟩, _⟩
                have tA : Turns (fun _ => False) w8 (w8.alloc (.cells #[.slice da' dn' dc', .slice sa sn sc, .int .u64 (y1 : Nat), .int .u64 (y2 : Nat), .int .u64 (y3 : Nat)] 33)) := (Turns.refl _ _).alloc _
                have BK8 := hide (BK7.out.quiet (t8.trans tA))
                clear t8 tA
                unfold edAgg
                go_upto_region 18 with (fail)
                generalize w8.alloc (.cells #[.slice da' dn' dc', .slice sa sn sc, .int .u64 (y1 : Nat), .int .u64 (y2 : Nat), .int .u64 (y3 : Nat)] 33) = w9 at *
                generalize w8.heap.size = P9 at *
                refine wp_region_held_drew (S := fun _ => True) (by kernel_rfl) trivial (fun _ => ?_)
                change wpAnyH _ _ _ _ _ 19 (Array.replicate 19 false) _ _
                refine wpAnyH_take (i := 0) (oi := { dst := some 69, op := Op.move (Operand.tmp 8), type := 34, pos := "law.go:121", after := #[], guard := none }) (v := .int .i64 2) rfl (by kernel_rfl) (by kernel_rfl) (by kernel_rfl) (fun _ _ _ h => h) (Or.inl ⟨by rfl, ?_⟩) trivial ?_
                · rintro w -
                  go_simp
                simp only [Act.put, List.setIfInBounds_toArray, List.set_cons_zero, List.set_cons_succ]
                refine wpAnyH_take (i := 1) (oi := { dst := some 70, op := Op.binOp BinOp.eql 34 (Operand.tmp 69) (Operand.const (Value.int IntKind.i64 0)) 34, type := 4, pos := "law.go:121", after := #[{ on := 0, ground := Ground.data }], guard := none }) (v := .bool false) rfl (by kernel_rfl) (by kernel_rfl) (by kernel_rfl) (fun _ _ _ h => h) (Or.inl ⟨by rfl, ?_⟩) trivial ?_
                · rintro w -
                  go_simp
                simp only [Act.put, List.setIfInBounds_toArray, List.set_cons_zero, List.set_cons_succ]
                refine wpAnyH_take (i := 2) (oi := { dst := some 71, op := Op.move (Operand.tmp 70), type := 4, pos := "law.go:121", after := #[{ on := 1, ground := Ground.data }], guard := none }) (v := .bool false) rfl (by kernel_rfl) (by kernel_rfl) (by kernel_rfl) (fun _ _ _ h => h) (Or.inl ⟨by rfl, ?_⟩) trivial ?_
                · rintro w -
                  go_simp
                simp only [Act.put, List.setIfInBounds_toArray, List.set_cons_zero, List.set_cons_succ]
                refine wpAnyH_take (i := 3) (oi := { dst := some 72, op := Op.move (Operand.tmp 6), type := 34, pos := "law.go:121", after := #[{ on := 2, ground := Ground.guard }], guard := some (2, true) }) (v := undef) rfl (by kernel_rfl) (by kernel_rfl) (by kernel_rfl) (fun _ _ _ h => h) (Or.inr ⟨by rfl, rfl⟩) trivial ?_
                simp only [Act.put, List.setIfInBounds_toArray, List.set_cons_zero, List.set_cons_succ]
                refine wpAnyH_take (i := 4) (oi := { dst := some 73, op := Op.binOp BinOp.eql 34 (Operand.tmp 72) (Operand.const (Value.int IntKind.i64 0)) 34, type := 4, pos := "law.go:121", after := #[{ on := 3, ground := Ground.data }, { on := 2, ground := Ground.guard }], guard := some (2, true) }) (v := undef) rfl (by kernel_rfl) (by kernel_rfl) (by kernel_rfl) (fun _ _ _ h => h) (Or.inr ⟨by rfl, rfl⟩) trivial ?_
                simp only [Act.put, List.setIfInBounds_toArray, List.set_cons_zero, List.set_cons_succ]
                refine wpAnyH_take (i := 5) (oi := { dst := some 74, op := Op.pick (Operand.tmp 71) (Operand.tmp 73) (Operand.const (Value.bool false)), type := 4, pos := "law.go:121", after := #[{ on := 2, ground := Ground.data }, { on := 4, ground := Ground.data }], guard := none }) (v := .bool false) rfl (by kernel_rfl) (by kernel_rfl) (by kernel_rfl) (fun _ _ _ h => h) (Or.inl ⟨by rfl, ?_⟩) trivial ?_
                · rintro w -
                  go_simp
                simp only [Act.put, List.setIfInBounds_toArray, List.set_cons_zero, List.set_cons_succ]
                refine wpAnyH_take (i := 6) (oi := { dst := some 75, op := Op.move (Operand.tmp 74), type := 4, pos := "law.go:121", after := #[{ on := 5, ground := Ground.data }, { on := 2, ground := Ground.chain }], guard := none }) (v := .bool false) rfl (by kernel_rfl) (by kernel_rfl) (by kernel_rfl) (fun _ _ _ h => h) (Or.inl ⟨by rfl, ?_⟩) trivial ?_
                · rintro w -
                  go_simp
                simp only [Act.put, List.setIfInBounds_toArray, List.set_cons_zero, List.set_cons_succ]
                refine wpAnyH_take (i := 7) (oi := { dst := some 76, op := Op.move (Operand.tmp 10), type := 34, pos := "law.go:121", after := #[{ on := 6, ground := Ground.guard }], guard := some (6, true) }) (v := undef) rfl (by kernel_rfl) (by kernel_rfl) (by kernel_rfl) (fun _ _ _ h => h) (Or.inr ⟨by rfl, rfl⟩) trivial ?_
                simp only [Act.put, List.setIfInBounds_toArray, List.set_cons_zero, List.set_cons_succ]
                refine wpAnyH_take (i := 8) (oi := { dst := some 77, op := Op.binOp BinOp.neq 34 (Operand.tmp 76) (Operand.const (Value.int IntKind.i64 0)) 34, type := 4, pos := "law.go:121", after := #[{ on := 7, ground := Ground.data }, { on := 6, ground := Ground.guard }], guard := some (6, true) }) (v := undef) rfl (by kernel_rfl) (by kernel_rfl) (by kernel_rfl) (fun _ _ _ h => h) (Or.inr ⟨by rfl, rfl⟩) trivial ?_
                simp only [Act.put, List.setIfInBounds_toArray, List.set_cons_zero, List.set_cons_succ]
                refine wpAnyH_take (i := 9) (oi := { dst := some 78, op := Op.move (Operand.tmp 77), type := 4, pos := "law.go:121", after := #[{ on := 8, ground := Ground.data }, { on := 6, ground := Ground.chain }, { on := 6, ground := Ground.guard }], guard := some (6, true) }) (v := undef) rfl (by kernel_rfl) (by kernel_rfl) (by kernel_rfl) (fun _ _ _ h => h) (Or.inr ⟨by rfl, rfl⟩) trivial ?_
                simp only [Act.put, List.setIfInBounds_toArray, List.set_cons_zero, List.set_cons_succ]
                refine wpAnyH_take (i := 10) (oi := { dst := some 79, op := Op.load 33 (Operand.tmp 9), type := 33, pos := "law.go:121", after := #[{ on := 9, ground := Ground.guard }], guard := some (9, false) }) (v := undef) rfl (by kernel_rfl) (by kernel_rfl) (by kernel_rfl) (fun _ _ _ h => h) (Or.inr ⟨by rfl, rfl⟩) trivial ?_
                simp only [Act.put, List.setIfInBounds_toArray, List.set_cons_zero, List.set_cons_succ]
                refine wpAnyH_take (i := 11) (oi := { dst := some 80, op := Op.move (Operand.tmp 0), type := 22, pos := "law.go:121", after := #[{ on := 9, ground := Ground.guard }], guard := some (9, false) }) (v := undef) rfl (by kernel_rfl) (by kernel_rfl) (by kernel_rfl) (fun _ _ _ h => h) (Or.inr ⟨by rfl, rfl⟩) trivial ?_
                simp only [Act.put, List.setIfInBounds_toArray, List.set_cons_zero, List.set_cons_succ]
                refine wpAnyH_take (i := 12) (oi := { dst := some 81, op := Op.move (Operand.tmp 4), type := 3, pos := "law.go:121", after := #[{ on := 9, ground := Ground.guard }], guard := some (9, false) }) (v := undef) rfl (by kernel_rfl) (by kernel_rfl) (by kernel_rfl) (fun _ _ _ h => h) (Or.inr ⟨by rfl, rfl⟩) trivial ?_
                simp only [Act.put, List.setIfInBounds_toArray, List.set_cons_zero, List.set_cons_succ]
                refine wpAnyH_take (i := 13) (oi := { dst := some 82, op := Op.indexAddr 22 (Operand.tmp 80) (Operand.tmp 81), type := 0, pos := "law.go:121", after := #[{ on := 11, ground := Ground.data }, { on := 12, ground := Ground.data }, { on := 9, ground := Ground.guard }], guard := some (9, false) }) (v := undef) rfl (by kernel_rfl) (by kernel_rfl) (by kernel_rfl) (fun _ _ _ h => h) (Or.inr ⟨by rfl, rfl⟩) trivial ?_
                simp only [Act.put, List.setIfInBounds_toArray, List.set_cons_zero, List.set_cons_succ]
                refine wpAnyH_take (i := 14) (oi := { dst := some 83, op := Op.load 33 (Operand.tmp 82), type := 33, pos := "law.go:121", after := #[{ on := 13, ground := Ground.data }, { on := 9, ground := Ground.guard }], guard := some (9, false) }) (v := undef) rfl (by kernel_rfl) (by kernel_rfl) (by kernel_rfl) (fun _ _ _ h => h) (Or.inr ⟨by rfl, rfl⟩) trivial ?_
                simp only [Act.put, List.setIfInBounds_toArray, List.set_cons_zero, List.set_cons_succ]
                refine wpAnyH_take (i := 15) (oi := { dst := some 84, op := Op.call { callee := Callee.value (Operand.func 11), args := #[Operand.tmp 79, Operand.tmp 83], argTypes := #[33, 33] }, type := 4, pos := "law.go:121", after := #[{ on := 10, ground := Ground.data }, { on := 14, ground := Ground.data }, { on := 9, ground := Ground.chain }, { on := 9, ground := Ground.guard }], guard := some (9, false) }) (v := undef) rfl (by kernel_rfl) (by kernel_rfl) (by kernel_rfl) (fun _ _ _ h => h) (Or.inr ⟨by rfl, rfl⟩) trivial ?_
                simp only [Act.put, List.setIfInBounds_toArray, List.set_cons_zero, List.set_cons_succ]
                refine wpAnyH_take (i := 16) (oi := { dst := some 85, op := Op.unOp UnOp.not 4 (Operand.tmp 84), type := 4, pos := "law.go:121", after := #[{ on := 15, ground := Ground.data }, { on := 9, ground := Ground.guard }], guard := some (9, false) }) (v := undef) rfl (by kernel_rfl) (by kernel_rfl) (by kernel_rfl) (fun _ _ _ h => h) (Or.inr ⟨by rfl, rfl⟩) trivial ?_
                simp only [Act.put, List.setIfInBounds_toArray, List.set_cons_zero, List.set_cons_succ]
                refine wpAnyH_take (i := 17) (oi := { dst := some 86, op := Op.pick (Operand.tmp 78) (Operand.const (Value.bool true)) (Operand.tmp 85), type := 4, pos := "law.go:121", after := #[{ on := 9, ground := Ground.data }, { on := 16, ground := Ground.data }, { on := 6, ground := Ground.guard }], guard := some (6, true) }) (v := undef) rfl (by kernel_rfl) (by kernel_rfl) (by kernel_rfl) (fun _ _ _ h => h) (Or.inr ⟨by rfl, rfl⟩) trivial ?_
                simp only [Act.put, List.setIfInBounds_toArray, List.set_cons_zero, List.set_cons_succ]
                refine wpAnyH_take (i := 18) (oi := { dst := some 87, op := Op.pick (Operand.tmp 75) (Operand.tmp 86) (Operand.const (Value.bool false)), type := 4, pos := "law.go:121", after := #[{ on := 6, ground := Ground.data }, { on := 17, ground := Ground.data }], guard := none }) (v := .bool false) rfl (by kernel_rfl) (by kernel_rfl) (by kernel_rfl) (fun _ _ _ h => h) (Or.inl ⟨by rfl, ?_⟩) trivial ?_
                · rintro w -
                  go_simp
                simp only [Act.put, List.setIfInBounds_toArray, List.set_cons_zero, List.set_cons_succ]
                refine wpAnyH_done (by kernel_rfl) ?_ _
                have BK9 := hide (BK8.out.quiet (Turns.drew (Turns.refl _ w9)))
                go_wp2_with fail
                go_roundw
                case rel => exact ⟨k + 1, _, _, _, _, _, L, by go_num, hkk, BK9.out⟩
                case measure => simp [intOf]; omega
              · have HAL := hide (show an' ≤ 1000000 by
                  have he := HED.out w (Turns.refl _ _)
                  rw [hal]
                  refine editB_len he.b1 he.b2 he.b3 (fun d hd => ?_) (fun d hd => ?_) (by have := he.dlen; have := he.dmx; omega) (by have := he.alen; have := he.amx; omega) (Nat.le_trans HBY.out (by omega))
                  · obtain ⟨q, hq⟩ := List.getElem?_of_mem hd; exact (he.drops q d hq).1
                  · have := he.fit d hd; exact ⟨this.1, HSQ.out d hd, this.2.1, this.2.2⟩)
                have HAB := hide hab
                clear hal hab
                go_wp2_with fail
                refine (parse_any ap an' ac' _ w7 HAB.out HAL.out).mono ?_
                rintro e w8 ⟨t8, v, z, rfl, ⟨da', dn', dc', sa, sn, sc, y1, y2, y3, rfl⟩, _⟩
                have tA : Turns (fun _ => False) w8 (w8.alloc (.cells #[.slice da' dn' dc', .slice sa sn sc, .int .u64 (y1 : Nat), .int .u64 (y2 : Nat), .int .u64 (y3 : Nat)] 33)) := (Turns.refl _ _).alloc _
                have BK8 := hide (BK7.out.quiet (t8.trans tA))
                clear t8 tA HAB
                unfold edAgg
                go_upto_region 18 with (fail)
                generalize w8.alloc (.cells #[.slice da' dn' dc', .slice sa sn sc, .int .u64 (y1 : Nat), .int .u64 (y2 : Nat), .int .u64 (y3 : Nat)] 33) = w9 at *
                generalize w8.heap.size = P9 at *
                refine wp_region_held_drew (S := fun _ => True) (by kernel_rfl) trivial (fun _ => ?_)
                change wpAnyH _ _ _ _ _ 19 (Array.replicate 19 false) _ _
                refine wpAnyH_take (i := 0) (oi := { dst := some 69, op := Op.move (Operand.tmp 8), type := 34, pos := "law.go:121", after := #[], guard := none }) (v := .int .i64 0) rfl (by kernel_rfl) (by kernel_rfl) (by kernel_rfl) (fun _ _ _ h => h) (Or.inl ⟨by rfl, ?_⟩) trivial ?_
                · rintro w -
                  go_simp
                simp only [Act.put, List.setIfInBounds_toArray, List.set_cons_zero, List.set_cons_succ]
                refine wpAnyH_take (i := 1) (oi := { dst := some 70, op := Op.binOp BinOp.eql 34 (Operand.tmp 69) (Operand.const (Value.int IntKind.i64 0)) 34, type := 4, pos := "law.go:121", after := #[{ on := 0, ground := Ground.data }], guard := none }) (v := .bool true) rfl (by kernel_rfl) (by kernel_rfl) (by kernel_rfl) (fun _ _ _ h => h) (Or.inl ⟨by rfl, ?_⟩) trivial ?_
                · rintro w -
                  go_simp
                simp only [Act.put, List.setIfInBounds_toArray, List.set_cons_zero, List.set_cons_succ]
                refine wpAnyH_take (i := 2) (oi := { dst := some 71, op := Op.move (Operand.tmp 70), type := 4, pos := "law.go:121", after := #[{ on := 1, ground := Ground.data }], guard := none }) (v := .bool true) rfl (by kernel_rfl) (by kernel_rfl) (by kernel_rfl) (fun _ _ _ h => h) (Or.inl ⟨by rfl, ?_⟩) trivial ?_
                · rintro w -
                  go_simp
                simp only [Act.put, List.setIfInBounds_toArray, List.set_cons_zero, List.set_cons_succ]
                refine wpAnyH_take (i := 3) (oi := { dst := some 72, op := Op.move (Operand.tmp 6), type := 34, pos := "law.go:121", after := #[{ on := 2, ground := Ground.guard }], guard := some (2, true) }) (v := .int .i64 er) rfl (by kernel_rfl) (by kernel_rfl) (by kernel_rfl) (fun _ _ _ h => h) (Or.inl ⟨by rfl, ?_⟩) trivial ?_
                · rintro w -
                  go_simp
                simp only [Act.put, List.setIfInBounds_toArray, List.set_cons_zero, List.set_cons_succ]
                refine wpAnyH_take (i := 4) (oi := { dst := some 73, op := Op.binOp BinOp.eql 34 (Operand.tmp 72) (Operand.const (Value.int IntKind.i64 0)) 34, type := 4, pos := "law.go:121", after := #[{ on := 3, ground := Ground.data }, { on := 2, ground := Ground.guard }], guard := some (2, true) }) (v := .bool false) rfl (by kernel_rfl) (by kernel_rfl) (by kernel_rfl) (fun _ _ _ h => h) (Or.inl ⟨by rfl, ?_⟩) trivial ?_
                · rintro w -
                  go_simp
                simp only [Act.put, List.setIfInBounds_toArray, List.set_cons_zero, List.set_cons_succ]
                refine wpAnyH_take (i := 5) (oi := { dst := some 74, op := Op.pick (Operand.tmp 71) (Operand.tmp 73) (Operand.const (Value.bool false)), type := 4, pos := "law.go:121", after := #[{ on := 2, ground := Ground.data }, { on := 4, ground := Ground.data }], guard := none }) (v := .bool false) rfl (by kernel_rfl) (by kernel_rfl) (by kernel_rfl) (fun _ _ _ h => h) (Or.inl ⟨by rfl, ?_⟩) trivial ?_
                · rintro w -
                  go_simp
                simp only [Act.put, List.setIfInBounds_toArray, List.set_cons_zero, List.set_cons_succ]
                refine wpAnyH_take (i := 6) (oi := { dst := some 75, op := Op.move (Operand.tmp 74), type := 4, pos := "law.go:121", after := #[{ on := 5, ground := Ground.data }, { on := 2, ground := Ground.chain }], guard := none }) (v := .bool false) rfl (by kernel_rfl) (by kernel_rfl) (by kernel_rfl) (fun _ _ _ h => h) (Or.inl ⟨by rfl, ?_⟩) trivial ?_
                · rintro w -
                  go_simp
                simp only [Act.put, List.setIfInBounds_toArray, List.set_cons_zero, List.set_cons_succ]
                refine wpAnyH_take (i := 7) (oi := { dst := some 76, op := Op.move (Operand.tmp 10), type := 34, pos := "law.go:121", after := #[{ on := 6, ground := Ground.guard }], guard := some (6, true) }) (v := undef) rfl (by kernel_rfl) (by kernel_rfl) (by kernel_rfl) (fun _ _ _ h => h) (Or.inr ⟨by rfl, rfl⟩) trivial ?_
                simp only [Act.put, List.setIfInBounds_toArray, List.set_cons_zero, List.set_cons_succ]
                refine wpAnyH_take (i := 8) (oi := { dst := some 77, op := Op.binOp BinOp.neq 34 (Operand.tmp 76) (Operand.const (Value.int IntKind.i64 0)) 34, type := 4, pos := "law.go:121", after := #[{ on := 7, ground := Ground.data }, { on := 6, ground := Ground.guard }], guard := some (6, true) }) (v := undef) rfl (by kernel_rfl) (by kernel_rfl) (by kernel_rfl) (fun _ _ _ h => h) (Or.inr ⟨by rfl, rfl⟩) trivial ?_
                simp only [Act.put, List.setIfInBounds_toArray, List.set_cons_zero, List.set_cons_succ]
                refine wpAnyH_take (i := 9) (oi := { dst := some 78, op := Op.move (Operand.tmp 77), type := 4, pos := "law.go:121", after := #[{ on := 8, ground := Ground.data }, { on := 6, ground := Ground.chain }, { on := 6, ground := Ground.guard }], guard := some (6, true) }) (v := undef) rfl (by kernel_rfl) (by kernel_rfl) (by kernel_rfl) (fun _ _ _ h => h) (Or.inr ⟨by rfl, rfl⟩) trivial ?_
                simp only [Act.put, List.setIfInBounds_toArray, List.set_cons_zero, List.set_cons_succ]
                refine wpAnyH_take (i := 10) (oi := { dst := some 79, op := Op.load 33 (Operand.tmp 9), type := 33, pos := "law.go:121", after := #[{ on := 9, ground := Ground.guard }], guard := some (9, false) }) (v := undef) rfl (by kernel_rfl) (by kernel_rfl) (by kernel_rfl) (fun _ _ _ h => h) (Or.inr ⟨by rfl, rfl⟩) trivial ?_
                simp only [Act.put, List.setIfInBounds_toArray, List.set_cons_zero, List.set_cons_succ]
                refine wpAnyH_take (i := 11) (oi := { dst := some 80, op := Op.move (Operand.tmp 0), type := 22, pos := "law.go:121", after := #[{ on := 9, ground := Ground.guard }], guard := some (9, false) }) (v := undef) rfl (by kernel_rfl) (by kernel_rfl) (by kernel_rfl) (fun _ _ _ h => h) (Or.inr ⟨by rfl, rfl⟩) trivial ?_
                simp only [Act.put, List.setIfInBounds_toArray, List.set_cons_zero, List.set_cons_succ]
                refine wpAnyH_take (i := 12) (oi := { dst := some 81, op := Op.move (Operand.tmp 4), type := 3, pos := "law.go:121", after := #[{ on := 9, ground := Ground.guard }], guard := some (9, false) }) (v := undef) rfl (by kernel_rfl) (by kernel_rfl) (by kernel_rfl) (fun _ _ _ h => h) (Or.inr ⟨by rfl, rfl⟩) trivial ?_
                simp only [Act.put, List.setIfInBounds_toArray, List.set_cons_zero, List.set_cons_succ]
                refine wpAnyH_take (i := 13) (oi := { dst := some 82, op := Op.indexAddr 22 (Operand.tmp 80) (Operand.tmp 81), type := 0, pos := "law.go:121", after := #[{ on := 11, ground := Ground.data }, { on := 12, ground := Ground.data }, { on := 9, ground := Ground.guard }], guard := some (9, false) }) (v := undef) rfl (by kernel_rfl) (by kernel_rfl) (by kernel_rfl) (fun _ _ _ h => h) (Or.inr ⟨by rfl, rfl⟩) trivial ?_
                simp only [Act.put, List.setIfInBounds_toArray, List.set_cons_zero, List.set_cons_succ]
                refine wpAnyH_take (i := 14) (oi := { dst := some 83, op := Op.load 33 (Operand.tmp 82), type := 33, pos := "law.go:121", after := #[{ on := 13, ground := Ground.data }, { on := 9, ground := Ground.guard }], guard := some (9, false) }) (v := undef) rfl (by kernel_rfl) (by kernel_rfl) (by kernel_rfl) (fun _ _ _ h => h) (Or.inr ⟨by rfl, rfl⟩) trivial ?_
                simp only [Act.put, List.setIfInBounds_toArray, List.set_cons_zero, List.set_cons_succ]
                refine wpAnyH_take (i := 15) (oi := { dst := some 84, op := Op.call { callee := Callee.value (Operand.func 11), args := #[Operand.tmp 79, Operand.tmp 83], argTypes := #[33, 33] }, type := 4, pos := "law.go:121", after := #[{ on := 10, ground := Ground.data }, { on := 14, ground := Ground.data }, { on := 9, ground := Ground.chain }, { on := 9, ground := Ground.guard }], guard := some (9, false) }) (v := undef) rfl (by kernel_rfl) (by kernel_rfl) (by kernel_rfl) (fun _ _ _ h => h) (Or.inr ⟨by rfl, rfl⟩) trivial ?_
                simp only [Act.put, List.setIfInBounds_toArray, List.set_cons_zero, List.set_cons_succ]
                refine wpAnyH_take (i := 16) (oi := { dst := some 85, op := Op.unOp UnOp.not 4 (Operand.tmp 84), type := 4, pos := "law.go:121", after := #[{ on := 15, ground := Ground.data }, { on := 9, ground := Ground.guard }], guard := some (9, false) }) (v := undef) rfl (by kernel_rfl) (by kernel_rfl) (by kernel_rfl) (fun _ _ _ h => h) (Or.inr ⟨by rfl, rfl⟩) trivial ?_
                simp only [Act.put, List.setIfInBounds_toArray, List.set_cons_zero, List.set_cons_succ]
                refine wpAnyH_take (i := 17) (oi := { dst := some 86, op := Op.pick (Operand.tmp 78) (Operand.const (Value.bool true)) (Operand.tmp 85), type := 4, pos := "law.go:121", after := #[{ on := 9, ground := Ground.data }, { on := 16, ground := Ground.data }, { on := 6, ground := Ground.guard }], guard := some (6, true) }) (v := undef) rfl (by kernel_rfl) (by kernel_rfl) (by kernel_rfl) (fun _ _ _ h => h) (Or.inr ⟨by rfl, rfl⟩) trivial ?_
                simp only [Act.put, List.setIfInBounds_toArray, List.set_cons_zero, List.set_cons_succ]
                refine wpAnyH_take (i := 18) (oi := { dst := some 87, op := Op.pick (Operand.tmp 75) (Operand.tmp 86) (Operand.const (Value.bool false)), type := 4, pos := "law.go:121", after := #[{ on := 6, ground := Ground.data }, { on := 17, ground := Ground.data }], guard := none }) (v := .bool false) rfl (by kernel_rfl) (by kernel_rfl) (by kernel_rfl) (fun _ _ _ h => h) (Or.inl ⟨by rfl, ?_⟩) trivial ?_
                · rintro w -
                  go_simp
                simp only [Act.put, List.setIfInBounds_toArray, List.set_cons_zero, List.set_cons_succ]
                refine wpAnyH_done (by kernel_rfl) ?_ _
                have BK9 := hide (BK8.out.quiet (Turns.drew (Turns.refl _ w9)))
                go_wp2_with fail
                go_roundw
                case rel => exact ⟨k + 1, _, _, _, _, _, L, by go_num, hkk, BK9.out⟩
                case measure => simp [intOf]; omega
      · obtain rfl : n = k := by omega
        have i1 : ¬ (n : Int) < (n : Int) := by omega
        have v0 := cell_of_row wr V 0 _ 27 (0, 0) HB.out.blk
        have v1 := cell_of_row wr V 1 _ 27 (0, 0) HB.out.blk
        have v2 := cell_of_row wr V 2 _ 27 (0, 0) HB.out.blk
        have v3 := cell_of_row wr V 3 _ 27 (0, 0) HB.out.blk
        have CW := hide (whole_any pa 5 pc p1 p2 p3 L wr HB.out.ver.ver)
        unfold verAgg at CW
        go_wp2_with fail
        refine CW.out.mono ?_
        rintro e w4 ⟨t4, hwd⟩
        obtain ⟨sa, sn, sc, A, rfl, hsn, hfa, hadds⟩ : ∃ sa sn sc A, e = .returned (.tuple #[edAgg none 0 0 sa sn sc p1 p2 p3, .int .i64 0]) ∧ sn = List.length A ∧ fA A = wholeF (flL L) ∧ Adds w4 sa A := by
          rcases hwd with ⟨h1, _⟩ | ⟨_, h⟩
          · rw [HB.out.ver.ok] at h1; cases h1
          · exact h
        have WH := hide (wh_of HB.out.ver hn20 hfa)
        have tA : Turns (fun _ => False) w4 (w4.alloc (.cells #[.slice none 0 0, .slice sa sn sc, .int .u64 (p1 : Nat), .int .u64 (p2 : Nat), .int .u64 (p3 : Nat)] 33)) := (Turns.refl _ _).alloc _
        have HB5 := hide (HB.out.quiet (t4.trans tA))
        have P4 := hide (heap_alloc_new w4 (.cells #[.slice none 0 0, .slice sa sn sc, .int .u64 (p1 : Nat), .int .u64 (p2 : Nat), .int .u64 (p3 : Nat)] 33))
        have HAD := hide (hadds.quiet tA)
        have HSN := hide hsn
        have HEB := hide (show (fA A).any wrongA = false ∧ parseG (editB p1 p2 p3 [] (fA A)) = some ((p1, p2, p3), [], fA A) from by
          have h1 := WH.out.len
          have h2 : (fA A).length = A.length := by unfold fA; rw [List.length_map]
          have h3 := wholeEdit HB.out.ver.ok (by rw [← hfa]; omega)
          rw [← hfa] at h3
          exact h3)
        clear t4 hwd hsn hfa hadds tA CW v0 v1 v2 v3
        unfold edAgg
        go_upto_region 21 with (fail)
        generalize w4.alloc (.cells #[.slice none 0 0, .slice sa sn sc, .int .u64 (p1 : Nat), .int .u64 (p2 : Nat), .int .u64 (p3 : Nat)] 33) = w5 at *
        generalize w4.heap.size = Q4 at *
        have q0 := cell_of_row w5 Q4 0 _ 33 (0, 0) P4.out
        have q1 := cell_of_row w5 Q4 1 _ 33 (0, 0) P4.out
        have q2 := cell_of_row w5 Q4 2 _ 33 (0, 0) P4.out
        have q3 := cell_of_row w5 Q4 3 _ 33 (0, 0) P4.out
        have q4 := cell_of_row w5 Q4 4 _ 33 (0, 0) P4.out
        have hei : EdIn w5 none 0 sa sn [] A p1 p2 p3 := ⟨fun k d hd => (by simp at hd), rfl, by omega, HAD.out, HSN.out, by have := WH.out.len; have := HSN.out; omega, WH.out.fit, HB5.out.ver.ver.b1, HB5.out.ver.ver.b2, HB5.out.ver.ver.b3⟩
        have CAP := hide (append_any none 0 0 sa sn sc p1 p2 p3 [] A w5 hei WH.out.seq (Nat.le_trans WH.out.keys (by omega)))
        have HAL := hide (show (editB p1 p2 p3 [] (fA A)).length ≤ 1000000 from editB_len HB5.out.ver.ver.b1 HB5.out.ver.ver.b2 HB5.out.ver.ver.b3 (fun d hd => (by simp at hd)) (fun d hd => ⟨(WH.out.fit d hd).1, WH.out.seq d hd, (WH.out.fit d hd).2⟩) (by simp) (by have := WH.out.len; omega) (Nat.le_trans WH.out.keys (by omega)))
        unfold edAgg at CAP
        clear hei
        go_wp2_with fail
        refine CAP.out.mono ?_
        rintro e w6 ⟨t6, hApp⟩
        obtain ⟨ap, an', ac', rfl, hal, hab⟩ : ∃ a n c, e = .returned (.tuple #[.slice a n c, .int .i64 0]) ∧ n = (editB p1 p2 p3 [] (fA A)).length ∧ Bytes w6 (.slice a n c) (editB p1 p2 p3 [] (fA A)) := by
          rcases hApp with ⟨h1, _⟩ | ⟨_, _, h⟩
          · exfalso
            rcases h1 with h1 | h1
            · simp at h1
            · rw [HEB.out.1] at h1; cases h1
          · exact h
        have HB6 := hide (HB5.out.quiet t6)
        have HAB := hide hab
        have HALL := hide (show an' ≤ 1000000 by rw [hal]; exact HAL.out)
        clear t6 hApp hal hab CAP q0 q1 q2 q3 q4 P4 HAD HSN
        go_wp2_with fail
        refine (parse_any ap an' ac' _ w6 HAB.out HALL.out).mono ?_
        rintro e w7 ⟨t7, v, z, rfl, _, hpar⟩
        obtain ⟨rfl, da, dn, dc, sb, sm, sd, A', rfl, h1, h2, h3, h4, h5⟩ := hpar _ HEB.out.2
        simp only at h1 h2 h3 h4 h5
        obtain rfl : dn = 0 := by simpa using h1
        have tA : Turns (fun _ => False) w7 (w7.alloc (.cells #[.slice da 0 dc, .slice sb sm sd, .int .u64 (p1 : Nat), .int .u64 (p2 : Nat), .int .u64 (p3 : Nat)] 33)) := (Turns.refl _ _).alloc _
        have HB8 := hide (HB6.out.quiet (t7.trans tA))
        have P8 := hide (heap_alloc_new w7 (.cells #[.slice da 0 dc, .slice sb sm sd, .int .u64 (p1 : Nat), .int .u64 (p2 : Nat), .int .u64 (p3 : Nat)] 33))
        have HPA := hide (h5.quiet tA)
        have HPN := hide h3
        have WH2 := hide (WH.out.other h4)
        clear t7 hpar h1 h2 h3 h4 h5 tA HAB
        unfold edAgg
        simp only
        go_upto_region 23 with (fail)
        generalize w7.alloc (.cells #[.slice da 0 dc, .slice sb sm sd, .int .u64 (p1 : Nat), .int .u64 (p2 : Nat), .int .u64 (p3 : Nat)] 33) = w8 at *
        generalize w7.heap.size = P7 at *
        have HEI := hide (fun (u : World) (t : Turns (fun _ => False) w8 u) => show EdIn u da 0 sb sm [] A' p1 p2 p3 from ⟨fun k d hd => (by simp at hd), rfl, by omega, HPA.out.quiet t, HPN.out, by have := WH2.out.len; have := HPN.out; omega, WH2.out.fit, HB8.out.ver.ver.b1, HB8.out.ver.ver.b2, HB8.out.ver.ver.b3⟩)
        have CG := hide (fun (u : World) (G0 : Nat) (L0 : List Lv) (t : Turns (fun _ => False) w8 u) (hV : VerIn u (some ⟨G0, 0, none⟩) 5 L0 1 0 0) (hL : flL L0 = [[], [], [], [], []]) => again_any (dc := dc) (sc := sd) hV hL (HEI.out u t) WH2.out HB8.out.ver.ok)
        unfold verAgg edAgg at CG
        have SK := hide (fun (u : World) (t : Turns (fun _ => False) w8 u) => show u.cell? ⟨P7, 0, none⟩ = some (.slice da 0 dc) ∧ u.cell? ⟨P7, 1, none⟩ = some (.slice sb sm sd) ∧ u.cell? ⟨P7, 2, none⟩ = some (.int .u64 (p1 : Nat)) ∧ u.cell? ⟨P7, 3, none⟩ = some (.int .u64 (p2 : Nat)) ∧ u.cell? ⟨P7, 4, none⟩ = some (.int .u64 (p3 : Nat)) from ⟨t.cell (cell_of_row w8 P7 0 _ 33 (0, 0) P8.out) (fun x => x), t.cell (cell_of_row w8 P7 1 _ 33 (0, 0) P8.out) (fun x => x), t.cell (cell_of_row w8 P7 2 _ 33 (0, 0) P8.out) (fun x => x), t.cell (cell_of_row w8 P7 3 _ 33 (0, 0) P8.out) (fun x => x), t.cell (cell_of_row w8 P7 4 _ 33 (0, 0) P8.out) (fun x => x)⟩)
        go_cut [17, 18] from 103 (fun v17 v18 wc => ∃ (U G c2 : Nat) (L' : List Lv), v17 = .pointer (some ⟨U, 0, none⟩) ∧ v18 = .int .i64 0 ∧ wc.heap[U]? = some (.cells #[.slice (some ⟨G, 0, none⟩) 5 c2, .int .u64 (p1 : Nat), .int .u64 (p2 : Nat), .int .u64 (p3 : Nat)] 27 (0, 0)) ∧ Turns (fun _ => False) w8 wc ∧ flL L' = flL L ∧ VerIn wc (some ⟨G, 0, none⟩) 5 L' p1 p2 p3)
        case first =>
          rename_i kk rest jj kk' m1 m2
          clear rest
          have tV : Turns (fun _ => False) w8 w8.drew := (Turns.refl _ _).drew
          refine wp_region_z_drew 7 (S := fun u => u.cell? ⟨P7, 0, none⟩ = some (.slice da 0 dc) ∧ u.cell? ⟨P7, 1, none⟩ = some (.slice sb sm sd) ∧ u.cell? ⟨P7, 2, none⟩ = some (.int .u64 (p1 : Nat)) ∧ u.cell? ⟨P7, 3, none⟩ = some (.int .u64 (p2 : Nat)) ∧ u.cell? ⟨P7, 4, none⟩ = some (.int .u64 (p3 : Nat))) (by kernel_rfl) (SK.out _ tV) (fun _ => ?_)
          change wpAnyZ _ _ _ _ _ _ 9 (Array.replicate 9 false) _ _
          refine wpAnyZ_take (i := 1) (oi := { dst := some 105, op := Op.load 33 (Operand.tmp 15), type := 33, pos := "law.go:128", after := #[], guard := none }) (v := .agg #[.slice da 0 dc, .slice sb sm sd, .int .u64 (p1 : Nat), .int .u64 (p2 : Nat), .int .u64 (p3 : Nat)]) rfl (by kernel_rfl) (by kernel_rfl) (by kernel_rfl) (by kernel_rfl) (fun _ _ _ h => h) (Or.inl ⟨by rfl, ?_⟩) (SK.out _ tV) ?_
          · rintro w ⟨d0, d1, d2, d3, d4⟩
            go_simp
          simp only [Act.put, List.setIfInBounds_toArray, List.set_cons_zero, List.set_cons_succ]
          generalize w8.drew = Wd at *
          refine wpAnyZ_ready (rs := [0, 6]) (by kernel_rfl) (by simp) ?_
          refine AllReadyZ.cons rfl (fun K hK => ?_) (AllReadyZ.cons rfl (fun K hK => ?_) (AllReadyZ.nil))
          · go_simp
            refine (first_any _).mono ?_
            rintro oo uF ⟨G0, L0, rfl, hV0, hL0, tN⟩
            have tV := tV.trans tN
            clear tN
            unfold verAgg
            go_simp
            refine hK.out _ _ (SK.out _ tV) (fun _ => ?_)
            clear hK K
            refine wpAnyZ_ready (rs := [2, 6]) (by kernel_rfl) (by simp) ?_
            refine AllReadyZ.cons rfl (fun K hK => ?_) (AllReadyZ.cons rfl (fun K hK => ?_) (AllReadyZ.nil))
            · go_simp
              refine (CG.out _ G0 L0 tV hV0 hL0).mono ?_
              rintro oo uP ⟨tN, G, c2, L', rfl, hfl, hver, hdr⟩
              have tV := tV.trans tN
              clear tN hV0 hL0
              go_simp
              refine hK.out _ _ (SK.out _ tV) (fun _ => ?_)
              clear hK K
              refine wpAnyZ_take (i := 3) (oi := { dst := some 103, op := Op.move (Operand.tmp 106), type := 35, pos := "law.go:128", after := #[{ on := 2, ground := Ground.data }], guard := none }) (v := .tuple #[.agg #[.slice (some ⟨G, 0, none⟩) 5 c2, .int .u64 (p1 : Nat), .int .u64 (p2 : Nat), .int .u64 (p3 : Nat)], .int .i64 0]) rfl (by kernel_rfl) (by kernel_rfl) (by kernel_rfl) (by kernel_rfl) (fun _ _ _ h => h) (Or.inl ⟨by rfl, ?_⟩) (SK.out _ tV) ?_
              · rintro w ⟨d0, d1, d2, d3, d4⟩
                go_simp
              simp only [Act.put, List.setIfInBounds_toArray, List.set_cons_zero, List.set_cons_succ]
              refine wpAnyZ_take (i := 4) (oi := { dst := some 107, op := Op.extract (Operand.tmp 103) 0, type := 27, pos := "law.go:128", after := #[{ on := 3, ground := Ground.data }], guard := none }) (v := .agg #[.slice (some ⟨G, 0, none⟩) 5 c2, .int .u64 (p1 : Nat), .int .u64 (p2 : Nat), .int .u64 (p3 : Nat)]) rfl (by kernel_rfl) (by kernel_rfl) (by kernel_rfl) (by kernel_rfl) (fun _ _ _ h => h) (Or.inl ⟨by rfl, ?_⟩) (SK.out _ tV) ?_
              · rintro w ⟨d0, d1, d2, d3, d4⟩
                go_simp
              simp only [Act.put, List.setIfInBounds_toArray, List.set_cons_zero, List.set_cons_succ]
              refine wpAnyZ_late (i := 5) (oi := { dst := some 108, op := Op.extract (Operand.tmp 103) 1, type := 34, pos := "law.go:128", after := #[{ on := 3, ground := Ground.data }, { on := 7, ground := Ground.gcOnly Departure.lateStores }], guard := none }) (v := .int .i64 0) rfl (by kernel_rfl) (by kernel_rfl) (by kernel_rfl) (by kernel_rfl) (fun _ _ _ h => h) (Or.inl ⟨by rfl, ?_⟩) (.inr (SK.out _ tV)) ?_
              · rintro w -
                go_simp
              simp only [Act.put, List.setIfInBounds_toArray, List.set_cons_zero, List.set_cons_succ]
              refine wpAnyZ_ready (rs := [6]) (by kernel_rfl) (by simp) ?_
              refine AllReadyZ.cons rfl (fun K hK => ?_) (AllReadyZ.nil)
              go_simp
              obtain ⟨uA, huA⟩ : ∃ uA, uA = uP.alloc (.cells #[.slice none 0 0, .int .u64 0, .int .u64 0, .int .u64 0] 27) := ⟨_, rfl⟩
              have hnA : uA.heap[uP.heap.size]? = some (.cells #[.slice none 0 0, .int .u64 0, .int .u64 0, .int .u64 0] 27) := by rw [huA]; exact heap_alloc_new _ _
              have tA : Turns (fun _ => False) uP uA := by rw [huA]; exact (Turns.refl _ _).alloc _
              have hsz := tV.size
              have tV := tV.trans tA
              have hver := hver.quiet tA
              have hdr := hdr.quiet tA
              rw [← huA]
              refine hK.out _ _ (SK.out _ tV) (fun _ => ?_)
              clear hK K tA huA
              obtain ⟨PA, hPA⟩ : ∃ PA, PA = uP.heap.size := ⟨_, rfl⟩
              have HPP := hide (show w8.heap.size ≤ PA from by rw [hPA]; exact hsz)
              rw [← hPA]
              replace hnA : uA.heap[PA]? = some (.cells #[.slice none 0 0, .int .u64 0, .int .u64 0, .int .u64 0] 27) := by rw [hPA]; exact hnA
              clear hPA hsz
              have e0 := cell_of_row uA PA 0 _ 27 (0, 0) hnA
              have e1 := cell_of_row uA PA 1 _ 27 (0, 0) hnA
              have e2 := cell_of_row uA PA 2 _ 27 (0, 0) hnA
              have e3 := cell_of_row uA PA 3 _ 27 (0, 0) hnA
              have z0 := frozen_of_row uA PA 0 _ 27 hnA
              have z1 := frozen_of_row uA PA 1 _ 27 hnA
              have z2 := frozen_of_row uA PA 2 _ 27 hnA
              have z3 := frozen_of_row uA PA 3 _ 27 hnA
              have TK := hide ((((Tick.refl hnA).set 0 (.slice (some ⟨G, 0, none⟩) 5 c2)).set 1 (.int .u64 (p1 : Nat))).set 2 (.int .u64 (p2 : Nat)) |>.set 3 (.int .u64 (p3 : Nat)))
              have HVV := hide (show VerIn _ (some ⟨G, 0, none⟩) 5 L' p1 p2 p3 from { hver with levs := (hdr.alien (Turns.of_tick TK.out) hnA (by decide) (by decide) (by decide)).levs })
              have TV := hide (tV.andThen (Turns.of_tick TK.out) fun j hj e => by have := HPP.out; omega)
              have HFL := hide hfl
              clear hnA tV hver hdr hfl
              refine wpAnyZ_ready (rs := [7]) (by kernel_rfl) (by simp) ?_
              refine AllReadyZ.free rfl (by kernel_rfl) (fun K hK => ?_) AllReadyZ.nil
              go_simp
              refine hK.out _ _ ?_
              clear hK K
              refine wpAnyZ_late (i := 8) (oi := { dst := some 18, op := Op.assign (Operand.tmp 108), type := 34, pos := "law.go:128", after := #[{ on := 5, ground := Ground.data }, { on := 7, ground := Ground.chain }, { on := 0, ground := Ground.phase }, { on := 1, ground := Ground.phase }, { on := 2, ground := Ground.phase }, { on := 3, ground := Ground.phase }, { on := 4, ground := Ground.phase }, { on := 5, ground := Ground.phase }, { on := 6, ground := Ground.phase }, { on := 7, ground := Ground.phase }], guard := none }) (v := .int .i64 0) rfl (by kernel_rfl) (by kernel_rfl) (by kernel_rfl) (by kernel_rfl) (fun _ _ _ h => h) (Or.inl ⟨by rfl, ?_⟩) (.inl (by kernel_rfl)) ?_
              · rintro w -
                go_simp
              simp only [Act.put, List.setIfInBounds_toArray, List.set_cons_zero, List.set_cons_succ]
              refine wpAnyZ_done (by kernel_rfl) ?_ _
              go_wp2_with fail
              go_meet
              exact ⟨PA, G, c2, L', rfl, rfl, TK.out.1, TV.out, HFL.out, HVV.out⟩
            · go_simp
              obtain ⟨uA, huA⟩ : ∃ uA, uA = uF.alloc (.cells #[.slice none 0 0, .int .u64 0, .int .u64 0, .int .u64 0] 27) := ⟨_, rfl⟩
              have hnA : uA.heap[uF.heap.size]? = some (.cells #[.slice none 0 0, .int .u64 0, .int .u64 0, .int .u64 0] 27) := by rw [huA]; exact heap_alloc_new _ _
              have tA : Turns (fun _ => False) uF uA := by rw [huA]; exact (Turns.refl _ _).alloc _
              have hsz := tV.size
              have tV := tV.trans tA
              have hV0 := hV0.quiet tA
              rw [← huA]
              refine hK.out _ _ (SK.out _ tV) (fun _ => ?_)
              clear hK K tA huA
              obtain ⟨PA, hPA⟩ : ∃ PA, PA = uF.heap.size := ⟨_, rfl⟩
              have HPP := hide (show w8.heap.size ≤ PA from by rw [hPA]; exact hsz)
              rw [← hPA]
              replace hnA : uA.heap[PA]? = some (.cells #[.slice none 0 0, .int .u64 0, .int .u64 0, .int .u64 0] 27) := by rw [hPA]; exact hnA
              clear hPA hsz
              refine wpAnyZ_ready (rs := [2]) (by kernel_rfl) (by simp) ?_
              refine AllReadyZ.cons rfl (fun K hK => ?_) (AllReadyZ.nil)
              go_simp
              refine (CG.out _ G0 L0 tV hV0 hL0).mono ?_
              rintro oo uP ⟨tN, G, c2, L', rfl, hfl, hver, hdr⟩
              have hnA := tN.heap hnA (fun x => x)
              have tV := tV.trans tN
              clear tN hV0 hL0
              go_simp
              refine hK.out _ _ (SK.out _ tV) (fun _ => ?_)
              clear hK K
              refine wpAnyZ_take (i := 3) (oi := { dst := some 103, op := Op.move (Operand.tmp 106), type := 35, pos := "law.go:128", after := #[{ on := 2, ground := Ground.data }], guard := none }) (v := .tuple #[.agg #[.slice (some ⟨G, 0, none⟩) 5 c2, .int .u64 (p1 : Nat), .int .u64 (p2 : Nat), .int .u64 (p3 : Nat)], .int .i64 0]) rfl (by kernel_rfl) (by kernel_rfl) (by kernel_rfl) (by kernel_rfl) (fun _ _ _ h => h) (Or.inl ⟨by rfl, ?_⟩) (SK.out _ tV) ?_
              · rintro w ⟨d0, d1, d2, d3, d4⟩
                go_simp
              simp only [Act.put, List.setIfInBounds_toArray, List.set_cons_zero, List.set_cons_succ]
              refine wpAnyZ_take (i := 4) (oi := { dst := some 107, op := Op.extract (Operand.tmp 103) 0, type := 27, pos := "law.go:128", after := #[{ on := 3, ground := Ground.data }], guard := none }) (v := .agg #[.slice (some ⟨G, 0, none⟩) 5 c2, .int .u64 (p1 : Nat), .int .u64 (p2 : Nat), .int .u64 (p3 : Nat)]) rfl (by kernel_rfl) (by kernel_rfl) (by kernel_rfl) (by kernel_rfl) (fun _ _ _ h => h) (Or.inl ⟨by rfl, ?_⟩) (SK.out _ tV) ?_
              · rintro w ⟨d0, d1, d2, d3, d4⟩
                go_simp
              simp only [Act.put, List.setIfInBounds_toArray, List.set_cons_zero, List.set_cons_succ]
              refine wpAnyZ_late (i := 5) (oi := { dst := some 108, op := Op.extract (Operand.tmp 103) 1, type := 34, pos := "law.go:128", after := #[{ on := 3, ground := Ground.data }, { on := 7, ground := Ground.gcOnly Departure.lateStores }], guard := none }) (v := .int .i64 0) rfl (by kernel_rfl) (by kernel_rfl) (by kernel_rfl) (by kernel_rfl) (fun _ _ _ h => h) (Or.inl ⟨by rfl, ?_⟩) (.inr (SK.out _ tV)) ?_
              · rintro w -
                go_simp
              simp only [Act.put, List.setIfInBounds_toArray, List.set_cons_zero, List.set_cons_succ]
              have e0 := cell_of_row uP PA 0 _ 27 (0, 0) hnA
              have e1 := cell_of_row uP PA 1 _ 27 (0, 0) hnA
              have e2 := cell_of_row uP PA 2 _ 27 (0, 0) hnA
              have e3 := cell_of_row uP PA 3 _ 27 (0, 0) hnA
              have z0 := frozen_of_row uP PA 0 _ 27 hnA
              have z1 := frozen_of_row uP PA 1 _ 27 hnA
              have z2 := frozen_of_row uP PA 2 _ 27 hnA
              have z3 := frozen_of_row uP PA 3 _ 27 hnA
              have TK := hide ((((Tick.refl hnA).set 0 (.slice (some ⟨G, 0, none⟩) 5 c2)).set 1 (.int .u64 (p1 : Nat))).set 2 (.int .u64 (p2 : Nat)) |>.set 3 (.int .u64 (p3 : Nat)))
              have HVV := hide (show VerIn _ (some ⟨G, 0, none⟩) 5 L' p1 p2 p3 from { hver with levs := (hdr.alien (Turns.of_tick TK.out) hnA (by decide) (by decide) (by decide)).levs })
              have TV := hide (tV.andThen (Turns.of_tick TK.out) fun j hj e => by have := HPP.out; omega)
              have HFL := hide hfl
              clear hnA tV hver hdr hfl
              refine wpAnyZ_ready (rs := [7]) (by kernel_rfl) (by simp) ?_
              refine AllReadyZ.free rfl (by kernel_rfl) (fun K hK => ?_) AllReadyZ.nil
              go_simp
              refine hK.out _ _ ?_
              clear hK K
              refine wpAnyZ_late (i := 8) (oi := { dst := some 18, op := Op.assign (Operand.tmp 108), type := 34, pos := "law.go:128", after := #[{ on := 5, ground := Ground.data }, { on := 7, ground := Ground.chain }, { on := 0, ground := Ground.phase }, { on := 1, ground := Ground.phase }, { on := 2, ground := Ground.phase }, { on := 3, ground := Ground.phase }, { on := 4, ground := Ground.phase }, { on := 5, ground := Ground.phase }, { on := 6, ground := Ground.phase }, { on := 7, ground := Ground.phase }], guard := none }) (v := .int .i64 0) rfl (by kernel_rfl) (by kernel_rfl) (by kernel_rfl) (by kernel_rfl) (fun _ _ _ h => h) (Or.inl ⟨by rfl, ?_⟩) (.inl (by kernel_rfl)) ?_
              · rintro w -
                go_simp
              simp only [Act.put, List.setIfInBounds_toArray, List.set_cons_zero, List.set_cons_succ]
              refine wpAnyZ_done (by kernel_rfl) ?_ _
              go_wp2_with fail
              go_meet
              exact ⟨PA, G, c2, L', rfl, rfl, TK.out.1, TV.out, HFL.out, HVV.out⟩
          · go_simp
            obtain ⟨uA, huA⟩ : ∃ uA, uA = Wd.alloc (.cells #[.slice none 0 0, .int .u64 0, .int .u64 0, .int .u64 0] 27) := ⟨_, rfl⟩
            have hnA : uA.heap[Wd.heap.size]? = some (.cells #[.slice none 0 0, .int .u64 0, .int .u64 0, .int .u64 0] 27) := by rw [huA]; exact heap_alloc_new _ _
            have tA : Turns (fun _ => False) Wd uA := by rw [huA]; exact (Turns.refl _ _).alloc _
            have hsz := tV.size
            have tV := tV.trans tA
            rw [← huA]
            refine hK.out _ _ (SK.out _ tV) (fun _ => ?_)
            clear hK K tA huA
            obtain ⟨PA, hPA⟩ : ∃ PA, PA = Wd.heap.size := ⟨_, rfl⟩
            have HPP := hide (show w8.heap.size ≤ PA from by rw [hPA]; exact hsz)
            rw [← hPA]
            replace hnA : uA.heap[PA]? = some (.cells #[.slice none 0 0, .int .u64 0, .int .u64 0, .int .u64 0] 27) := by rw [hPA]; exact hnA
            clear hPA hsz
            refine wpAnyZ_ready (rs := [0]) (by kernel_rfl) (by simp) ?_
            refine AllReadyZ.cons rfl (fun K hK => ?_) (AllReadyZ.nil)
            go_simp
            refine (first_any _).mono ?_
            rintro oo uF ⟨G0, L0, rfl, hV0, hL0, tN⟩
            have hnA := tN.heap hnA (fun x => x)
            have tV := tV.trans tN
            clear tN
            unfold verAgg
            go_simp
            refine hK.out _ _ (SK.out _ tV) (fun _ => ?_)
            clear hK K
            refine wpAnyZ_ready (rs := [2]) (by kernel_rfl) (by simp) ?_
            refine AllReadyZ.cons rfl (fun K hK => ?_) (AllReadyZ.nil)
            go_simp
            refine (CG.out _ G0 L0 tV hV0 hL0).mono ?_
            rintro oo uP ⟨tN, G, c2, L', rfl, hfl, hver, hdr⟩
            have hnA := tN.heap hnA (fun x => x)
            have tV := tV.trans tN
            clear tN hV0 hL0
            go_simp
            refine hK.out _ _ (SK.out _ tV) (fun _ => ?_)
            clear hK K
            refine wpAnyZ_take (i := 3) (oi := { dst := some 103, op := Op.move (Operand.tmp 106), type := 35, pos := "law.go:128", after := #[{ on := 2, ground := Ground.data }], guard := none }) (v := .tuple #[.agg #[.slice (some ⟨G, 0, none⟩) 5 c2, .int .u64 (p1 : Nat), .int .u64 (p2 : Nat), .int .u64 (p3 : Nat)], .int .i64 0]) rfl (by kernel_rfl) (by kernel_rfl) (by kernel_rfl) (by kernel_rfl) (fun _ _ _ h => h) (Or.inl ⟨by rfl, ?_⟩) (SK.out _ tV) ?_
            · rintro w ⟨d0, d1, d2, d3, d4⟩
              go_simp
            simp only [Act.put, List.setIfInBounds_toArray, List.set_cons_zero, List.set_cons_succ]
            refine wpAnyZ_take (i := 4) (oi := { dst := some 107, op := Op.extract (Operand.tmp 103) 0, type := 27, pos := "law.go:128", after := #[{ on := 3, ground := Ground.data }], guard := none }) (v := .agg #[.slice (some ⟨G, 0, none⟩) 5 c2, .int .u64 (p1 : Nat), .int .u64 (p2 : Nat), .int .u64 (p3 : Nat)]) rfl (by kernel_rfl) (by kernel_rfl) (by kernel_rfl) (by kernel_rfl) (fun _ _ _ h => h) (Or.inl ⟨by rfl, ?_⟩) (SK.out _ tV) ?_
            · rintro w ⟨d0, d1, d2, d3, d4⟩
              go_simp
            simp only [Act.put, List.setIfInBounds_toArray, List.set_cons_zero, List.set_cons_succ]
            refine wpAnyZ_late (i := 5) (oi := { dst := some 108, op := Op.extract (Operand.tmp 103) 1, type := 34, pos := "law.go:128", after := #[{ on := 3, ground := Ground.data }, { on := 7, ground := Ground.gcOnly Departure.lateStores }], guard := none }) (v := .int .i64 0) rfl (by kernel_rfl) (by kernel_rfl) (by kernel_rfl) (by kernel_rfl) (fun _ _ _ h => h) (Or.inl ⟨by rfl, ?_⟩) (.inr (SK.out _ tV)) ?_
            · rintro w -
              go_simp
            simp only [Act.put, List.setIfInBounds_toArray, List.set_cons_zero, List.set_cons_succ]
            have e0 := cell_of_row uP PA 0 _ 27 (0, 0) hnA
            have e1 := cell_of_row uP PA 1 _ 27 (0, 0) hnA
            have e2 := cell_of_row uP PA 2 _ 27 (0, 0) hnA
            have e3 := cell_of_row uP PA 3 _ 27 (0, 0) hnA
            have z0 := frozen_of_row uP PA 0 _ 27 hnA
            have z1 := frozen_of_row uP PA 1 _ 27 hnA
            have z2 := frozen_of_row uP PA 2 _ 27 hnA
            have z3 := frozen_of_row uP PA 3 _ 27 hnA
            have TK := hide ((((Tick.refl hnA).set 0 (.slice (some ⟨G, 0, none⟩) 5 c2)).set 1 (.int .u64 (p1 : Nat))).set 2 (.int .u64 (p2 : Nat)) |>.set 3 (.int .u64 (p3 : Nat)))
            have HVV := hide (show VerIn _ (some ⟨G, 0, none⟩) 5 L' p1 p2 p3 from { hver with levs := (hdr.alien (Turns.of_tick TK.out) hnA (by decide) (by decide) (by decide)).levs })
            have TV := hide (tV.andThen (Turns.of_tick TK.out) fun j hj e => by have := HPP.out; omega)
            have HFL := hide hfl
            clear hnA tV hver hdr hfl
            refine wpAnyZ_ready (rs := [7]) (by kernel_rfl) (by simp) ?_
            refine AllReadyZ.free rfl (by kernel_rfl) (fun K hK => ?_) AllReadyZ.nil
            go_simp
            refine hK.out _ _ ?_
            clear hK K
            refine wpAnyZ_late (i := 8) (oi := { dst := some 18, op := Op.assign (Operand.tmp 108), type := 34, pos := "law.go:128", after := #[{ on := 5, ground := Ground.data }, { on := 7, ground := Ground.chain }, { on := 0, ground := Ground.phase }, { on := 1, ground := Ground.phase }, { on := 2, ground := Ground.phase }, { on := 3, ground := Ground.phase }, { on := 4, ground := Ground.phase }, { on := 5, ground := Ground.phase }, { on := 6, ground := Ground.phase }, { on := 7, ground := Ground.phase }], guard := none }) (v := .int .i64 0) rfl (by kernel_rfl) (by kernel_rfl) (by kernel_rfl) (by kernel_rfl) (fun _ _ _ h => h) (Or.inl ⟨by rfl, ?_⟩) (.inl (by kernel_rfl)) ?_
            · rintro w -
              go_simp
            simp only [Act.put, List.setIfInBounds_toArray, List.set_cons_zero, List.set_cons_succ]
            refine wpAnyZ_done (by kernel_rfl) ?_ _
            go_wp2_with fail
            go_meet
            exact ⟨PA, G, c2, L', rfl, rfl, TK.out.1, TV.out, HFL.out, HVV.out⟩
        case rest =>
          obtain ⟨U, G, c2, L', rfl, rfl, hU, ht, hfl, hver⟩ := hcut
          have HB9 := hide (HB8.out.quiet ht)
          have u0 := cell_of_row wc U 0 _ 27 (0, 0) hU
          have u1 := cell_of_row wc U 1 _ 27 (0, 0) hU
          have u2 := cell_of_row wc U 2 _ 27 (0, 0) hU
          have u3 := cell_of_row wc U 3 _ 27 (0, 0) hU
          have v0 := cell_of_row wc V 0 _ 27 (0, 0) HB9.out.blk
          have v1 := cell_of_row wc V 1 _ 27 (0, 0) HB9.out.blk
          have v2 := cell_of_row wc V 2 _ 27 (0, 0) HB9.out.blk
          have v3 := cell_of_row wc V 3 _ 27 (0, 0) HB9.out.blk
          have KV := hide (kversion_same pa 5 pc L (some ⟨G, 0, none⟩) 5 c2 L' p1 p2 p3 wc HB9.out.ver.ver.levs hver.levs HB9.out.ver.ver.len hver.len hfl.symm (by omega) (by have := HB9.out.ver.ver.cnt; omega) (keyOk_small HB9.out.ver.ver.byts))
          unfold verAgg at KV
          clear hU ht hfl hver
          go_wp2_with fail
          refine KV.out.mono ?_
          rintro e w9 ⟨rfl, t9⟩
          have T9 := hide (HB9.out.turn.trans t9)
          clear t9 KV u0 u1 u2 u3 v0 v1 v2 v3
          go_wp2_with fail
          go_ret
          exact ⟨rfl, T9.out⟩
  · have i20 : (20 : Int) < (n : Int) := by omega
    go_wp2_with fail
    go_ret
    exact ⟨rfl, T1.out⟩
end Go.Proofs.YtmmcikbedegigaaGreat
