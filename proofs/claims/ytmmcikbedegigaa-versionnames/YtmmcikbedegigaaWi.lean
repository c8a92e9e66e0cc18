/-
  VersionNames: the walk.
-/
import Derived.Test.YtmmcikbedegigaaWg
import Derived.Test.YtmmcikbedegigaaWh
namespace Go.Proofs.Ytmmcikbedegigaa
open Go.RowKit
set_option maxRecDepth 100000
set_option maxHeartbeats 4000000
theorem chk_ok {L : List Lv} {VV : List (List Fl)} {next seq log : Nat} (h : flL L = VV) (hw : wrongVF VV next seq log = false) : chkV L next seq log = 0 := by
  unfold chkV; rw [wrongV_F, h, hw]; rfl
theorem verIn_nil (w : World) : VerIn w none 0 [] 0 0 0 := ⟨fun k x hx => by simp at hx, rfl, by simp [cnt], by simp [byts], fun x hx => by simp at hx, by omega, by omega, by omega⟩
theorem chk_nil : chkV [] 0 0 0 = 2 := by decide
theorem names_any (w : World) : Calls Try.prog 3 #[] w fun e w' => e = .returned (.bool true) ∧ Turns (fun _ => False) w w' := by
  go_enter Try.func3, Try.ntmps3
  go_wp2_with fail
  refine (first_any w).mono ?_
  rintro e u1 ⟨G0, L0, rfl, hV0, hL0, t1⟩
  have T1 := hide t1
  clear t1
  go_wp2_with fail
  refine (file_any 1 ⟨#[97]⟩ ⟨#[99]⟩ u1).mono ?_
  rintro e u2 ⟨x, rfl, hxf, hfb, t2⟩
  have T2 := hide (T1.out.trans t2)
  have HV0 := hide (hV0.quiet t2)
  clear t2 hV0
  go_wp2_with fail
  refine (add1_any 2 x u2 hfb (by omega) (by rw [hxf]; decide) (by rw [hxf]; decide) (by rw [hxf]; decide)).mono ?_
  rintro e u3 ⟨ga, rfl, hed, t3⟩
  have T3 := hide (T2.out.trans t3)
  have CA := hide (apply_one (some ⟨G0, 0, none⟩) 5 1 0 0 L0 ga 2 x fa ver0 _ _ u3 (HV0.out.quiet t3) hL0 hxf hed ap1 (by decide) (by decide))
  clear t3 hfb hed hxf hL0 HV0
  go_wp2_with fail
  refine CA.out.mono ?_
  rintro e u4 ⟨t4, v, rfl, hnone, hsome⟩
  obtain ⟨G1, c1, L1, rfl, hL1, hV1, hD1⟩ := hsome _ rfl
  have T4 := hide (T3.out.trans t4)
  have TP := hide ((Turns.refl (fun _ => False) u4).alloc (.cells #[.slice (some ⟨G1, 0, none⟩) 5 c1, .int .u64 2, .int .u64 0, .int .u64 0] 25))
  have NP := hide (heap_alloc_new u4 (.cells #[.slice (some ⟨G1, 0, none⟩) 5 c1, .int .u64 2, .int .u64 0, .int .u64 0] 25))
  have HL1 := hide hL1
  have HV1 := hide (hV1.quiet TP.out)
  unfold verAgg
  clear hnone hsome hL1 hV1 hD1 t4 CA
  go_upto_region 2 with (fail)
  have TW := hide (T4.out.trans TP.out)
  generalize u4.alloc (.cells #[.slice (some ⟨G1, 0, none⟩) 5 c1, .int .u64 2, .int .u64 0, .int .u64 0] 25) = W at *
  generalize u4.heap.size = P1 at *
  clear T1 T2 T3 T4 TP
  have SK := hide (fun (u : World) (t : Turns (fun _ => False) W u) => show u.cell? ⟨P1, 0, none⟩ = some (.slice (some ⟨G1, 0, none⟩) 5 c1) ∧ u.cell? ⟨P1, 1, none⟩ = some (.int .u64 2) ∧ u.cell? ⟨P1, 2, none⟩ = some (.int .u64 0) ∧ u.cell? ⟨P1, 3, none⟩ = some (.int .u64 0) from ⟨t.cell (cell_of_row W P1 0 _ 25 (0, 0) NP.out) (fun x => x), t.cell (cell_of_row W P1 1 _ 25 (0, 0) NP.out) (fun x => x), t.cell (cell_of_row W P1 2 _ 25 (0, 0) NP.out) (fun x => x), t.cell (cell_of_row W P1 3 _ 25 (0, 0) NP.out) (fun x => x)⟩)
  have CA := hide (fun (u : World) (t : Turns (fun _ => False) W u) (x : Tf) (ga : Nat) (hx : x.f = fx) (hed : EdIn u none 0 (some ⟨ga, 0, none⟩) 1 [] [(1, x)] 3 0 0) => apply_one (some ⟨G1, 0, none⟩) c1 2 0 0 L1 ga 3 x fx ver1 _ _ u (HV1.out.quiet t) HL1.out hx hed ap5 (by decide) (by decide))
  go_cut [3, 4] from 12 (fun v3 v4 wc => (∃ p, v3 = .pointer p) ∧ v4 = .int .i64 5 ∧ Turns (fun _ => False) W wc)
  case first =>
    rename_i kk rest jj kk' m1 m2
    clear rest
    have tV : Turns (fun _ => False) W W.drew := (Turns.refl _ _).drew
    refine wp_region_z_drew 8 (S := fun u => u.cell? ⟨P1, 0, none⟩ = some (.slice (some ⟨G1, 0, none⟩) 5 c1) ∧ u.cell? ⟨P1, 1, none⟩ = some (.int .u64 2) ∧ u.cell? ⟨P1, 2, none⟩ = some (.int .u64 0) ∧ u.cell? ⟨P1, 3, none⟩ = some (.int .u64 0)) (by kernel_rfl) (SK.out _ tV) (fun _ => ?_)
    change wpAnyZ _ _ _ _ _ _ 10 (Array.replicate 10 false) _ _
    refine wpAnyZ_take (i := 0) (oi := { dst := some 13, op := Op.load 25 (Operand.tmp 1), type := 25, pos := "law.go:40", after := #[], guard := none }) (v := .agg #[.slice (some ⟨G1, 0, none⟩) 5 c1, .int .u64 2, .int .u64 0, .int .u64 0]) rfl (by kernel_rfl) (by kernel_rfl) (by kernel_rfl) (by kernel_rfl) (fun _ _ _ h => h) (Or.inl ⟨by rfl, ?_⟩) (SK.out _ tV) ?_
    · rintro w ⟨s0, s1, s2, s3⟩
      go_simp
    simp only [Act.put, List.setIfInBounds_toArray, List.set_cons_zero, List.set_cons_succ]
    generalize W.drew = Wd at *
    refine wpAnyZ_ready (rs := [1, 7]) (by kernel_rfl) (by simp) ?_
    refine AllReadyZ.cons rfl (fun K hK => ?_) (AllReadyZ.cons rfl (fun K hK => ?_) (AllReadyZ.nil))
    · go_simp
      refine (file_any 1 ⟨#[120]⟩ ⟨#[121]⟩ _).mono ?_
      rintro oo u8 ⟨x, rfl, hxf, hfb, t8⟩
      have tV := tV.trans t8
      clear t8
      go_simp
      refine hK.out _ _ (SK.out _ tV) (fun _ => ?_)
      clear hK K
      refine wpAnyZ_ready (rs := [2, 7]) (by kernel_rfl) (by simp) ?_
      refine AllReadyZ.cons rfl (fun K hK => ?_) (AllReadyZ.cons rfl (fun K hK => ?_) (AllReadyZ.nil))
      · go_simp
        refine (add1_any 3 x _ hfb (by omega) (by rw [hxf]; decide) (by rw [hxf]; decide) (by rw [hxf]; decide)).mono ?_
        rintro oo u7 ⟨ga, rfl, hed, t7⟩
        have tV := tV.trans t7
        clear t7 hfb
        go_simp
        refine hK.out _ _ (SK.out _ tV) (fun _ => ?_)
        clear hK K
        refine wpAnyZ_ready (rs := [3, 7]) (by kernel_rfl) (by simp) ?_
        refine AllReadyZ.cons rfl (fun K hK => ?_) (AllReadyZ.cons rfl (fun K hK => ?_) (AllReadyZ.nil))
        · go_simp
          refine (CA.out _ tV x ga hxf hed).mono ?_
          rintro oo u5 ⟨t5, v, rfl, hnone, hsome⟩
          have tV := tV.trans t5
          obtain rfl := hnone rfl
          clear hnone hsome
          clear t5 hed
          go_simp
          refine hK.out _ _ (SK.out _ tV) (fun _ => ?_)
          clear hK K
          unfold zeroVer
          refine wpAnyZ_take (i := 4) (oi := { dst := some 12, op := Op.move (Operand.tmp 16), type := 27, pos := "law.go:40", after := #[{ on := 3, ground := Ground.data }], guard := none }) (v := .tuple #[.agg #[.slice none 0 0, .int .u64 0, .int .u64 0, .int .u64 0], .int .i64 5]) rfl (by kernel_rfl) (by kernel_rfl) (by kernel_rfl) (by kernel_rfl) (fun _ _ _ h => h) (Or.inl ⟨by rfl, ?_⟩) (SK.out _ tV) ?_
          · rintro w ⟨s0, s1, s2, s3⟩
            go_simp
          simp only [Act.put, List.setIfInBounds_toArray, List.set_cons_zero, List.set_cons_succ]
          refine wpAnyZ_take (i := 5) (oi := { dst := some 17, op := Op.extract (Operand.tmp 12) 0, type := 25, pos := "law.go:40", after := #[{ on := 4, ground := Ground.data }], guard := none }) (v := .agg #[.slice none 0 0, .int .u64 0, .int .u64 0, .int .u64 0]) rfl (by kernel_rfl) (by kernel_rfl) (by kernel_rfl) (by kernel_rfl) (fun _ _ _ h => h) (Or.inl ⟨by rfl, ?_⟩) (SK.out _ tV) ?_
          · rintro w ⟨s0, s1, s2, s3⟩
            go_simp
          simp only [Act.put, List.setIfInBounds_toArray, List.set_cons_zero, List.set_cons_succ]
          refine wpAnyZ_late (i := 6) (oi := { dst := some 18, op := Op.extract (Operand.tmp 12) 1, type := 26, pos := "law.go:40", after := #[{ on := 4, ground := Ground.data }, { on := 8, ground := Ground.gcOnly Departure.lateStores }], guard := none }) (v := .int .i64 5) rfl (by kernel_rfl) (by kernel_rfl) (by kernel_rfl) (by kernel_rfl) (fun _ _ _ h => h) (Or.inl ⟨by rfl, ?_⟩) (.inr (SK.out _ tV)) ?_
          · rintro w -
            go_simp
          simp only [Act.put, List.setIfInBounds_toArray, List.set_cons_zero, List.set_cons_succ]
          refine wpAnyZ_ready (rs := [7]) (by kernel_rfl) (by simp) ?_
          refine AllReadyZ.cons rfl (fun K hK => ?_) (AllReadyZ.nil)
          go_simp
          obtain ⟨uA, huA⟩ : ∃ uA, uA = u5.alloc (.cells #[.slice none 0 0, .int .u64 0, .int .u64 0, .int .u64 0] 25) := ⟨_, rfl⟩
          have hnA : uA.heap[u5.heap.size]? = some (.cells #[.slice none 0 0, .int .u64 0, .int .u64 0, .int .u64 0] 25) := by rw [huA]; exact heap_alloc_new _ _
          have tA : Turns (fun _ => False) u5 uA := by rw [huA]; exact (Turns.refl _ _).alloc _
          have hsz := tV.size
          have tV := tV.trans tA
          rw [← huA]
          refine hK.out _ _ (SK.out _ tV) (fun _ => ?_)
          clear hK K tA huA
          obtain ⟨PA, hPA⟩ : ∃ PA, PA = u5.heap.size := ⟨_, rfl⟩
          have HPA := hide (show W.heap.size ≤ PA from by rw [hPA]; exact hsz)
          rw [← hPA]
          replace hnA : uA.heap[PA]? = some (.cells #[.slice none 0 0, .int .u64 0, .int .u64 0, .int .u64 0] 25) := by rw [hPA]; exact hnA
          clear hPA hsz
          have e0 := cell_of_row uA PA 0 _ 25 (0, 0) hnA
          have e1 := cell_of_row uA PA 1 _ 25 (0, 0) hnA
          have e2 := cell_of_row uA PA 2 _ 25 (0, 0) hnA
          have e3 := cell_of_row uA PA 3 _ 25 (0, 0) hnA
          have z0 := frozen_of_row uA PA 0 _ 25 hnA
          have z1 := frozen_of_row uA PA 1 _ 25 hnA
          have z2 := frozen_of_row uA PA 2 _ 25 hnA
          have z3 := frozen_of_row uA PA 3 _ 25 hnA
          have HNA := hide hnA
          have TV := hide tV
          clear hnA tV
          refine wpAnyZ_ready (rs := [8]) (by kernel_rfl) (by simp) ?_
          refine AllReadyZ.free rfl (by kernel_rfl) (fun K hK => ?_) AllReadyZ.nil
          go_simp
          refine hK.out _ _ ?_
          clear hK K
          refine wpAnyZ_late (i := 9) (oi := { dst := some 4, op := Op.assign (Operand.tmp 18), type := 26, pos := "law.go:40", after := #[{ on := 6, ground := Ground.data }, { on := 8, ground := Ground.chain }, { on := 0, ground := Ground.phase }, { on := 1, ground := Ground.phase }, { on := 2, ground := Ground.phase }, { on := 3, ground := Ground.phase }, { on := 4, ground := Ground.phase }, { on := 5, ground := Ground.phase }, { on := 6, ground := Ground.phase }, { on := 7, ground := Ground.phase }, { on := 8, ground := Ground.phase }], guard := none }) (v := .int .i64 5) rfl (by kernel_rfl) (by kernel_rfl) (by kernel_rfl) (by kernel_rfl) (fun _ _ _ h => h) (Or.inl ⟨by rfl, ?_⟩) (.inl (by kernel_rfl)) ?_
          · rintro w -
            go_simp
          simp only [Act.put, List.setIfInBounds_toArray, List.set_cons_zero, List.set_cons_succ]
          refine wpAnyZ_done (by kernel_rfl) ?_ _
          go_wp2_with fail
          go_meet
          exact ⟨⟨_, rfl⟩, rfl, TV.out.andThen (turns_setCells PA 0 [.slice none 0 0, .int .u64 0, .int .u64 0, .int .u64 0] _) fun j hj e => by have := HPA.out; omega⟩
        · go_simp
          obtain ⟨uA, huA⟩ : ∃ uA, uA = u7.alloc (.cells #[.slice none 0 0, .int .u64 0, .int .u64 0, .int .u64 0] 25) := ⟨_, rfl⟩
          have hnA : uA.heap[u7.heap.size]? = some (.cells #[.slice none 0 0, .int .u64 0, .int .u64 0, .int .u64 0] 25) := by rw [huA]; exact heap_alloc_new _ _
          have tA : Turns (fun _ => False) u7 uA := by rw [huA]; exact (Turns.refl _ _).alloc _
          have hsz := tV.size
          have tV := tV.trans tA
          have hed := hed.quiet tA
          rw [← huA]
          refine hK.out _ _ (SK.out _ tV) (fun _ => ?_)
          clear hK K tA huA
          obtain ⟨PA, hPA⟩ : ∃ PA, PA = u7.heap.size := ⟨_, rfl⟩
          have HPA := hide (show W.heap.size ≤ PA from by rw [hPA]; exact hsz)
          rw [← hPA]
          replace hnA : uA.heap[PA]? = some (.cells #[.slice none 0 0, .int .u64 0, .int .u64 0, .int .u64 0] 25) := by rw [hPA]; exact hnA
          clear hPA hsz
          refine wpAnyZ_ready (rs := [3]) (by kernel_rfl) (by simp) ?_
          refine AllReadyZ.cons rfl (fun K hK => ?_) (AllReadyZ.nil)
          go_simp
          refine (CA.out _ tV x ga hxf hed).mono ?_
          rintro oo u5 ⟨t5, v, rfl, hnone, hsome⟩
          have tV := tV.trans t5
          have hnA := t5.heap hnA (fun x => x)
          obtain rfl := hnone rfl
          clear hnone hsome
          clear t5 hed
          go_simp
          refine hK.out _ _ (SK.out _ tV) (fun _ => ?_)
          clear hK K
          unfold zeroVer
          refine wpAnyZ_take (i := 4) (oi := { dst := some 12, op := Op.move (Operand.tmp 16), type := 27, pos := "law.go:40", after := #[{ on := 3, ground := Ground.data }], guard := none }) (v := .tuple #[.agg #[.slice none 0 0, .int .u64 0, .int .u64 0, .int .u64 0], .int .i64 5]) rfl (by kernel_rfl) (by kernel_rfl) (by kernel_rfl) (by kernel_rfl) (fun _ _ _ h => h) (Or.inl ⟨by rfl, ?_⟩) (SK.out _ tV) ?_
          · rintro w ⟨s0, s1, s2, s3⟩
            go_simp
          simp only [Act.put, List.setIfInBounds_toArray, List.set_cons_zero, List.set_cons_succ]
          refine wpAnyZ_take (i := 5) (oi := { dst := some 17, op := Op.extract (Operand.tmp 12) 0, type := 25, pos := "law.go:40", after := #[{ on := 4, ground := Ground.data }], guard := none }) (v := .agg #[.slice none 0 0, .int .u64 0, .int .u64 0, .int .u64 0]) rfl (by kernel_rfl) (by kernel_rfl) (by kernel_rfl) (by kernel_rfl) (fun _ _ _ h => h) (Or.inl ⟨by rfl, ?_⟩) (SK.out _ tV) ?_
          · rintro w ⟨s0, s1, s2, s3⟩
            go_simp
          simp only [Act.put, List.setIfInBounds_toArray, List.set_cons_zero, List.set_cons_succ]
          refine wpAnyZ_late (i := 6) (oi := { dst := some 18, op := Op.extract (Operand.tmp 12) 1, type := 26, pos := "law.go:40", after := #[{ on := 4, ground := Ground.data }, { on := 8, ground := Ground.gcOnly Departure.lateStores }], guard := none }) (v := .int .i64 5) rfl (by kernel_rfl) (by kernel_rfl) (by kernel_rfl) (by kernel_rfl) (fun _ _ _ h => h) (Or.inl ⟨by rfl, ?_⟩) (.inr (SK.out _ tV)) ?_
          · rintro w -
            go_simp
          simp only [Act.put, List.setIfInBounds_toArray, List.set_cons_zero, List.set_cons_succ]
          have e0 := cell_of_row u5 PA 0 _ 25 (0, 0) hnA
          have e1 := cell_of_row u5 PA 1 _ 25 (0, 0) hnA
          have e2 := cell_of_row u5 PA 2 _ 25 (0, 0) hnA
          have e3 := cell_of_row u5 PA 3 _ 25 (0, 0) hnA
          have z0 := frozen_of_row u5 PA 0 _ 25 hnA
          have z1 := frozen_of_row u5 PA 1 _ 25 hnA
          have z2 := frozen_of_row u5 PA 2 _ 25 hnA
          have z3 := frozen_of_row u5 PA 3 _ 25 hnA
          have HNA := hide hnA
          have TV := hide tV
          clear hnA tV
          refine wpAnyZ_ready (rs := [8]) (by kernel_rfl) (by simp) ?_
          refine AllReadyZ.free rfl (by kernel_rfl) (fun K hK => ?_) AllReadyZ.nil
          go_simp
          refine hK.out _ _ ?_
          clear hK K
          refine wpAnyZ_late (i := 9) (oi := { dst := some 4, op := Op.assign (Operand.tmp 18), type := 26, pos := "law.go:40", after := #[{ on := 6, ground := Ground.data }, { on := 8, ground := Ground.chain }, { on := 0, ground := Ground.phase }, { on := 1, ground := Ground.phase }, { on := 2, ground := Ground.phase }, { on := 3, ground := Ground.phase }, { on := 4, ground := Ground.phase }, { on := 5, ground := Ground.phase }, { on := 6, ground := Ground.phase }, { on := 7, ground := Ground.phase }, { on := 8, ground := Ground.phase }], guard := none }) (v := .int .i64 5) rfl (by kernel_rfl) (by kernel_rfl) (by kernel_rfl) (by kernel_rfl) (fun _ _ _ h => h) (Or.inl ⟨by rfl, ?_⟩) (.inl (by kernel_rfl)) ?_
          · rintro w -
            go_simp
          simp only [Act.put, List.setIfInBounds_toArray, List.set_cons_zero, List.set_cons_succ]
          refine wpAnyZ_done (by kernel_rfl) ?_ _
          go_wp2_with fail
          go_meet
          exact ⟨⟨_, rfl⟩, rfl, TV.out.andThen (turns_setCells PA 0 [.slice none 0 0, .int .u64 0, .int .u64 0, .int .u64 0] _) fun j hj e => by have := HPA.out; omega⟩
      · go_simp
        obtain ⟨uA, huA⟩ : ∃ uA, uA = u8.alloc (.cells #[.slice none 0 0, .int .u64 0, .int .u64 0, .int .u64 0] 25) := ⟨_, rfl⟩
        have hnA : uA.heap[u8.heap.size]? = some (.cells #[.slice none 0 0, .int .u64 0, .int .u64 0, .int .u64 0] 25) := by rw [huA]; exact heap_alloc_new _ _
        have tA : Turns (fun _ => False) u8 uA := by rw [huA]; exact (Turns.refl _ _).alloc _
        have hsz := tV.size
        have tV := tV.trans tA
        have hfb := hfb.quiet tA
        rw [← huA]
        refine hK.out _ _ (SK.out _ tV) (fun _ => ?_)
        clear hK K tA huA
        obtain ⟨PA, hPA⟩ : ∃ PA, PA = u8.heap.size := ⟨_, rfl⟩
        have HPA := hide (show W.heap.size ≤ PA from by rw [hPA]; exact hsz)
        rw [← hPA]
        replace hnA : uA.heap[PA]? = some (.cells #[.slice none 0 0, .int .u64 0, .int .u64 0, .int .u64 0] 25) := by rw [hPA]; exact hnA
        clear hPA hsz
        refine wpAnyZ_ready (rs := [2]) (by kernel_rfl) (by simp) ?_
        refine AllReadyZ.cons rfl (fun K hK => ?_) (AllReadyZ.nil)
        go_simp
        refine (add1_any 3 x _ hfb (by omega) (by rw [hxf]; decide) (by rw [hxf]; decide) (by rw [hxf]; decide)).mono ?_
        rintro oo u7 ⟨ga, rfl, hed, t7⟩
        have tV := tV.trans t7
        have hnA := t7.heap hnA (fun x => x)
        clear t7 hfb
        go_simp
        refine hK.out _ _ (SK.out _ tV) (fun _ => ?_)
        clear hK K
        refine wpAnyZ_ready (rs := [3]) (by kernel_rfl) (by simp) ?_
        refine AllReadyZ.cons rfl (fun K hK => ?_) (AllReadyZ.nil)
        go_simp
        refine (CA.out _ tV x ga hxf hed).mono ?_
        rintro oo u5 ⟨t5, v, rfl, hnone, hsome⟩
        have tV := tV.trans t5
        have hnA := t5.heap hnA (fun x => x)
        obtain rfl := hnone rfl
        clear hnone hsome
        clear t5 hed
        go_simp
        refine hK.out _ _ (SK.out _ tV) (fun _ => ?_)
        clear hK K
        unfold zeroVer
        refine wpAnyZ_take (i := 4) (oi := { dst := some 12, op := Op.move (Operand.tmp 16), type := 27, pos := "law.go:40", after := #[{ on := 3, ground := Ground.data }], guard := none }) (v := .tuple #[.agg #[.slice none 0 0, .int .u64 0, .int .u64 0, .int .u64 0], .int .i64 5]) rfl (by kernel_rfl) (by kernel_rfl) (by kernel_rfl) (by kernel_rfl) (fun _ _ _ h => h) (Or.inl ⟨by rfl, ?_⟩) (SK.out _ tV) ?_
        · rintro w ⟨s0, s1, s2, s3⟩
          go_simp
        simp only [Act.put, List.setIfInBounds_toArray, List.set_cons_zero, List.set_cons_succ]
        refine wpAnyZ_take (i := 5) (oi := { dst := some 17, op := Op.extract (Operand.tmp 12) 0, type := 25, pos := "law.go:40", after := #[{ on := 4, ground := Ground.data }], guard := none }) (v := .agg #[.slice none 0 0, .int .u64 0, .int .u64 0, .int .u64 0]) rfl (by kernel_rfl) (by kernel_rfl) (by kernel_rfl) (by kernel_rfl) (fun _ _ _ h => h) (Or.inl ⟨by rfl, ?_⟩) (SK.out _ tV) ?_
        · rintro w ⟨s0, s1, s2, s3⟩
          go_simp
        simp only [Act.put, List.setIfInBounds_toArray, List.set_cons_zero, List.set_cons_succ]
        refine wpAnyZ_late (i := 6) (oi := { dst := some 18, op := Op.extract (Operand.tmp 12) 1, type := 26, pos := "law.go:40", after := #[{ on := 4, ground := Ground.data }, { on := 8, ground := Ground.gcOnly Departure.lateStores }], guard := none }) (v := .int .i64 5) rfl (by kernel_rfl) (by kernel_rfl) (by kernel_rfl) (by kernel_rfl) (fun _ _ _ h => h) (Or.inl ⟨by rfl, ?_⟩) (.inr (SK.out _ tV)) ?_
        · rintro w -
          go_simp
        simp only [Act.put, List.setIfInBounds_toArray, List.set_cons_zero, List.set_cons_succ]
        have e0 := cell_of_row u5 PA 0 _ 25 (0, 0) hnA
        have e1 := cell_of_row u5 PA 1 _ 25 (0, 0) hnA
        have e2 := cell_of_row u5 PA 2 _ 25 (0, 0) hnA
        have e3 := cell_of_row u5 PA 3 _ 25 (0, 0) hnA
        have z0 := frozen_of_row u5 PA 0 _ 25 hnA
        have z1 := frozen_of_row u5 PA 1 _ 25 hnA
        have z2 := frozen_of_row u5 PA 2 _ 25 hnA
        have z3 := frozen_of_row u5 PA 3 _ 25 hnA
        have HNA := hide hnA
        have TV := hide tV
        clear hnA tV
        refine wpAnyZ_ready (rs := [8]) (by kernel_rfl) (by simp) ?_
        refine AllReadyZ.free rfl (by kernel_rfl) (fun K hK => ?_) AllReadyZ.nil
        go_simp
        refine hK.out _ _ ?_
        clear hK K
        refine wpAnyZ_late (i := 9) (oi := { dst := some 4, op := Op.assign (Operand.tmp 18), type := 26, pos := "law.go:40", after := #[{ on := 6, ground := Ground.data }, { on := 8, ground := Ground.chain }, { on := 0, ground := Ground.phase }, { on := 1, ground := Ground.phase }, { on := 2, ground := Ground.phase }, { on := 3, ground := Ground.phase }, { on := 4, ground := Ground.phase }, { on := 5, ground := Ground.phase }, { on := 6, ground := Ground.phase }, { on := 7, ground := Ground.phase }, { on := 8, ground := Ground.phase }], guard := none }) (v := .int .i64 5) rfl (by kernel_rfl) (by kernel_rfl) (by kernel_rfl) (by kernel_rfl) (fun _ _ _ h => h) (Or.inl ⟨by rfl, ?_⟩) (.inl (by kernel_rfl)) ?_
        · rintro w -
          go_simp
        simp only [Act.put, List.setIfInBounds_toArray, List.set_cons_zero, List.set_cons_succ]
        refine wpAnyZ_done (by kernel_rfl) ?_ _
        go_wp2_with fail
        go_meet
        exact ⟨⟨_, rfl⟩, rfl, TV.out.andThen (turns_setCells PA 0 [.slice none 0 0, .int .u64 0, .int .u64 0, .int .u64 0] _) fun j hj e => by have := HPA.out; omega⟩
    · go_simp
      obtain ⟨uA, huA⟩ : ∃ uA, uA = Wd.alloc (.cells #[.slice none 0 0, .int .u64 0, .int .u64 0, .int .u64 0] 25) := ⟨_, rfl⟩
      have hnA : uA.heap[Wd.heap.size]? = some (.cells #[.slice none 0 0, .int .u64 0, .int .u64 0, .int .u64 0] 25) := by rw [huA]; exact heap_alloc_new _ _
      have tA : Turns (fun _ => False) Wd uA := by rw [huA]; exact (Turns.refl _ _).alloc _
      have hsz := tV.size
      have tV := tV.trans tA
      rw [← huA]
      refine hK.out _ _ (SK.out _ tV) (fun _ => ?_)
      clear hK K tA huA
      obtain ⟨PA, hPA⟩ : ∃ PA, PA = Wd.heap.size := ⟨_, rfl⟩
      have HPA := hide (show W.heap.size ≤ PA from by rw [hPA]; exact hsz)
      rw [← hPA]
      replace hnA : uA.heap[PA]? = some (.cells #[.slice none 0 0, .int .u64 0, .int .u64 0, .int .u64 0] 25) := by rw [hPA]; exact hnA
      clear hPA hsz
      refine wpAnyZ_ready (rs := [1]) (by kernel_rfl) (by simp) ?_
      refine AllReadyZ.cons rfl (fun K hK => ?_) (AllReadyZ.nil)
      go_simp
      refine (file_any 1 ⟨#[120]⟩ ⟨#[121]⟩ _).mono ?_
      rintro oo u8 ⟨x, rfl, hxf, hfb, t8⟩
      have tV := tV.trans t8
      have hnA := t8.heap hnA (fun x => x)
      clear t8
      go_simp
      refine hK.out _ _ (SK.out _ tV) (fun _ => ?_)
      clear hK K
      refine wpAnyZ_ready (rs := [2]) (by kernel_rfl) (by simp) ?_
      refine AllReadyZ.cons rfl (fun K hK => ?_) (AllReadyZ.nil)
      go_simp
      refine (add1_any 3 x _ hfb (by omega) (by rw [hxf]; decide) (by rw [hxf]; decide) (by rw [hxf]; decide)).mono ?_
      rintro oo u7 ⟨ga, rfl, hed, t7⟩
      have tV := tV.trans t7
      have hnA := t7.heap hnA (fun x => x)
      clear t7 hfb
      go_simp
      refine hK.out _ _ (SK.out _ tV) (fun _ => ?_)
      clear hK K
      refine wpAnyZ_ready (rs := [3]) (by kernel_rfl) (by simp) ?_
      refine AllReadyZ.cons rfl (fun K hK => ?_) (AllReadyZ.nil)
      go_simp
      refine (CA.out _ tV x ga hxf hed).mono ?_
      rintro oo u5 ⟨t5, v, rfl, hnone, hsome⟩
      have tV := tV.trans t5
      have hnA := t5.heap hnA (fun x => x)
      obtain rfl := hnone rfl
      clear hnone hsome
      clear t5 hed
      go_simp
      refine hK.out _ _ (SK.out _ tV) (fun _ => ?_)
      clear hK K
      unfold zeroVer
      refine wpAnyZ_take (i := 4) (oi := { dst := some 12, op := Op.move (Operand.tmp 16), type := 27, pos := "law.go:40", after := #[{ on := 3, ground := Ground.data }], guard := none }) (v := .tuple #[.agg #[.slice none 0 0, .int .u64 0, .int .u64 0, .int .u64 0], .int .i64 5]) rfl (by kernel_rfl) (by kernel_rfl) (by kernel_rfl) (by kernel_rfl) (fun _ _ _ h => h) (Or.inl ⟨by rfl, ?_⟩) (SK.out _ tV) ?_
      · rintro w ⟨s0, s1, s2, s3⟩
        go_simp
      simp only [Act.put, List.setIfInBounds_toArray, List.set_cons_zero, List.set_cons_succ]
      refine wpAnyZ_take (i := 5) (oi := { dst := some 17, op := Op.extract (Operand.tmp 12) 0, type := 25, pos := "law.go:40", after := #[{ on := 4, ground := Ground.data }], guard := none }) (v := .agg #[.slice none 0 0, .int .u64 0, .int .u64 0, .int .u64 0]) rfl (by kernel_rfl) (by kernel_rfl) (by kernel_rfl) (by kernel_rfl) (fun _ _ _ h => h) (Or.inl ⟨by rfl, ?_⟩) (SK.out _ tV) ?_
      · rintro w ⟨s0, s1, s2, s3⟩
        go_simp
      simp only [Act.put, List.setIfInBounds_toArray, List.set_cons_zero, List.set_cons_succ]
      refine wpAnyZ_late (i := 6) (oi := { dst := some 18, op := Op.extract (Operand.tmp 12) 1, type := 26, pos := "law.go:40", after := #[{ on := 4, ground := Ground.data }, { on := 8, ground := Ground.gcOnly Departure.lateStores }], guard := none }) (v := .int .i64 5) rfl (by kernel_rfl) (by kernel_rfl) (by kernel_rfl) (by kernel_rfl) (fun _ _ _ h => h) (Or.inl ⟨by rfl, ?_⟩) (.inr (SK.out _ tV)) ?_
      · rintro w -
        go_simp
      simp only [Act.put, List.setIfInBounds_toArray, List.set_cons_zero, List.set_cons_succ]
      have e0 := cell_of_row u5 PA 0 _ 25 (0, 0) hnA
      have e1 := cell_of_row u5 PA 1 _ 25 (0, 0) hnA
      have e2 := cell_of_row u5 PA 2 _ 25 (0, 0) hnA
      have e3 := cell_of_row u5 PA 3 _ 25 (0, 0) hnA
      have z0 := frozen_of_row u5 PA 0 _ 25 hnA
      have z1 := frozen_of_row u5 PA 1 _ 25 hnA
      have z2 := frozen_of_row u5 PA 2 _ 25 hnA
      have z3 := frozen_of_row u5 PA 3 _ 25 hnA
      have HNA := hide hnA
      have TV := hide tV
      clear hnA tV
      refine wpAnyZ_ready (rs := [8]) (by kernel_rfl) (by simp) ?_
      refine AllReadyZ.free rfl (by kernel_rfl) (fun K hK => ?_) AllReadyZ.nil
      go_simp
      refine hK.out _ _ ?_
      clear hK K
      refine wpAnyZ_late (i := 9) (oi := { dst := some 4, op := Op.assign (Operand.tmp 18), type := 26, pos := "law.go:40", after := #[{ on := 6, ground := Ground.data }, { on := 8, ground := Ground.chain }, { on := 0, ground := Ground.phase }, { on := 1, ground := Ground.phase }, { on := 2, ground := Ground.phase }, { on := 3, ground := Ground.phase }, { on := 4, ground := Ground.phase }, { on := 5, ground := Ground.phase }, { on := 6, ground := Ground.phase }, { on := 7, ground := Ground.phase }, { on := 8, ground := Ground.phase }], guard := none }) (v := .int .i64 5) rfl (by kernel_rfl) (by kernel_rfl) (by kernel_rfl) (by kernel_rfl) (fun _ _ _ h => h) (Or.inl ⟨by rfl, ?_⟩) (.inl (by kernel_rfl)) ?_
      · rintro w -
        go_simp
      simp only [Act.put, List.setIfInBounds_toArray, List.set_cons_zero, List.set_cons_succ]
      refine wpAnyZ_done (by kernel_rfl) ?_ _
      go_wp2_with fail
      go_meet
      exact ⟨⟨_, rfl⟩, rfl, TV.out.andThen (turns_setCells PA 0 [.slice none 0 0, .int .u64 0, .int .u64 0, .int .u64 0] _) fun j hj e => by have := HPA.out; omega⟩
  case rest =>
    obtain ⟨⟨p3, rfl⟩, rfl, hT⟩ := hcut
    have HT := hide hT
    have NP3 := hide (hT.heap NP.out (fun x => x))
    have HV3 := hide (HV1.out.quiet hT)
    clear hT SK CA NP
    go_wp2_with fail
    refine (lives_any wc).mono ?_
    rintro e u5 ⟨rfl, t5⟩
    have T5 := hide t5
    clear t5
    go_wp2_with fail
    refine (first_any u5).mono ?_
    rintro e u6 ⟨G6, L6, rfl, hV6, hL6, t6⟩
    have T6 := hide (T5.out.trans t6)
    have C6 := hide (check_any (some ⟨G6, 0, none⟩) 5 5 1 0 0 L6 u6 hV6)
    rw [chk_ok hL6 okV0] at C6
    clear t6 hV6 hL6
    go_wp2_with fail
    refine C6.out.mono ?_
    rintro e u7 ⟨rfl, t7⟩
    have T7 := hide (T6.out.trans t7)
    have C7 := hide (check_any none 0 0 0 0 0 [] u7 (verIn_nil u7))
    rw [chk_nil] at C7
    unfold verAgg at C7
    clear t7 C6
    go_wp2_with fail
    refine C7.out.mono ?_
    rintro e u8 ⟨rfl, t8⟩
    have T8 := hide (T7.out.trans t8)
    have N8 := T8.out.heap NP3.out (fun x => x)
    have p0 := cell_of_row u8 P1 0 _ 25 (0, 0) N8
    have p1 := cell_of_row u8 P1 1 _ 25 (0, 0) N8
    have p2 := cell_of_row u8 P1 2 _ 25 (0, 0) N8
    have p3 := cell_of_row u8 P1 3 _ 25 (0, 0) N8
    have C8 := hide (vbytes_any (some ⟨G1, 0, none⟩) 5 c1 2 0 0 L1 1 u8 (HV3.out.quiet T8.out))
    rw [HL1.out, show sizesF (filesF ver1 2 0 0 1) = 100 by decide] at C8
    unfold verAgg at C8
    clear t8 N8 C7
    go_wp2_with fail
    refine C8.out.mono ?_
    rintro e u9 ⟨rfl, t9⟩
    have T9 := hide (T8.out.trans t9)
    have N9 := T9.out.heap NP3.out (fun x => x)
    clear p0 p1 p2 p3
    have p0 := cell_of_row u9 P1 0 _ 25 (0, 0) N9
    have p1 := cell_of_row u9 P1 1 _ 25 (0, 0) N9
    have p2 := cell_of_row u9 P1 2 _ 25 (0, 0) N9
    have p3 := cell_of_row u9 P1 3 _ 25 (0, 0) N9
    have cv1 := conv35 #[.int .u8 97] 1 1 u9
    have TB := hide ((Turns.refl (fun _ => False) u9).alloc (.cells #[.int .u8 97] 5 (1, 2)))
    have x1 := Bytes.new u9 #[.int .u8 97] 5 1 (1, 2) [97#8] rfl
    have C9 := hide (deepest_any (some ⟨G1, 0, none⟩) 5 c1 2 0 0 L1 0 (some ⟨u9.heap.size, 0, none⟩) 1 1 none 0 0 [97#8] [] _ (HV3.out.quiet (T9.out.trans TB.out)) x1 (Bytes.empty _))
    rw [HL1.out, show deepF ver1 2 0 0 0 [97#8] [] = false by decide] at C9
    unfold verAgg at C9
    clear t9 N9 C8 x1
    go_wp2_with fail
    refine C9.out.mono ?_
    rintro e u10 ⟨rfl, t10⟩
    have T10 := hide (T9.out.trans (TB.out.trans t10))
    have N10 := T10.out.heap NP3.out (fun x => x)
    clear p0 p1 p2 p3 cv1 C9 t10 TB
    have p0 := cell_of_row u10 P1 0 _ 25 (0, 0) N10
    have p1 := cell_of_row u10 P1 1 _ 25 (0, 0) N10
    have p2 := cell_of_row u10 P1 2 _ 25 (0, 0) N10
    have p3 := cell_of_row u10 P1 3 _ 25 (0, 0) N10
    have cv1 := conv35 #[.int .u8 97] 1 1 u10
    have TB := hide ((Turns.refl (fun _ => False) u10).alloc (.cells #[.int .u8 97] 5 (1, 2)))
    have x1 := Bytes.new u10 #[.int .u8 97] 5 1 (1, 2) [97#8] rfl
    have C9 := hide (deepest_any (some ⟨G1, 0, none⟩) 5 c1 2 0 0 L1 1 (some ⟨u10.heap.size, 0, none⟩) 1 1 none 0 0 [97#8] [] _ (HV3.out.quiet (T10.out.trans TB.out)) x1 (Bytes.empty _))
    rw [HL1.out, show deepF ver1 2 0 0 1 [97#8] [] = true by decide] at C9
    unfold verAgg at C9
    clear N10 x1
    go_wp2_with fail
    refine C9.out.mono ?_
    rintro e u11 ⟨rfl, t11⟩
    have T11 := hide (T10.out.trans (TB.out.trans t11))
    clear t11
    go_wp2_with fail
    go_ret
    exact ⟨rfl, TW.out.trans (HT.out.trans T11.out)⟩
end Go.Proofs.Ytmmcikbedegigaa
