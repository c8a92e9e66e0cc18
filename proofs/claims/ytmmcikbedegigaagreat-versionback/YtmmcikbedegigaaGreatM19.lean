import Derived.Test.YtmmcikbedegigaaGreatM18
/-
  The chapter's examples: the law's own.
-/
namespace Go.Proofs.YtmmcikbedegigaaGreat
open Go.RowKit
set_option maxRecDepth 100000
set_option maxHeartbeats 4000000
theorem conv35 (C : Array Value) (n c : Nat) (w : World) : (convert 38 38 (.slice (some ⟨w.heap.size, 0, none⟩) n c)).run Tryz.prog (w.alloc (.cells C 5)) = .ok (.slice (some ⟨w.heap.size, 0, none⟩) n c) (w.alloc (.cells C 5 (C.size, C.size + 1))) :=
  Lib.run_convert_bytes_const w 38 5 C n c Tryz.underlying38 Tryz.underlying5
theorem Bytes.new (w : World) (cs : Array Value) (t c : Nat) (fr : Nat × Nat) (bs : List (BitVec 8)) (h : cs = (bs.map fun b => Value.int .u8 (b.toNat : Int)).toArray) :
    Bytes (w.alloc (.cells cs t fr)) (.slice (some ⟨w.heap.size, 0, none⟩) bs.length c) bs :=
  ⟨_, c, rfl, fun k hk => ⟨w.heap.size, 0, rfl, by
    rw [Nat.zero_add, cell_of_row _ _ k cs t fr (heap_alloc_new w _), h]
    simp [hk]⟩⟩
theorem lives_any (w : World) : Calls Tryz.prog 4 #[] w fun e w' => e = .returned (.bool true) ∧ Turns (fun _ => False) w w' := by
  go_enter Tryz.func4, Tryz.ntmps4
  go_wp2_with fail
  refine (first_any w).mono ?_
  rintro e u1 ⟨G0, L0, rfl, hV0, hL0, t1⟩
  have T1 := hide t1
  clear t1
  go_wp2_with fail
  refine (file_any 1 ⟨#[97]⟩ ⟨#[99]⟩ u1).mono ?_
  rintro e u2 ⟨x, rfl, hxf, hfb, t2⟩
  have T2 := hide (T1.out.trans t2)
  have HV0 := hide (hV0.quiet t2)
  clear t2 hV0
  go_wp2_with fail
  refine (add1_any 2 x u2 hfb (by omega) (by rw [hxf]; decide) (by rw [hxf]; decide) (by rw [hxf]; decide)).mono ?_
  rintro e u3 ⟨ga, rfl, hed, t3⟩
  have T3 := hide (T2.out.trans t3)
  have CA := hide (apply_one (some ⟨G0, 0, none⟩) 5 1 0 0 L0 ga 2 x fa ver0 _ _ u3 (HV0.out.quiet t3) hL0 hxf hed ap1 (by decide) (by decide))
  clear t3 hfb hed hxf hL0 HV0
  go_wp2_with fail
  refine CA.out.mono ?_
  rintro e u4 ⟨t4, v, rfl, hnone, hsome⟩
  obtain ⟨G1, c1, L1, rfl, hL1, hV1, hD1⟩ := hsome _ rfl
  have T4 := hide (T3.out.trans t4)
  have TP := hide ((Turns.refl (fun _ => False) u4).alloc (.cells #[.slice (some ⟨G1, 0, none⟩) 5 c1, .int .u64 2, .int .u64 0, .int .u64 0] 27))
  have NP := hide (heap_alloc_new u4 (.cells #[.slice (some ⟨G1, 0, none⟩) 5 c1, .int .u64 2, .int .u64 0, .int .u64 0] 27))
  have HL1 := hide hL1
  have HV1 := hide (hV1.quiet TP.out)
  unfold verAgg
  clear hnone hsome hL1 hV1 hD1 t4 CA
  go_upto_region 2 with (fail)
  have TW := hide (T4.out.trans TP.out)
  generalize u4.alloc (.cells #[.slice (some ⟨G1, 0, none⟩) 5 c1, .int .u64 2, .int .u64 0, .int .u64 0] 27) = W at *
  generalize u4.heap.size = P1 at *
  clear T1 T2 T3 T4 TP
  have SK := hide (fun (u : World) (t : Turns (fun _ => False) W u) => show u.cell? ⟨P1, 0, none⟩ = some (.slice (some ⟨G1, 0, none⟩) 5 c1) ∧ u.cell? ⟨P1, 1, none⟩ = some (.int .u64 2) ∧ u.cell? ⟨P1, 2, none⟩ = some (.int .u64 0) ∧ u.cell? ⟨P1, 3, none⟩ = some (.int .u64 0) from ⟨t.cell (cell_of_row W P1 0 _ 27 (0, 0) NP.out) (fun x => x), t.cell (cell_of_row W P1 1 _ 27 (0, 0) NP.out) (fun x => x), t.cell (cell_of_row W P1 2 _ 27 (0, 0) NP.out) (fun x => x), t.cell (cell_of_row W P1 3 _ 27 (0, 0) NP.out) (fun x => x)⟩)
  have CA := hide (fun (u : World) (t : Turns (fun _ => False) W u) (x : Tf) (ga : Nat) (hx : x.f = fb) (hed : EdIn u none 0 (some ⟨ga, 0, none⟩) 1 [] [(1, x)] 3 0 0) => apply_one (some ⟨G1, 0, none⟩) c1 2 0 0 L1 ga 3 x fb ver1 _ _ u (HV1.out.quiet t) HL1.out hx hed ap2 (by decide) (by decide))
  go_cut [3, 4] from 16 (fun v3 v4 wc => (∃ p, v3 = .pointer p) ∧ v4 = .int .i64 2 ∧ Turns (fun _ => False) W wc)
  case first =>
    rename_i kk rest jj kk' m1 m2
    clear rest
    have tV : Turns (fun _ => False) W W.drew := (Turns.refl _ _).drew
    refine wp_region_z_drew 8 (S := fun u => u.cell? ⟨P1, 0, none⟩ = some (.slice (some ⟨G1, 0, none⟩) 5 c1) ∧ u.cell? ⟨P1, 1, none⟩ = some (.int .u64 2) ∧ u.cell? ⟨P1, 2, none⟩ = some (.int .u64 0) ∧ u.cell? ⟨P1, 3, none⟩ = some (.int .u64 0)) (by kernel_rfl) (SK.out _ tV) (fun _ => ?_)
    change wpAnyZ _ _ _ _ _ _ 10 (Array.replicate 10 false) _ _
    refine wpAnyZ_take (i := 0) (oi := { dst := some 17, op := Op.load 27 (Operand.tmp 1), type := 27, pos := "law.go:30", after := #[], guard := none }) (v := .agg #[.slice (some ⟨G1, 0, none⟩) 5 c1, .int .u64 2, .int .u64 0, .int .u64 0]) rfl (by kernel_rfl) (by kernel_rfl) (by kernel_rfl) (by kernel_rfl) (fun _ _ _ h => h) (Or.inl ⟨by rfl, ?_⟩) (SK.out _ tV) ?_
    · rintro w ⟨s0, s1, s2, s3⟩
      go_simp
    simp only [Act.put, List.setIfInBounds_toArray, List.set_cons_zero, List.set_cons_succ]
    generalize W.drew = Wd at *
    refine wpAnyZ_ready (rs := [1, 7]) (by kernel_rfl) (by simp) ?_
    refine AllReadyZ.cons rfl (fun K hK => ?_) (AllReadyZ.cons rfl (fun K hK => ?_) (AllReadyZ.nil))
    · go_simp
      refine (file_any 2 ⟨#[99]⟩ ⟨#[100]⟩ _).mono ?_
      rintro oo u8 ⟨x, rfl, hxf, hfb, t8⟩
      have tV := tV.trans t8
      clear t8
      go_simp
      refine hK.out _ _ (SK.out _ tV) (fun _ => ?_)
      clear hK K
      refine wpAnyZ_ready (rs := [2, 7]) (by kernel_rfl) (by simp) ?_
      refine AllReadyZ.cons rfl (fun K hK => ?_) (AllReadyZ.cons rfl (fun K hK => ?_) (AllReadyZ.nil))
      · go_simp
        refine (add1_any 3 x _ hfb (by omega) (by rw [hxf]; decide) (by rw [hxf]; decide) (by rw [hxf]; decide)).mono ?_
        rintro oo u7 ⟨ga, rfl, hed, t7⟩
        have tV := tV.trans t7
        clear t7 hfb
        go_simp
        refine hK.out _ _ (SK.out _ tV) (fun _ => ?_)
        clear hK K
        refine wpAnyZ_ready (rs := [3, 7]) (by kernel_rfl) (by simp) ?_
        refine AllReadyZ.cons rfl (fun K hK => ?_) (AllReadyZ.cons rfl (fun K hK => ?_) (AllReadyZ.nil))
        · go_simp
          refine (CA.out _ tV x ga hxf hed).mono ?_
          rintro oo u5 ⟨t5, v, rfl, hnone, hsome⟩
          have tV := tV.trans t5
          obtain rfl := hnone rfl
          clear hnone hsome
          clear t5 hed
          go_simp
          refine hK.out _ _ (SK.out _ tV) (fun _ => ?_)
          clear hK K
          unfold zeroVer
          refine wpAnyZ_take (i := 4) (oi := { dst := some 16, op := Op.move (Operand.tmp 20), type := 35, pos := "law.go:30", after := #[{ on := 3, ground := Ground.data }], guard := none }) (v := .tuple #[.agg #[.slice none 0 0, .int .u64 0, .int .u64 0, .int .u64 0], .int .i64 2]) rfl (by kernel_rfl) (by kernel_rfl) (by kernel_rfl) (by kernel_rfl) (fun _ _ _ h => h) (Or.inl ⟨by rfl, ?_⟩) (SK.out _ tV) ?_
          · rintro w ⟨s0, s1, s2, s3⟩
            go_simp
          simp only [Act.put, List.setIfInBounds_toArray, List.set_cons_zero, List.set_cons_succ]
          refine wpAnyZ_take (i := 5) (oi := { dst := some 21, op := Op.extract (Operand.tmp 16) 0, type := 27, pos := "law.go:30", after := #[{ on := 4, ground := Ground.data }], guard := none }) (v := .agg #[.slice none 0 0, .int .u64 0, .int .u64 0, .int .u64 0]) rfl (by kernel_rfl) (by kernel_rfl) (by kernel_rfl) (by kernel_rfl) (fun _ _ _ h => h) (Or.inl ⟨by rfl, ?_⟩) (SK.out _ tV) ?_
          · rintro w ⟨s0, s1, s2, s3⟩
            go_simp
          simp only [Act.put, List.setIfInBounds_toArray, List.set_cons_zero, List.set_cons_succ]
          refine wpAnyZ_late (i := 6) (oi := { dst := some 22, op := Op.extract (Operand.tmp 16) 1, type := 34, pos := "law.go:30", after := #[{ on := 4, ground := Ground.data }, { on := 8, ground := Ground.gcOnly Departure.lateStores }], guard := none }) (v := .int .i64 2) rfl (by kernel_rfl) (by kernel_rfl) (by kernel_rfl) (by kernel_rfl) (fun _ _ _ h => h) (Or.inl ⟨by rfl, ?_⟩) (.inr (SK.out _ tV)) ?_
          · rintro w -
            go_simp
          simp only [Act.put, List.setIfInBounds_toArray, List.set_cons_zero, List.set_cons_succ]
          refine wpAnyZ_ready (rs := [7]) (by kernel_rfl) (by simp) ?_
          refine AllReadyZ.cons rfl (fun K hK => ?_) (AllReadyZ.nil)
          go_simp
          obtain ⟨uA, huA⟩ : ∃ uA, uA = u5.alloc (.cells #[.slice none 0 0, .int .u64 0, .int .u64 0, .int .u64 0] 27) := ⟨_, rfl⟩
          have hnA : uA.heap[u5.heap.size]? = some (.cells #[.slice none 0 0, .int .u64 0, .int .u64 0, .int .u64 0] 27) := by rw [huA]; exact heap_alloc_new _ _
          have tA : Turns (fun _ => False) u5 uA := by rw [huA]; exact (Turns.refl _ _).alloc _
          have hsz := tV.size
          have tV := tV.trans tA
          rw [← huA]
          refine hK.out _ _ (SK.out _ tV) (fun _ => ?_)
          clear hK K tA huA
          obtain ⟨PA, hPA⟩ : ∃ PA, PA = u5.heap.size := ⟨_, rfl⟩
          have HPA := hide (show W.heap.size ≤ PA from by rw [hPA]; exact hsz)
          rw [← hPA]
          replace hnA : uA.heap[PA]? = some (.cells #[.slice none 0 0, .int .u64 0, .int .u64 0, .int .u64 0] 27) := by rw [hPA]; exact hnA
          clear hPA hsz
          have e0 := cell_of_row uA PA 0 _ 27 (0, 0) hnA
          have e1 := cell_of_row uA PA 1 _ 27 (0, 0) hnA
          have e2 := cell_of_row uA PA 2 _ 27 (0, 0) hnA
          have e3 := cell_of_row uA PA 3 _ 27 (0, 0) hnA
          have z0 := frozen_of_row uA PA 0 _ 27 hnA
          have z1 := frozen_of_row uA PA 1 _ 27 hnA
          have z2 := frozen_of_row uA PA 2 _ 27 hnA
          have z3 := frozen_of_row uA PA 3 _ 27 hnA
          have HNA := hide hnA
          have TV := hide tV
          clear hnA tV
          refine wpAnyZ_ready (rs := [8]) (by kernel_rfl) (by simp) ?_
          refine AllReadyZ.free rfl (by kernel_rfl) (fun K hK => ?_) AllReadyZ.nil
          go_simp
          refine hK.out _ _ ?_
          clear hK K
          refine wpAnyZ_late (i := 9) (oi := { dst := some 4, op := Op.assign (Operand.tmp 22), type := 34, pos := "law.go:30", after := #[{ on := 6, ground := Ground.data }, { on := 8, ground := Ground.chain }, { on := 0, ground := Ground.phase }, { on := 1, ground := Ground.phase }, { on := 2, ground := Ground.phase }, { on := 3, ground := Ground.phase }, { on := 4, ground := Ground.phase }, { on := 5, ground := Ground.phase }, { on := 6, ground := Ground.phase }, { on := 7, ground := Ground.phase }, { on := 8, ground := Ground.phase }], guard := none }) (v := .int .i64 2) rfl (by kernel_rfl) (by kernel_rfl) (by kernel_rfl) (by kernel_rfl) (fun _ _ _ h => h) (Or.inl ⟨by rfl, ?_⟩) (.inl (by kernel_rfl)) ?_
          · rintro w -
            go_simp
          simp only [Act.put, List.setIfInBounds_toArray, List.set_cons_zero, List.set_cons_succ]
          refine wpAnyZ_done (by kernel_rfl) ?_ _
          go_wp2_with fail
          go_meet
          exact ⟨⟨_, rfl⟩, rfl, TV.out.andThen (turns_setCells PA 0 [.slice none 0 0, .int .u64 0, .int .u64 0, .int .u64 0] _) fun j hj e => by have := HPA.out; omega⟩
        · go_simp
          obtain ⟨uA, huA⟩ : ∃ uA, uA = u7.alloc (.cells #[.slice none 0 0, .int .u64 0, .int .u64 0, .int .u64 0] 27) := ⟨_, rfl⟩
          have hnA : uA.heap[u7.heap.size]? = some (.cells #[.slice none 0 0, .int .u64 0, .int .u64 0, .int .u64 0] 27) := by rw [huA]; exact heap_alloc_new _ _
          have tA : Turns (fun _ => False) u7 uA := by rw [huA]; exact (Turns.refl _ _).alloc _
          have hsz := tV.size
          have tV := tV.trans tA
          have hed := hed.quiet tA
          rw [← huA]
          refine hK.out _ _ (SK.out _ tV) (fun _ => ?_)
          clear hK K tA huA
          obtain ⟨PA, hPA⟩ : ∃ PA, PA = u7.heap.size := ⟨_, rfl⟩
          have HPA := hide (show W.heap.size ≤ PA from by rw [hPA]; exact hsz)
          rw [← hPA]
          replace hnA : uA.heap[PA]? = some (.cells #[.slice none 0 0, .int .u64 0, .int .u64 0, .int .u64 0] 27) := by rw [hPA]; exact hnA
          clear hPA hsz
          refine wpAnyZ_ready (rs := [3]) (by kernel_rfl) (by simp) ?_
          refine AllReadyZ.cons rfl (fun K hK => ?_) (AllReadyZ.nil)
          go_simp
          refine (CA.out _ tV x ga hxf hed).mono ?_
          rintro oo u5 ⟨t5, v, rfl, hnone, hsome⟩
          have tV := tV.trans t5
          have hnA := t5.heap hnA (fun x => x)
          obtain rfl := hnone rfl
          clear hnone hsome
          clear t5 hed
          go_simp
          refine hK.out _ _ (SK.out _ tV) (fun _ => ?_)
          clear hK K
          unfold zeroVer
          refine wpAnyZ_take (i := 4) (oi := { dst := some 16, op := Op.move (Operand.tmp 20), type := 35, pos := "law.go:30", after := #[{ on := 3, ground := Ground.data }], guard := none }) (v := .tuple #[.agg #[.slice none 0 0, .int .u64 0, .int .u64 0, .int .u64 0], .int .i64 2]) rfl (by kernel_rfl) (by kernel_rfl) (by kernel_rfl) (by kernel_rfl) (fun _ _ _ h => h) (Or.inl ⟨by rfl, ?_⟩) (SK.out _ tV) ?_
          · rintro w ⟨s0, s1, s2, s3⟩
            go_simp
          simp only [Act.put, List.setIfInBounds_toArray, List.set_cons_zero, List.set_cons_succ]
          refine wpAnyZ_take (i := 5) (oi := { dst := some 21, op := Op.extract (Operand.tmp 16) 0, type := 27, pos := "law.go:30", after := #[{ on := 4, ground := Ground.data }], guard := none }) (v := .agg #[.slice none 0 0, .int .u64 0, .int .u64 0, .int .u64 0]) rfl (by kernel_rfl) (by kernel_rfl) (by kernel_rfl) (by kernel_rfl) (fun _ _ _ h => h) (Or.inl ⟨by rfl, ?_⟩) (SK.out _ tV) ?_
          · rintro w ⟨s0, s1, s2, s3⟩
            go_simp
          simp only [Act.put, List.setIfInBounds_toArray, List.set_cons_zero, List.set_cons_succ]
          refine wpAnyZ_late (i := 6) (oi := { dst := some 22, op := Op.extract (Operand.tmp 16) 1, type := 34, pos := "law.go:30", after := #[{ on := 4, ground := Ground.data }, { on := 8, ground := Ground.gcOnly Departure.lateStores }], guard := none }) (v := .int .i64 2) rfl (by kernel_rfl) (by kernel_rfl) (by kernel_rfl) (by kernel_rfl) (fun _ _ _ h => h) (Or.inl ⟨by rfl, ?_⟩) (.inr (SK.out _ tV)) ?_
          · rintro w -
            go_simp
          simp only [Act.put, List.setIfInBounds_toArray, List.set_cons_zero, List.set_cons_succ]
          have e0 := cell_of_row u5 PA 0 _ 27 (0, 0) hnA
          have e1 := cell_of_row u5 PA 1 _ 27 (0, 0) hnA
          have e2 := cell_of_row u5 PA 2 _ 27 (0, 0) hnA
          have e3 := cell_of_row u5 PA 3 _ 27 (0, 0) hnA
          have z0 := frozen_of_row u5 PA 0 _ 27 hnA
          have z1 := frozen_of_row u5 PA 1 _ 27 hnA
          have z2 := frozen_of_row u5 PA 2 _ 27 hnA
          have z3 := frozen_of_row u5 PA 3 _ 27 hnA
          have HNA := hide hnA
          have TV := hide tV
          clear hnA tV
          refine wpAnyZ_ready (rs := [8]) (by kernel_rfl) (by simp) ?_
          refine AllReadyZ.free rfl (by kernel_rfl) (fun K hK => ?_) AllReadyZ.nil
          go_simp
          refine hK.out _ _ ?_
          clear hK K
          refine wpAnyZ_late (i := 9) (oi := { dst := some 4, op := Op.assign (Operand.tmp 22), type := 34, pos := "law.go:30", after := #[{ on := 6, ground := Ground.data }, { on := 8, ground := Ground.chain }, { on := 0, ground := Ground.phase }, { on := 1, ground := Ground.phase }, { on := 2, ground := Ground.phase }, { on := 3, ground := Ground.phase }, { on := 4, ground := Ground.phase }, { on := 5, ground := Ground.phase }, { on := 6, ground := Ground.phase }, { on := 7, ground := Ground.phase }, { on := 8, ground := Ground.phase }], guard := none }) (v := .int .i64 2) rfl (by kernel_rfl) (by kernel_rfl) (by kernel_rfl) (by kernel_rfl) (fun _ _ _ h => h) (Or.inl ⟨by rfl, ?_⟩) (.inl (by kernel_rfl)) ?_
          · rintro w -
            go_simp
          simp only [Act.put, List.setIfInBounds_toArray, List.set_cons_zero, List.set_cons_succ]
          refine wpAnyZ_done (by kernel_rfl) ?_ _
          go_wp2_with fail
          go_meet
          exact ⟨⟨_, rfl⟩, rfl, TV.out.andThen (turns_setCells PA 0 [.slice none 0 0, .int .u64 0, .int .u64 0, .int .u64 0] _) fun j hj e => by have := HPA.out; omega⟩
      · go_simp
        obtain ⟨uA, huA⟩ : ∃ uA, uA = u8.alloc (.cells #[.slice none 0 0, .int .u64 0, .int .u64 0, .int .u64 0] 27) := ⟨_, rfl⟩
        have hnA : uA.heap[u8.heap.size]? = some (.cells #[.slice none 0 0, .int .u64 0, .int .u64 0, .int .u64 0] 27) := by rw [huA]; exact heap_alloc_new _ _
        have tA : Turns (fun _ => False) u8 uA := by rw [huA]; exact (Turns.refl _ _).alloc _
        have hsz := tV.size
        have tV := tV.trans tA
        have hfb := hfb.quiet tA
        rw [← huA]
        refine hK.out _ _ (SK.out _ tV) (fun _ => ?_)
        clear hK K tA huA
        obtain ⟨PA, hPA⟩ : ∃ PA, PA = u8.heap.size := ⟨_, rfl⟩
        have HPA := hide (show W.heap.size ≤ PA from by rw [hPA]; exact hsz)
        rw [← hPA]
        replace hnA : uA.heap[PA]? = some (.cells #[.slice none 0 0, .int .u64 0, .int .u64 0, .int .u64 0] 27) := by rw [hPA]; exact hnA
        clear hPA hsz
        refine wpAnyZ_ready (rs := [2]) (by kernel_rfl) (by simp) ?_
        refine AllReadyZ.cons rfl (fun K hK => ?_) (AllReadyZ.nil)
        go_simp
        refine (add1_any 3 x _ hfb (by omega) (by rw [hxf]; decide) (by rw [hxf]; decide) (by rw [hxf]; decide)).mono ?_
        rintro oo u7 ⟨ga, rfl, hed, t7⟩
        have tV := tV.trans t7
        have hnA := t7.heap hnA (fun x => x)
        clear t7 hfb
        go_simp
        refine hK.out _ _ (SK.out _ tV) (fun _ => ?_)
        clear hK K
        refine wpAnyZ_ready (rs := [3]) (by kernel_rfl) (by simp) ?_
        refine AllReadyZ.cons rfl (fun K hK => ?_) (AllReadyZ.nil)
        go_simp
        refine (CA.out _ tV x ga hxf hed).mono ?_
        rintro oo u5 ⟨t5, v, rfl, hnone, hsome⟩
        have tV := tV.trans t5
        have hnA := t5.heap hnA (fun x => x)
        obtain rfl := hnone rfl
        clear hnone hsome
        clear t5 hed
        go_simp
        refine hK.out _ _ (SK.out _ tV) (fun _ => ?_)
        clear hK K
        unfold zeroVer
        refine wpAnyZ_take (i := 4) (oi := { dst := some 16, op := Op.move (Operand.tmp 20), type := 35, pos := "law.go:30", after := #[{ on := 3, ground := Ground.data }], guard := none }) (v := .tuple #[.agg #[.slice none 0 0, .int .u64 0, .int .u64 0, .int .u64 0], .int .i64 2]) rfl (by kernel_rfl) (by kernel_rfl) (by kernel_rfl) (by kernel_rfl) (fun _ _ _ h => h) (Or.inl ⟨by rfl, ?_⟩) (SK.out _ tV) ?_
        · rintro w ⟨s0, s1, s2, s3⟩
          go_simp
        simp only [Act.put, List.setIfInBounds_toArray, List.set_cons_zero, List.set_cons_succ]
        refine wpAnyZ_take (i := 5) (oi := { dst := some 21, op := Op.extract (Operand.tmp 16) 0, type := 27, pos := "law.go:30", after := #[{ on := 4, ground := Ground.data }], guard := none }) (v := .agg #[.slice none 0 0, .int .u64 0, .int .u64 0, .int .u64 0]) rfl (by kernel_rfl) (by kernel_rfl) (by kernel_rfl) (by kernel_rfl) (fun _ _ _ h => h) (Or.inl ⟨by rfl, ?_⟩) (SK.out _ tV) ?_
        · rintro w ⟨s0, s1, s2, s3⟩
          go_simp
        simp only [Act.put, List.setIfInBounds_toArray, List.set_cons_zero, List.set_cons_succ]
        refine wpAnyZ_late (i := 6) (oi := { dst := some 22, op := Op.extract (Operand.tmp 16) 1, type := 34, pos := "law.go:30", after := #[{ on := 4, ground := Ground.data }, { on := 8, ground := Ground.gcOnly Departure.lateStores }], guard := none }) (v := .int .i64 2) rfl (by kernel_rfl) (by kernel_rfl) (by kernel_rfl) (by kernel_rfl) (fun _ _ _ h => h) (Or.inl ⟨by rfl, ?_⟩) (.inr (SK.out _ tV)) ?_
        · rintro w -
          go_simp
        simp only [Act.put, List.setIfInBounds_toArray, List.set_cons_zero, List.set_cons_succ]
        have e0 := cell_of_row u5 PA 0 _ 27 (0, 0) hnA
        have e1 := cell_of_row u5 PA 1 _ 27 (0, 0) hnA
        have e2 := cell_of_row u5 PA 2 _ 27 (0, 0) hnA
        have e3 := cell_of_row u5 PA 3 _ 27 (0, 0) hnA
        have z0 := frozen_of_row u5 PA 0 _ 27 hnA
        have z1 := frozen_of_row u5 PA 1 _ 27 hnA
        have z2 := frozen_of_row u5 PA 2 _ 27 hnA
        have z3 := frozen_of_row u5 PA 3 _ 27 hnA
        have HNA := hide hnA
        have TV := hide tV
        clear hnA tV
        refine wpAnyZ_ready (rs := [8]) (by kernel_rfl) (by simp) ?_
        refine AllReadyZ.free rfl (by kernel_rfl) (fun K hK => ?_) AllReadyZ.nil
        go_simp
        refine hK.out _ _ ?_
        clear hK K
        refine wpAnyZ_late (i := 9) (oi := { dst := some 4, op := Op.assign (Operand.tmp 22), type := 34, pos := "law.go:30", after := #[{ on := 6, ground := Ground.data }, { on := 8, ground := Ground.chain }, { on := 0, ground := Ground.phase }, { on := 1, ground := Ground.phase }, { on := 2, ground := Ground.phase }, { on := 3, ground := Ground.phase }, { on := 4, ground := Ground.phase }, { on := 5, ground := Ground.phase }, { on := 6, ground := Ground.phase }, { on := 7, ground := Ground.phase }, { on := 8, ground := Ground.phase }], guard := none }) (v := .int .i64 2) rfl (by kernel_rfl) (by kernel_rfl) (by kernel_rfl) (by kernel_rfl) (fun _ _ _ h => h) (Or.inl ⟨by rfl, ?_⟩) (.inl (by kernel_rfl)) ?_
        · rintro w -
          go_simp
        simp only [Act.put, List.setIfInBounds_toArray, List.set_cons_zero, List.set_cons_succ]
        refine wpAnyZ_done (by kernel_rfl) ?_ _
        go_wp2_with fail
        go_meet
        exact ⟨⟨_, rfl⟩, rfl, TV.out.andThen (turns_setCells PA 0 [.slice none 0 0, .int .u64 0, .int .u64 0, .int .u64 0] _) fun j hj e => by have := HPA.out; omega⟩
    · go_simp
      obtain ⟨uA, huA⟩ : ∃ uA, uA = Wd.alloc (.cells #[.slice none 0 0, .int .u64 0, .int .u64 0, .int .u64 0] 27) := ⟨_, rfl⟩
      have hnA : uA.heap[Wd.heap.size]? = some (.cells #[.slice none 0 0, .int .u64 0, .int .u64 0, .int .u64 0] 27) := by rw [huA]; exact heap_alloc_new _ _
      have tA : Turns (fun _ => False) Wd uA := by rw [huA]; exact (Turns.refl _ _).alloc _
      have hsz := tV.size
      have tV := tV.trans tA
      rw [← huA]
      refine hK.out _ _ (SK.out _ tV) (fun _ => ?_)
      clear hK K tA huA
      obtain ⟨PA, hPA⟩ : ∃ PA, PA = Wd.heap.size := ⟨_, rfl⟩
      have HPA := hide (show W.heap.size ≤ PA from by rw [hPA]; exact hsz)
      rw [← hPA]
      replace hnA : uA.heap[PA]? = some (.cells #[.slice none 0 0, .int .u64 0, .int .u64 0, .int .u64 0] 27) := by rw [hPA]; exact hnA
      clear hPA hsz
      refine wpAnyZ_ready (rs := [1]) (by kernel_rfl) (by simp) ?_
      refine AllReadyZ.cons rfl (fun K hK => ?_) (AllReadyZ.nil)
      go_simp
      refine (file_any 2 ⟨#[99]⟩ ⟨#[100]⟩ _).mono ?_
      rintro oo u8 ⟨x, rfl, hxf, hfb, t8⟩
      have tV := tV.trans t8
      have hnA := t8.heap hnA (fun x => x)
      clear t8
      go_simp
      refine hK.out _ _ (SK.out _ tV) (fun _ => ?_)
      clear hK K
      refine wpAnyZ_ready (rs := [2]) (by kernel_rfl) (by simp) ?_
      refine AllReadyZ.cons rfl (fun K hK => ?_) (AllReadyZ.nil)
      go_simp
      refine (add1_any 3 x _ hfb (by omega) (by rw [hxf]; decide) (by rw [hxf]; decide) (by rw [hxf]; decide)).mono ?_
      rintro oo u7 ⟨ga, rfl, hed, t7⟩
      have tV := tV.trans t7
      have hnA := t7.heap hnA (fun x => x)
      clear t7 hfb
      go_simp
      refine hK.out _ _ (SK.out _ tV) (fun _ => ?_)
      clear hK K
      refine wpAnyZ_ready (rs := [3]) (by kernel_rfl) (by simp) ?_
      refine AllReadyZ.cons rfl (fun K hK => ?_) (AllReadyZ.nil)
      go_simp
      refine (CA.out _ tV x ga hxf hed).mono ?_
      rintro oo u5 ⟨t5, v, rfl, hnone, hsome⟩
      have tV := tV.trans t5
      have hnA := t5.heap hnA (fun x => x)
      obtain rfl := hnone rfl
      clear hnone hsome
      clear t5 hed
      go_simp
      refine hK.out _ _ (SK.out _ tV) (fun _ => ?_)
      clear hK K
      unfold zeroVer
      refine wpAnyZ_take (i := 4) (oi := { dst := some 16, op := Op.move (Operand.tmp 20), type := 35, pos := "law.go:30", after := #[{ on := 3, ground := Ground.data }], guard := none }) (v := .tuple #[.agg #[.slice none 0 0, .int .u64 0, .int .u64 0, .int .u64 0], .int .i64 2]) rfl (by kernel_rfl) (by kernel_rfl) (by kernel_rfl) (by kernel_rfl) (fun _ _ _ h => h) (Or.inl ⟨by rfl, ?_⟩) (SK.out _ tV) ?_
      · rintro w ⟨s0, s1, s2, s3⟩
        go_simp
      simp only [Act.put, List.setIfInBounds_toArray, List.set_cons_zero, List.set_cons_succ]
      refine wpAnyZ_take (i := 5) (oi := { dst := some 21, op := Op.extract (Operand.tmp 16) 0, type := 27, pos := "law.go:30", after := #[{ on := 4, ground := Ground.data }], guard := none }) (v := .agg #[.slice none 0 0, .int .u64 0, .int .u64 0, .int .u64 0]) rfl (by kernel_rfl) (by kernel_rfl) (by kernel_rfl) (by kernel_rfl) (fun _ _ _ h => h) (Or.inl ⟨by rfl, ?_⟩) (SK.out _ tV) ?_
      · rintro w ⟨s0, s1, s2, s3⟩
        go_simp
      simp only [Act.put, List.setIfInBounds_toArray, List.set_cons_zero, List.set_cons_succ]
      refine wpAnyZ_late (i := 6) (oi := { dst := some 22, op := Op.extract (Operand.tmp 16) 1, type := 34, pos := "law.go:30", after := #[{ on := 4, ground := Ground.data }, { on := 8, ground := Ground.gcOnly Departure.lateStores }], guard := none }) (v := .int .i64 2) rfl (by kernel_rfl) (by kernel_rfl) (by kernel_rfl) (by kernel_rfl) (fun _ _ _ h => h) (Or.inl ⟨by rfl, ?_⟩) (.inr (SK.out _ tV)) ?_
      · rintro w -
        go_simp
      simp only [Act.put, List.setIfInBounds_toArray, List.set_cons_zero, List.set_cons_succ]
      have e0 := cell_of_row u5 PA 0 _ 27 (0, 0) hnA
      have e1 := cell_of_row u5 PA 1 _ 27 (0, 0) hnA
      have e2 := cell_of_row u5 PA 2 _ 27 (0, 0) hnA
      have e3 := cell_of_row u5 PA 3 _ 27 (0, 0) hnA
      have z0 := frozen_of_row u5 PA 0 _ 27 hnA
      have z1 := frozen_of_row u5 PA 1 _ 27 hnA
      have z2 := frozen_of_row u5 PA 2 _ 27 hnA
      have z3 := frozen_of_row u5 PA 3 _ 27 hnA
      have HNA := hide hnA
      have TV := hide tV
      clear hnA tV
      refine wpAnyZ_ready (rs := [8]) (by kernel_rfl) (by simp) ?_
      refine AllReadyZ.free rfl (by kernel_rfl) (fun K hK => ?_) AllReadyZ.nil
      go_simp
      refine hK.out _ _ ?_
      clear hK K
      refine wpAnyZ_late (i := 9) (oi := { dst := some 4, op := Op.assign (Operand.tmp 22), type := 34, pos := "law.go:30", after := #[{ on := 6, ground := Ground.data }, { on := 8, ground := Ground.chain }, { on := 0, ground := Ground.phase }, { on := 1, ground := Ground.phase }, { on := 2, ground := Ground.phase }, { on := 3, ground := Ground.phase }, { on := 4, ground := Ground.phase }, { on := 5, ground := Ground.phase }, { on := 6, ground := Ground.phase }, { on := 7, ground := Ground.phase }, { on := 8, ground := Ground.phase }], guard := none }) (v := .int .i64 2) rfl (by kernel_rfl) (by kernel_rfl) (by kernel_rfl) (by kernel_rfl) (fun _ _ _ h => h) (Or.inl ⟨by rfl, ?_⟩) (.inl (by kernel_rfl)) ?_
      · rintro w -
        go_simp
      simp only [Act.put, List.setIfInBounds_toArray, List.set_cons_zero, List.set_cons_succ]
      refine wpAnyZ_done (by kernel_rfl) ?_ _
      go_wp2_with fail
      go_meet
      exact ⟨⟨_, rfl⟩, rfl, TV.out.andThen (turns_setCells PA 0 [.slice none 0 0, .int .u64 0, .int .u64 0, .int .u64 0] _) fun j hj e => by have := HPA.out; omega⟩
  case rest =>
    obtain ⟨⟨p3, rfl⟩, rfl, hT⟩ := hcut
    obtain ⟨W3, hW3⟩ : ∃ W3, W3 = wc := ⟨_, rfl⟩
    subst hW3
    have HT := hide hT
    have NP3 := hide (hT.heap NP.out (fun x => x))
    have HV3 := hide (HV1.out.quiet hT)
    clear hT SK CA
    have SK := hide (fun (u : World) (t : Turns (fun _ => False) W3 u) => show u.cell? ⟨P1, 0, none⟩ = some (.slice (some ⟨G1, 0, none⟩) 5 c1) ∧ u.cell? ⟨P1, 1, none⟩ = some (.int .u64 2) ∧ u.cell? ⟨P1, 2, none⟩ = some (.int .u64 0) ∧ u.cell? ⟨P1, 3, none⟩ = some (.int .u64 0) from ⟨t.cell (cell_of_row W3 P1 0 _ 27 (0, 0) NP3.out) (fun x => x), t.cell (cell_of_row W3 P1 1 _ 27 (0, 0) NP3.out) (fun x => x), t.cell (cell_of_row W3 P1 2 _ 27 (0, 0) NP3.out) (fun x => x), t.cell (cell_of_row W3 P1 3 _ 27 (0, 0) NP3.out) (fun x => x)⟩)
    have CA := hide (fun (u : World) (t : Turns (fun _ => False) W3 u) (x : Tf) (ga : Nat) (hx : x.f = fc) (hed : EdIn u none 0 (some ⟨ga, 0, none⟩) 1 [] [(1, x)] 3 0 0) => apply_one (some ⟨G1, 0, none⟩) c1 2 0 0 L1 ga 3 x fc ver1 _ _ u (HV3.out.quiet t) HL1.out hx hed ap3 (by decide) (by decide))
    go_upto_region 3 with (fail)
    go_cut [5, 6] from 16 (fun v5 v6 wc => ∃ (P5 G2 c2 : Nat) (L2 : List Lv), v5 = .pointer (some ⟨P5, 0, none⟩) ∧ v6 = .int .i64 0 ∧ wc.heap[P5]? = some (.cells #[.slice (some ⟨G2, 0, none⟩) 5 c2, .int .u64 3, .int .u64 0, .int .u64 0] 27 (0, 0)) ∧ flL L2 = ver3 ∧ VerIn wc (some ⟨G2, 0, none⟩) 5 L2 3 0 0 ∧ Turns (fun _ => False) W3 wc)
    case first =>
      rename_i kk rest jj kk' m1 m2
      clear rest
      have tV : Turns (fun _ => False) W3 W3.drew := (Turns.refl _ _).drew
      refine wp_region_z_drew 8 (S := fun u => u.cell? ⟨P1, 0, none⟩ = some (.slice (some ⟨G1, 0, none⟩) 5 c1) ∧ u.cell? ⟨P1, 1, none⟩ = some (.int .u64 2) ∧ u.cell? ⟨P1, 2, none⟩ = some (.int .u64 0) ∧ u.cell? ⟨P1, 3, none⟩ = some (.int .u64 0)) (by kernel_rfl) (SK.out _ tV) (fun _ => ?_)
      change wpAnyZ _ _ _ _ _ _ 10 (Array.replicate 10 false) _ _
      refine wpAnyZ_take (i := 0) (oi := { dst := some 24, op := Op.load 27 (Operand.tmp 1), type := 27, pos := "law.go:31", after := #[], guard := none }) (v := .agg #[.slice (some ⟨G1, 0, none⟩) 5 c1, .int .u64 2, .int .u64 0, .int .u64 0]) rfl (by kernel_rfl) (by kernel_rfl) (by kernel_rfl) (by kernel_rfl) (fun _ _ _ h => h) (Or.inl ⟨by rfl, ?_⟩) (SK.out _ tV) ?_
      · rintro w ⟨s0, s1, s2, s3⟩
        go_simp
      simp only [Act.put, List.setIfInBounds_toArray, List.set_cons_zero, List.set_cons_succ]
      generalize W3.drew = Wd at *
      refine wpAnyZ_ready (rs := [1, 7]) (by kernel_rfl) (by simp) ?_
      refine AllReadyZ.cons rfl (fun K hK => ?_) (AllReadyZ.cons rfl (fun K hK => ?_) (AllReadyZ.nil))
      · go_simp
        refine (file_any 2 ⟨#[100]⟩ ⟨#[101]⟩ _).mono ?_
        rintro oo u8 ⟨x, rfl, hxf, hfb, t8⟩
        have tV := tV.trans t8
        clear t8
        go_simp
        refine hK.out _ _ (SK.out _ tV) (fun _ => ?_)
        clear hK K
        refine wpAnyZ_ready (rs := [2, 7]) (by kernel_rfl) (by simp) ?_
        refine AllReadyZ.cons rfl (fun K hK => ?_) (AllReadyZ.cons rfl (fun K hK => ?_) (AllReadyZ.nil))
        · go_simp
          refine (add1_any 3 x _ hfb (by omega) (by rw [hxf]; decide) (by rw [hxf]; decide) (by rw [hxf]; decide)).mono ?_
          rintro oo u7 ⟨ga, rfl, hed, t7⟩
          have tV := tV.trans t7
          clear t7 hfb
          go_simp
          refine hK.out _ _ (SK.out _ tV) (fun _ => ?_)
          clear hK K
          refine wpAnyZ_ready (rs := [3, 7]) (by kernel_rfl) (by simp) ?_
          refine AllReadyZ.cons rfl (fun K hK => ?_) (AllReadyZ.cons rfl (fun K hK => ?_) (AllReadyZ.nil))
          · go_simp
            refine (CA.out _ tV x ga hxf hed).mono ?_
            rintro oo u5 ⟨t5, v, rfl, hnone, hsome⟩
            have tV := tV.trans t5
            obtain ⟨G2, c2, L2, rfl, hL2, hV2, hD2⟩ := hsome _ rfl
            have HL2 := hide hL2
            have HV2 := hide hV2
            have HD2 := hide hD2
            clear hnone hsome hL2 hV2 hD2
            clear t5 hed
            go_simp
            refine hK.out _ _ (SK.out _ tV) (fun _ => ?_)
            clear hK K
            unfold verAgg
            refine wpAnyZ_take (i := 4) (oi := { dst := some 23, op := Op.move (Operand.tmp 27), type := 35, pos := "law.go:31", after := #[{ on := 3, ground := Ground.data }], guard := none }) (v := .tuple #[.agg #[.slice (some ⟨G2, 0, none⟩) 5 c2, .int .u64 3, .int .u64 0, .int .u64 0], .int .i64 0]) rfl (by kernel_rfl) (by kernel_rfl) (by kernel_rfl) (by kernel_rfl) (fun _ _ _ h => h) (Or.inl ⟨by rfl, ?_⟩) (SK.out _ tV) ?_
            · rintro w ⟨s0, s1, s2, s3⟩
              go_simp
            simp only [Act.put, List.setIfInBounds_toArray, List.set_cons_zero, List.set_cons_succ]
            refine wpAnyZ_take (i := 5) (oi := { dst := some 28, op := Op.extract (Operand.tmp 23) 0, type := 27, pos := "law.go:31", after := #[{ on := 4, ground := Ground.data }], guard := none }) (v := .agg #[.slice (some ⟨G2, 0, none⟩) 5 c2, .int .u64 3, .int .u64 0, .int .u64 0]) rfl (by kernel_rfl) (by kernel_rfl) (by kernel_rfl) (by kernel_rfl) (fun _ _ _ h => h) (Or.inl ⟨by rfl, ?_⟩) (SK.out _ tV) ?_
            · rintro w ⟨s0, s1, s2, s3⟩
              go_simp
            simp only [Act.put, List.setIfInBounds_toArray, List.set_cons_zero, List.set_cons_succ]
            refine wpAnyZ_late (i := 6) (oi := { dst := some 29, op := Op.extract (Operand.tmp 23) 1, type := 34, pos := "law.go:31", after := #[{ on := 4, ground := Ground.data }, { on := 8, ground := Ground.gcOnly Departure.lateStores }], guard := none }) (v := .int .i64 0) rfl (by kernel_rfl) (by kernel_rfl) (by kernel_rfl) (by kernel_rfl) (fun _ _ _ h => h) (Or.inl ⟨by rfl, ?_⟩) (.inr (SK.out _ tV)) ?_
            · rintro w -
              go_simp
            simp only [Act.put, List.setIfInBounds_toArray, List.set_cons_zero, List.set_cons_succ]
            refine wpAnyZ_ready (rs := [7]) (by kernel_rfl) (by simp) ?_
            refine AllReadyZ.cons rfl (fun K hK => ?_) (AllReadyZ.nil)
            go_simp
            obtain ⟨uA, huA⟩ : ∃ uA, uA = u5.alloc (.cells #[.slice none 0 0, .int .u64 0, .int .u64 0, .int .u64 0] 27) := ⟨_, rfl⟩
            have hnA : uA.heap[u5.heap.size]? = some (.cells #[.slice none 0 0, .int .u64 0, .int .u64 0, .int .u64 0] 27) := by rw [huA]; exact heap_alloc_new _ _
            have tA : Turns (fun _ => False) u5 uA := by rw [huA]; exact (Turns.refl _ _).alloc _
            have hsz := tV.size
            have tV := tV.trans tA
            have HD2 := hide (HD2.out.quiet tA)
            rw [← huA]
            refine hK.out _ _ (SK.out _ tV) (fun _ => ?_)
            clear hK K tA huA
            obtain ⟨PA, hPA⟩ : ∃ PA, PA = u5.heap.size := ⟨_, rfl⟩
            have HPA := hide (show W3.heap.size ≤ PA from by rw [hPA]; exact hsz)
            rw [← hPA]
            replace hnA : uA.heap[PA]? = some (.cells #[.slice none 0 0, .int .u64 0, .int .u64 0, .int .u64 0] 27) := by rw [hPA]; exact hnA
            clear hPA hsz
            have e0 := cell_of_row uA PA 0 _ 27 (0, 0) hnA
            have e1 := cell_of_row uA PA 1 _ 27 (0, 0) hnA
            have e2 := cell_of_row uA PA 2 _ 27 (0, 0) hnA
            have e3 := cell_of_row uA PA 3 _ 27 (0, 0) hnA
            have z0 := frozen_of_row uA PA 0 _ 27 hnA
            have z1 := frozen_of_row uA PA 1 _ 27 hnA
            have z2 := frozen_of_row uA PA 2 _ 27 hnA
            have z3 := frozen_of_row uA PA 3 _ 27 hnA
            have HNA := hide hnA
            have TV := hide tV
            clear hnA tV
            refine wpAnyZ_ready (rs := [8]) (by kernel_rfl) (by simp) ?_
            refine AllReadyZ.free rfl (by kernel_rfl) (fun K hK => ?_) AllReadyZ.nil
            go_simp
            refine hK.out _ _ ?_
            clear hK K
            refine wpAnyZ_late (i := 9) (oi := { dst := some 6, op := Op.assign (Operand.tmp 29), type := 34, pos := "law.go:31", after := #[{ on := 6, ground := Ground.data }, { on := 8, ground := Ground.chain }, { on := 0, ground := Ground.phase }, { on := 1, ground := Ground.phase }, { on := 2, ground := Ground.phase }, { on := 3, ground := Ground.phase }, { on := 4, ground := Ground.phase }, { on := 5, ground := Ground.phase }, { on := 6, ground := Ground.phase }, { on := 7, ground := Ground.phase }, { on := 8, ground := Ground.phase }], guard := none }) (v := .int .i64 0) rfl (by kernel_rfl) (by kernel_rfl) (by kernel_rfl) (by kernel_rfl) (fun _ _ _ h => h) (Or.inl ⟨by rfl, ?_⟩) (.inl (by kernel_rfl)) ?_
            · rintro w -
              go_simp
            simp only [Act.put, List.setIfInBounds_toArray, List.set_cons_zero, List.set_cons_succ]
            refine wpAnyZ_done (by kernel_rfl) ?_ _
            go_wp2_with fail
            go_meet
            have tk := ((((Tick.refl HNA.out).set 0 (.slice (some ⟨G2, 0, none⟩) 5 c2)).set 1 (.int .u64 3)).set 2 (.int .u64 0)).set 3 (.int .u64 0)
            exact ⟨PA, G2, c2, L2, rfl, rfl, tk.1, HL2.out, { HV2.out with levs := (HD2.out.alien (Turns.of_tick tk) HNA.out (by decide) (by decide) (by decide)).levs }, TV.out.andThen (Turns.of_tick tk) fun j hj e => by have := HPA.out; omega⟩
          · go_simp
            obtain ⟨uA, huA⟩ : ∃ uA, uA = u7.alloc (.cells #[.slice none 0 0, .int .u64 0, .int .u64 0, .int .u64 0] 27) := ⟨_, rfl⟩
            have hnA : uA.heap[u7.heap.size]? = some (.cells #[.slice none 0 0, .int .u64 0, .int .u64 0, .int .u64 0] 27) := by rw [huA]; exact heap_alloc_new _ _
            have tA : Turns (fun _ => False) u7 uA := by rw [huA]; exact (Turns.refl _ _).alloc _
            have hsz := tV.size
            have tV := tV.trans tA
            have hed := hed.quiet tA
            rw [← huA]
            refine hK.out _ _ (SK.out _ tV) (fun _ => ?_)
            clear hK K tA huA
            obtain ⟨PA, hPA⟩ : ∃ PA, PA = u7.heap.size := ⟨_, rfl⟩
            have HPA := hide (show W3.heap.size ≤ PA from by rw [hPA]; exact hsz)
            rw [← hPA]
            replace hnA : uA.heap[PA]? = some (.cells #[.slice none 0 0, .int .u64 0, .int .u64 0, .int .u64 0] 27) := by rw [hPA]; exact hnA
            clear hPA hsz
            refine wpAnyZ_ready (rs := [3]) (by kernel_rfl) (by simp) ?_
            refine AllReadyZ.cons rfl (fun K hK => ?_) (AllReadyZ.nil)
            go_simp
            refine (CA.out _ tV x ga hxf hed).mono ?_
            rintro oo u5 ⟨t5, v, rfl, hnone, hsome⟩
            have tV := tV.trans t5
            have hnA := t5.heap hnA (fun x => x)
            obtain ⟨G2, c2, L2, rfl, hL2, hV2, hD2⟩ := hsome _ rfl
            have HL2 := hide hL2
            have HV2 := hide hV2
            have HD2 := hide hD2
            clear hnone hsome hL2 hV2 hD2
            clear t5 hed
            go_simp
            refine hK.out _ _ (SK.out _ tV) (fun _ => ?_)
            clear hK K
            unfold verAgg
            refine wpAnyZ_take (i := 4) (oi := { dst := some 23, op := Op.move (Operand.tmp 27), type := 35, pos := "law.go:31", after := #[{ on := 3, ground := Ground.data }], guard := none }) (v := .tuple #[.agg #[.slice (some ⟨G2, 0, none⟩) 5 c2, .int .u64 3, .int .u64 0, .int .u64 0], .int .i64 0]) rfl (by kernel_rfl) (by kernel_rfl) (by kernel_rfl) (by kernel_rfl) (fun _ _ _ h => h) (Or.inl ⟨by rfl, ?_⟩) (SK.out _ tV) ?_
            · rintro w ⟨s0, s1, s2, s3⟩
              go_simp
            simp only [Act.put, List.setIfInBounds_toArray, List.set_cons_zero, List.set_cons_succ]
            refine wpAnyZ_take (i := 5) (oi := { dst := some 28, op := Op.extract (Operand.tmp 23) 0, type := 27, pos := "law.go:31", after := #[{ on := 4, ground := Ground.data }], guard := none }) (v := .agg #[.slice (some ⟨G2, 0, none⟩) 5 c2, .int .u64 3, .int .u64 0, .int .u64 0]) rfl (by kernel_rfl) (by kernel_rfl) (by kernel_rfl) (by kernel_rfl) (fun _ _ _ h => h) (Or.inl ⟨by rfl, ?_⟩) (SK.out _ tV) ?_
            · rintro w ⟨s0, s1, s2, s3⟩
              go_simp
            simp only [Act.put, List.setIfInBounds_toArray, List.set_cons_zero, List.set_cons_succ]
            refine wpAnyZ_late (i := 6) (oi := { dst := some 29, op := Op.extract (Operand.tmp 23) 1, type := 34, pos := "law.go:31", after := #[{ on := 4, ground := Ground.data }, { on := 8, ground := Ground.gcOnly Departure.lateStores }], guard := none }) (v := .int .i64 0) rfl (by kernel_rfl) (by kernel_rfl) (by kernel_rfl) (by kernel_rfl) (fun _ _ _ h => h) (Or.inl ⟨by rfl, ?_⟩) (.inr (SK.out _ tV)) ?_
            · rintro w -
              go_simp
            simp only [Act.put, List.setIfInBounds_toArray, List.set_cons_zero, List.set_cons_succ]
            have e0 := cell_of_row u5 PA 0 _ 27 (0, 0) hnA
            have e1 := cell_of_row u5 PA 1 _ 27 (0, 0) hnA
            have e2 := cell_of_row u5 PA 2 _ 27 (0, 0) hnA
            have e3 := cell_of_row u5 PA 3 _ 27 (0, 0) hnA
            have z0 := frozen_of_row u5 PA 0 _ 27 hnA
            have z1 := frozen_of_row u5 PA 1 _ 27 hnA
            have z2 := frozen_of_row u5 PA 2 _ 27 hnA
            have z3 := frozen_of_row u5 PA 3 _ 27 hnA
            have HNA := hide hnA
            have TV := hide tV
            clear hnA tV
            refine wpAnyZ_ready (rs := [8]) (by kernel_rfl) (by simp) ?_
            refine AllReadyZ.free rfl (by kernel_rfl) (fun K hK => ?_) AllReadyZ.nil
            go_simp
            refine hK.out _ _ ?_
            clear hK K
            refine wpAnyZ_late (i := 9) (oi := { dst := some 6, op := Op.assign (Operand.tmp 29), type := 34, pos := "law.go:31", after := #[{ on := 6, ground := Ground.data }, { on := 8, ground := Ground.chain }, { on := 0, ground := Ground.phase }, { on := 1, ground := Ground.phase }, { on := 2, ground := Ground.phase }, { on := 3, ground := Ground.phase }, { on := 4, ground := Ground.phase }, { on := 5, ground := Ground.phase }, { on := 6, ground := Ground.phase }, { on := 7, ground := Ground.phase }, { on := 8, ground := Ground.phase }], guard := none }) (v := .int .i64 0) rfl (by kernel_rfl) (by kernel_rfl) (by kernel_rfl) (by kernel_rfl) (fun _ _ _ h => h) (Or.inl ⟨by rfl, ?_⟩) (.inl (by kernel_rfl)) ?_
            · rintro w -
              go_simp
            simp only [Act.put, List.setIfInBounds_toArray, List.set_cons_zero, List.set_cons_succ]
            refine wpAnyZ_done (by kernel_rfl) ?_ _
            go_wp2_with fail
            go_meet
            have tk := ((((Tick.refl HNA.out).set 0 (.slice (some ⟨G2, 0, none⟩) 5 c2)).set 1 (.int .u64 3)).set 2 (.int .u64 0)).set 3 (.int .u64 0)
            exact ⟨PA, G2, c2, L2, rfl, rfl, tk.1, HL2.out, { HV2.out with levs := (HD2.out.alien (Turns.of_tick tk) HNA.out (by decide) (by decide) (by decide)).levs }, TV.out.andThen (Turns.of_tick tk) fun j hj e => by have := HPA.out; omega⟩
        · go_simp
          obtain ⟨uA, huA⟩ : ∃ uA, uA = u8.alloc (.cells #[.slice none 0 0, .int .u64 0, .int .u64 0, .int .u64 0] 27) := ⟨_, rfl⟩
          have hnA : uA.heap[u8.heap.size]? = some (.cells #[.slice none 0 0, .int .u64 0, .int .u64 0, .int .u64 0] 27) := by rw [huA]; exact heap_alloc_new _ _
          have tA : Turns (fun _ => False) u8 uA := by rw [huA]; exact (Turns.refl _ _).alloc _
          have hsz := tV.size
          have tV := tV.trans tA
          have hfb := hfb.quiet tA
          rw [← huA]
          refine hK.out _ _ (SK.out _ tV) (fun _ => ?_)
          clear hK K tA huA
          obtain ⟨PA, hPA⟩ : ∃ PA, PA = u8.heap.size := ⟨_, rfl⟩
          have HPA := hide (show W3.heap.size ≤ PA from by rw [hPA]; exact hsz)
          rw [← hPA]
          replace hnA : uA.heap[PA]? = some (.cells #[.slice none 0 0, .int .u64 0, .int .u64 0, .int .u64 0] 27) := by rw [hPA]; exact hnA
          clear hPA hsz
          refine wpAnyZ_ready (rs := [2]) (by kernel_rfl) (by simp) ?_
          refine AllReadyZ.cons rfl (fun K hK => ?_) (AllReadyZ.nil)
          go_simp
          refine (add1_any 3 x _ hfb (by omega) (by rw [hxf]; decide) (by rw [hxf]; decide) (by rw [hxf]; decide)).mono ?_
          rintro oo u7 ⟨ga, rfl, hed, t7⟩
          have tV := tV.trans t7
          have hnA := t7.heap hnA (fun x => x)
          clear t7 hfb
          go_simp
          refine hK.out _ _ (SK.out _ tV) (fun _ => ?_)
          clear hK K
          refine wpAnyZ_ready (rs := [3]) (by kernel_rfl) (by simp) ?_
          refine AllReadyZ.cons rfl (fun K hK => ?_) (AllReadyZ.nil)
          go_simp
          refine (CA.out _ tV x ga hxf hed).mono ?_
          rintro oo u5 ⟨t5, v, rfl, hnone, hsome⟩
          have tV := tV.trans t5
          have hnA := t5.heap hnA (fun x => x)
          obtain ⟨G2, c2, L2, rfl, hL2, hV2, hD2⟩ := hsome _ rfl
          have HL2 := hide hL2
          have HV2 := hide hV2
          have HD2 := hide hD2
          clear hnone hsome hL2 hV2 hD2
          clear t5 hed
          go_simp
          refine hK.out _ _ (SK.out _ tV) (fun _ => ?_)
          clear hK K
          unfold verAgg
          refine wpAnyZ_take (i := 4) (oi := { dst := some 23, op := Op.move (Operand.tmp 27), type := 35, pos := "law.go:31", after := #[{ on := 3, ground := Ground.data }], guard := none }) (v := .tuple #[.agg #[.slice (some ⟨G2, 0, none⟩) 5 c2, .int .u64 3, .int .u64 0, .int .u64 0], .int .i64 0]) rfl (by kernel_rfl) (by kernel_rfl) (by kernel_rfl) (by kernel_rfl) (fun _ _ _ h => h) (Or.inl ⟨by rfl, ?_⟩) (SK.out _ tV) ?_
          · rintro w ⟨s0, s1, s2, s3⟩
            go_simp
          simp only [Act.put, List.setIfInBounds_toArray, List.set_cons_zero, List.set_cons_succ]
          refine wpAnyZ_take (i := 5) (oi := { dst := some 28, op := Op.extract (Operand.tmp 23) 0, type := 27, pos := "law.go:31", after := #[{ on := 4, ground := Ground.data }], guard := none }) (v := .agg #[.slice (some ⟨G2, 0, none⟩) 5 c2, .int .u64 3, .int .u64 0, .int .u64 0]) rfl (by kernel_rfl) (by kernel_rfl) (by kernel_rfl) (by kernel_rfl) (fun _ _ _ h => h) (Or.inl ⟨by rfl, ?_⟩) (SK.out _ tV) ?_
          · rintro w ⟨s0, s1, s2, s3⟩
            go_simp
          simp only [Act.put, List.setIfInBounds_toArray, List.set_cons_zero, List.set_cons_succ]
          refine wpAnyZ_late (i := 6) (oi := { dst := some 29, op := Op.extract (Operand.tmp 23) 1, type := 34, pos := "law.go:31", after := #[{ on := 4, ground := Ground.data }, { on := 8, ground := Ground.gcOnly Departure.lateStores }], guard := none }) (v := .int .i64 0) rfl (by kernel_rfl) (by kernel_rfl) (by kernel_rfl) (by kernel_rfl) (fun _ _ _ h => h) (Or.inl ⟨by rfl, ?_⟩) (.inr (SK.out _ tV)) ?_
          · rintro w -
            go_simp
          simp only [Act.put, List.setIfInBounds_toArray, List.set_cons_zero, List.set_cons_succ]
          have e0 := cell_of_row u5 PA 0 _ 27 (0, 0) hnA
          have e1 := cell_of_row u5 PA 1 _ 27 (0, 0) hnA
          have e2 := cell_of_row u5 PA 2 _ 27 (0, 0) hnA
          have e3 := cell_of_row u5 PA 3 _ 27 (0, 0) hnA
          have z0 := frozen_of_row u5 PA 0 _ 27 hnA
          have z1 := frozen_of_row u5 PA 1 _ 27 hnA
          have z2 := frozen_of_row u5 PA 2 _ 27 hnA
          have z3 := frozen_of_row u5 PA 3 _ 27 hnA
          have HNA := hide hnA
          have TV := hide tV
          clear hnA tV
          refine wpAnyZ_ready (rs := [8]) (by kernel_rfl) (by simp) ?_
          refine AllReadyZ.free rfl (by kernel_rfl) (fun K hK => ?_) AllReadyZ.nil
          go_simp
          refine hK.out _ _ ?_
          clear hK K
          refine wpAnyZ_late (i := 9) (oi := { dst := some 6, op := Op.assign (Operand.tmp 29), type := 34, pos := "law.go:31", after := #[{ on := 6, ground := Ground.data }, { on := 8, ground := Ground.chain }, { on := 0, ground := Ground.phase }, { on := 1, ground := Ground.phase }, { on := 2, ground := Ground.phase }, { on := 3, ground := Ground.phase }, { on := 4, ground := Ground.phase }, { on := 5, ground := Ground.phase }, { on := 6, ground := Ground.phase }, { on := 7, ground := Ground.phase }, { on := 8, ground := Ground.phase }], guard := none }) (v := .int .i64 0) rfl (by kernel_rfl) (by kernel_rfl) (by kernel_rfl) (by kernel_rfl) (fun _ _ _ h => h) (Or.inl ⟨by rfl, ?_⟩) (.inl (by kernel_rfl)) ?_
          · rintro w -
            go_simp
          simp only [Act.put, List.setIfInBounds_toArray, List.set_cons_zero, List.set_cons_succ]
          refine wpAnyZ_done (by kernel_rfl) ?_ _
          go_wp2_with fail
          go_meet
          have tk := ((((Tick.refl HNA.out).set 0 (.slice (some ⟨G2, 0, none⟩) 5 c2)).set 1 (.int .u64 3)).set 2 (.int .u64 0)).set 3 (.int .u64 0)
          exact ⟨PA, G2, c2, L2, rfl, rfl, tk.1, HL2.out, { HV2.out with levs := (HD2.out.alien (Turns.of_tick tk) HNA.out (by decide) (by decide) (by decide)).levs }, TV.out.andThen (Turns.of_tick tk) fun j hj e => by have := HPA.out; omega⟩
      · go_simp
        obtain ⟨uA, huA⟩ : ∃ uA, uA = Wd.alloc (.cells #[.slice none 0 0, .int .u64 0, .int .u64 0, .int .u64 0] 27) := ⟨_, rfl⟩
        have hnA : uA.heap[Wd.heap.size]? = some (.cells #[.slice none 0 0, .int .u64 0, .int .u64 0, .int .u64 0] 27) := by rw [huA]; exact heap_alloc_new _ _
        have tA : Turns (fun _ => False) Wd uA := by rw [huA]; exact (Turns.refl _ _).alloc _
        have hsz := tV.size
        have tV := tV.trans tA
        rw [← huA]
        refine hK.out _ _ (SK.out _ tV) (fun _ => ?_)
        clear hK K tA huA
        obtain ⟨PA, hPA⟩ : ∃ PA, PA = Wd.heap.size := ⟨_, rfl⟩
        have HPA := hide (show W3.heap.size ≤ PA from by rw [hPA]; exact hsz)
        rw [← hPA]
        replace hnA : uA.heap[PA]? = some (.cells #[.slice none 0 0, .int .u64 0, .int .u64 0, .int .u64 0] 27) := by rw [hPA]; exact hnA
        clear hPA hsz
        refine wpAnyZ_ready (rs := [1]) (by kernel_rfl) (by simp) ?_
        refine AllReadyZ.cons rfl (fun K hK => ?_) (AllReadyZ.nil)
        go_simp
        refine (file_any 2 ⟨#[100]⟩ ⟨#[101]⟩ _).mono ?_
        rintro oo u8 ⟨x, rfl, hxf, hfb, t8⟩
        have tV := tV.trans t8
        have hnA := t8.heap hnA (fun x => x)
        clear t8
        go_simp
        refine hK.out _ _ (SK.out _ tV) (fun _ => ?_)
        clear hK K
        refine wpAnyZ_ready (rs := [2]) (by kernel_rfl) (by simp) ?_
        refine AllReadyZ.cons rfl (fun K hK => ?_) (AllReadyZ.nil)
        go_simp
        refine (add1_any 3 x _ hfb (by omega) (by rw [hxf]; decide) (by rw [hxf]; decide) (by rw [hxf]; decide)).mono ?_
        rintro oo u7 ⟨ga, rfl, hed, t7⟩
        have tV := tV.trans t7
        have hnA := t7.heap hnA (fun x => x)
        clear t7 hfb
        go_simp
        refine hK.out _ _ (SK.out _ tV) (fun _ => ?_)
        clear hK K
        refine wpAnyZ_ready (rs := [3]) (by kernel_rfl) (by simp) ?_
        refine AllReadyZ.cons rfl (fun K hK => ?_) (AllReadyZ.nil)
        go_simp
        refine (CA.out _ tV x ga hxf hed).mono ?_
        rintro oo u5 ⟨t5, v, rfl, hnone, hsome⟩
        have tV := tV.trans t5
        have hnA := t5.heap hnA (fun x => x)
        obtain ⟨G2, c2, L2, rfl, hL2, hV2, hD2⟩ := hsome _ rfl
        have HL2 := hide hL2
        have HV2 := hide hV2
        have HD2 := hide hD2
        clear hnone hsome hL2 hV2 hD2
        clear t5 hed
        go_simp
        refine hK.out _ _ (SK.out _ tV) (fun _ => ?_)
        clear hK K
        unfold verAgg
        refine wpAnyZ_take (i := 4) (oi := { dst := some 23, op := Op.move (Operand.tmp 27), type := 35, pos := "law.go:31", after := #[{ on := 3, ground := Ground.data }], guard := none }) (v := .tuple #[.agg #[.slice (some ⟨G2, 0, none⟩) 5 c2, .int .u64 3, .int .u64 0, .int .u64 0], .int .i64 0]) rfl (by kernel_rfl) (by kernel_rfl) (by kernel_rfl) (by kernel_rfl) (fun _ _ _ h => h) (Or.inl ⟨by rfl, ?_⟩) (SK.out _ tV) ?_
        · rintro w ⟨s0, s1, s2, s3⟩
          go_simp
        simp only [Act.put, List.setIfInBounds_toArray, List.set_cons_zero, List.set_cons_succ]
        refine wpAnyZ_take (i := 5) (oi := { dst := some 28, op := Op.extract (Operand.tmp 23) 0, type := 27, pos := "law.go:31", after := #[{ on := 4, ground := Ground.data }], guard := none }) (v := .agg #[.slice (some ⟨G2, 0, none⟩) 5 c2, .int .u64 3, .int .u64 0, .int .u64 0]) rfl (by kernel_rfl) (by kernel_rfl) (by kernel_rfl) (by kernel_rfl) (fun _ _ _ h => h) (Or.inl ⟨by rfl, ?_⟩) (SK.out _ tV) ?_
        · rintro w ⟨s0, s1, s2, s3⟩
          go_simp
        simp only [Act.put, List.setIfInBounds_toArray, List.set_cons_zero, List.set_cons_succ]
        refine wpAnyZ_late (i := 6) (oi := { dst := some 29, op := Op.extract (Operand.tmp 23) 1, type := 34, pos := "law.go:31", after := #[{ on := 4, ground := Ground.data }, { on := 8, ground := Ground.gcOnly Departure.lateStores }], guard := none }) (v := .int .i64 0) rfl (by kernel_rfl) (by kernel_rfl) (by kernel_rfl) (by kernel_rfl) (fun _ _ _ h => h) (Or.inl ⟨by rfl, ?_⟩) (.inr (SK.out _ tV)) ?_
        · rintro w -
          go_simp
        simp only [Act.put, List.setIfInBounds_toArray, List.set_cons_zero, List.set_cons_succ]
        have e0 := cell_of_row u5 PA 0 _ 27 (0, 0) hnA
        have e1 := cell_of_row u5 PA 1 _ 27 (0, 0) hnA
        have e2 := cell_of_row u5 PA 2 _ 27 (0, 0) hnA
        have e3 := cell_of_row u5 PA 3 _ 27 (0, 0) hnA
        have z0 := frozen_of_row u5 PA 0 _ 27 hnA
        have z1 := frozen_of_row u5 PA 1 _ 27 hnA
        have z2 := frozen_of_row u5 PA 2 _ 27 hnA
        have z3 := frozen_of_row u5 PA 3 _ 27 hnA
        have HNA := hide hnA
        have TV := hide tV
        clear hnA tV
        refine wpAnyZ_ready (rs := [8]) (by kernel_rfl) (by simp) ?_
        refine AllReadyZ.free rfl (by kernel_rfl) (fun K hK => ?_) AllReadyZ.nil
        go_simp
        refine hK.out _ _ ?_
        clear hK K
        refine wpAnyZ_late (i := 9) (oi := { dst := some 6, op := Op.assign (Operand.tmp 29), type := 34, pos := "law.go:31", after := #[{ on := 6, ground := Ground.data }, { on := 8, ground := Ground.chain }, { on := 0, ground := Ground.phase }, { on := 1, ground := Ground.phase }, { on := 2, ground := Ground.phase }, { on := 3, ground := Ground.phase }, { on := 4, ground := Ground.phase }, { on := 5, ground := Ground.phase }, { on := 6, ground := Ground.phase }, { on := 7, ground := Ground.phase }, { on := 8, ground := Ground.phase }], guard := none }) (v := .int .i64 0) rfl (by kernel_rfl) (by kernel_rfl) (by kernel_rfl) (by kernel_rfl) (fun _ _ _ h => h) (Or.inl ⟨by rfl, ?_⟩) (.inl (by kernel_rfl)) ?_
        · rintro w -
          go_simp
        simp only [Act.put, List.setIfInBounds_toArray, List.set_cons_zero, List.set_cons_succ]
        refine wpAnyZ_done (by kernel_rfl) ?_ _
        go_wp2_with fail
        go_meet
        have tk := ((((Tick.refl HNA.out).set 0 (.slice (some ⟨G2, 0, none⟩) 5 c2)).set 1 (.int .u64 3)).set 2 (.int .u64 0)).set 3 (.int .u64 0)
        exact ⟨PA, G2, c2, L2, rfl, rfl, tk.1, HL2.out, { HV2.out with levs := (HD2.out.alien (Turns.of_tick tk) HNA.out (by decide) (by decide) (by decide)).levs }, TV.out.andThen (Turns.of_tick tk) fun j hj e => by have := HPA.out; omega⟩
    case rest =>
      obtain ⟨P5, G2, c2, L2, rfl, rfl, hP5, hL2, hV2, hT5⟩ := hcut
      have HP5 := hide hP5
      have HL2 := hide hL2
      have HV2 := hide hV2
      have HT5 := hide (HT.out.trans hT5)
      clear hP5 hL2 hV2 hT5 SK CA
      have p0 := cell_of_row wc P5 0 _ 27 (0, 0) HP5.out
      have p1 := cell_of_row wc P5 1 _ 27 (0, 0) HP5.out
      have p2 := cell_of_row wc P5 2 _ 27 (0, 0) HP5.out
      have p3 := cell_of_row wc P5 3 _ 27 (0, 0) HP5.out
      have TD := hide ((Turns.refl (fun _ => False) wc).alloc (.cells #[.int .i64 1, .int .u64 9] 52))
      have ND := hide (heap_alloc_new wc (.cells #[.int .i64 1, .int .u64 9] 52))
      have CD := hide (apply_any (some ⟨G2, 0, none⟩) 5 c2 3 0 0 L2 (some ⟨wc.heap.size, 0, none⟩) 1 1 none 0 0 3 0 0 [(1, 9)] [] (wc.alloc (.cells #[.int .i64 1, .int .u64 9] 52)) (HV2.out.quiet TD.out) ⟨fun k d hd => by
        cases k with
        | zero =>
          obtain rfl : (1, 9) = d := by simpa using hd
          exact ⟨by decide, wc.heap.size, 0, rfl, cell_of_row _ wc.heap.size 0 _ 52 (0, 0) ND.out, cell_of_row _ wc.heap.size 1 _ 52 (0, 0) ND.out⟩
        | succ k => simp at hd, rfl, by omega, fun k d hd => by simp at hd, rfl, by omega, fun d hd => by simp at hd, by omega, by omega, by omega⟩ (by rw [cnt_wt, HL2.out]; decide) (by rw [byts_wt, HL2.out]; decide))
      go_wp2_with fail
      refine CD.out.mono ?_
      rintro e u6 ⟨t6, v, er, r, rfl, hR, hn, hs⟩
      rw [HL2.out] at hR
      obtain ⟨rfl, rfl⟩ := hR.one ap4
      obtain rfl := hn rfl
      have T6 := hide (TD.out.trans t6)
      have HP6 := hide (T6.out.heap HP5.out (fun x => x))
      have HV6 := hide (HV2.out.quiet T6.out)
      clear hn hs hR t6 CD p0 p1 p2 p3
      unfold zeroVer
      have TZ := hide ((Turns.refl (fun _ => False) u6).alloc (.cells #[.slice none 0 0, .int .u64 0, .int .u64 0, .int .u64 0] 27))
      go_upto_region 5 with (fail)
      have T7 := hide (T6.out.trans TZ.out)
      have HP7 := hide (TZ.out.heap HP6.out (fun x => x))
      have HV7 := hide (HV6.out.quiet TZ.out)
      generalize u6.alloc (.cells #[.slice none 0 0, .int .u64 0, .int .u64 0, .int .u64 0] 27) = u7 at *
      clear TZ T6 HP6 HV6
      have cv1 := conv35 #[.int .u8 98] 1 1 u7
      have cv2 := conv35 #[.int .u8 100] 1 1 (u7.alloc (.cells #[.int .u8 98] 5 (1, 2)))
      have TB := hide (((Turns.refl (fun _ => False) u7).alloc (.cells #[.int .u8 98] 5 (1, 2))).alloc (.cells #[.int .u8 100] 5 (1, 2)))
      have x1 := (Bytes.new u7 #[.int .u8 98] 5 1 (1, 2) [98#8] rfl).quiet ((Turns.refl (fun _ => False) _).alloc (.cells #[.int .u8 100] 5 (1, 2)))
      have x2 := Bytes.new (u7.alloc (.cells #[.int .u8 98] 5 (1, 2))) #[.int .u8 100] 5 1 (1, 2) [100#8] rfl
      simp only [World.size_alloc] at cv2 x2
      have CO := hide (overlap_any (some ⟨G2, 0, none⟩) 5 c2 3 0 0 L2 1 (some ⟨u7.heap.size, 0, none⟩) 1 1 (some ⟨u7.heap.size + 1, 0, none⟩) 1 1 [98#8] [100#8] _ (HV7.out.quiet TB.out) x1 x2)
      have p0 := cell_of_row u7 P5 0 _ 27 (0, 0) HP7.out
      have p1 := cell_of_row u7 P5 1 _ 27 (0, 0) HP7.out
      have p2 := cell_of_row u7 P5 2 _ 27 (0, 0) HP7.out
      have p3 := cell_of_row u7 P5 3 _ 27 (0, 0) HP7.out
      unfold verAgg at CO
      clear x1 x2
      go_wp2_with fail
      refine CO.out.mono ?_
      rintro e u8 ⟨xa, xc, R, rfl, hro, hfl, hft, t8⟩
      have hlen : R.length = 2 := by
        have h1 := congrArg List.length hfl
        rw [HL2.out] at h1
        simp only [fls, List.length_map] at h1
        rw [h1]
        decide
      rw [hlen]
      have T8 := hide (TB.out.trans t8)
      clear hro hfl hft t8 CO cv1 cv2 p0 p1 p2 p3
      go_wp2_with fail
      go_ret
      exact ⟨rfl, TW.out.trans (HT5.out.trans (T7.out.trans T8.out))⟩
end Go.Proofs.YtmmcikbedegigaaGreat
