import Derived.Test.YtkeglaplckfllaaM18
import Derived.Test.YtkeglaplckfllaaM17
/-
  The document's Insert of what is new.
-/
namespace Go.Proofs.Ytkeglaplckfllaa
open Go.RowKit
set_option maxRecDepth 100000
set_option maxHeartbeats 4000000
theorem ap_own (V : World) (e0 : Nat) (a : Option Addr) (n c : Nat) (bs : List (BitVec 8)) (hE : V.heap[e0]? = some (.cells #[] 5 (0, 0))) (h : Bytes V (.slice a n c) bs) (hn : n ≤ 1000000) :
    ∃ g k V', (∀ ty, (Builtin.append_ #[26, 26] ty #[.slice (some ⟨e0, 0, none⟩) 0 0, .slice a n c]).run Try.prog V = .ok (.slice (some ⟨g, 0, none⟩) n k) V') ∧ RowB V' g k bs ∧ n ≤ k ∧ Turns (fun j => j = e0) V V' ∧ (g = e0 ∨ g = V.heap.size) ∧ g < V'.heap.size := by
  have hl := h.len
  have he := lt_of_heap hE
  obtain ⟨g, k, V', hr, _, hrow, hb, hc, hin, hnew, hkeep⟩ := append_bytes2 V 0 (some ⟨e0, 0, none⟩) 0 0 [] rfl (.slice a n c) bs n hl h (Nat.zero_le _)
    (.inr ⟨_, rfl, Nat.zero_le _, Nat.le_refl _, #[], hE, Nat.le_refl _, fun k hk => by simp [cellsOf] at hk⟩) (by omega)
  rw [Nat.zero_add] at hr hc
  rw [List.nil_append] at hrow
  refine ⟨g, k, V', hr, hrow, hc, ⟨hb.os, hb.tape, hb.output, hb.size, fun j hj hn => hkeep j hj fun e => hn (by cases e; rfl)⟩, ?_, ?_⟩
  · by_cases h0 : n = 0
    · have := (hin (by omega)).1
      cases this
      exact .inl rfl
    · exact .inr (hnew (by omega))
  · obtain ⟨cs, h1, _⟩ := hrow
    exact lt_of_heap h1
theorem meet9 {w3 wx : World} {eX g1 k1 g2 k2 H : Nat} {e : Ent} (hf : wx.heap[eX]? = some (.cells #[.slice (some ⟨g1, 0, none⟩) e.key.length k1, .int .u64 (e.seq : Nat), .int .i64 e.kind, .slice (some ⟨g2, 0, none⟩) e.val.length k2] 29 (0, 0))) (h1 : Bytes wx (.slice (some ⟨g1, 0, none⟩) e.key.length k1) e.key) (h2 : Bytes wx (.slice (some ⟨g2, 0, none⟩) e.val.length k2) e.val) (hb : w3.heap.size ≤ eX ∧ (w3.heap.size ≤ g1 ∧ g1 < wx.heap.size) ∧ (w3.heap.size ≤ g2 ∧ g2 < wx.heap.size)) (t : Turns (fun _ => False) w3 wx) : ∃ (g : Nat) (x : Tow), Value.pointer (some ⟨eX, 0, none⟩) = .pointer (some ⟨g, 0, none⟩) ∧ x.e = e ∧ x.h = H ∧ wx.heap[g]? = some (.cells x.ent 29 (0, 0)) ∧ w3.heap.size ≤ g ∧ Bytes wx x.kv x.e.key ∧ Bytes wx x.vv x.e.val ∧ (∀ q, x.bytesIn q → w3.heap.size ≤ q ∧ q < wx.heap.size) ∧ Turns (fun _ => False) w3 wx :=
  ⟨eX, ⟨0, some ⟨g1, 0, none⟩, k1, some ⟨g2, 0, none⟩, k2, e, H⟩, rfl, rfl, rfl, hf, hb.1, h1, h2, fun q hq => by
    rcases hq with ⟨a, e1, rfl⟩ | ⟨a, e1, rfl⟩
    · cases e1; exact hb.2.1
    · cases e1; exact hb.2.2, t⟩
theorem rinsert_new (Q : Nat → Prop) (r : Nat) (l : List Tow) (w : World) (ho : RO Q w r l) (ka va : Option Addr) (kc vc : Nat) (e : Ent) (H : Nat) (hk : Bytes w (.slice ka e.key.length kc) e.key) (hv : Bytes w (.slice va e.val.length vc) e.val) (hkn : e.key.length ≤ 1000000) (hvn : e.val.length ≤ 1000000) (hkb : ∀ y, y ∈ l → y.e.key.length ≤ 1000000) (hl : l.length ≤ 100000) (hc : chk1 e = 0) (hh : 1 ≤ H ∧ H ≤ 12) (hat : atT l (place (e.key, e.seq) l) (e.key, e.seq) = none) :
    Calls Try.prog 17 #[.pointer (some ⟨r, 0, none⟩), .agg #[.slice ka e.key.length kc, .int .u64 (e.seq : Nat), .int .i64 e.kind, .slice va e.val.length vc], .int .i64 (H : Nat)] w fun o w' => o = .returned (.int .i64 0) ∧ ∃ x : Tow, x.e = e ∧ x.h = H ∧ RO (fun k => Q k ∨ (w.heap.size ≤ k ∧ k < w'.heap.size)) w' r (ins l (place (e.key, e.seq) l) x) ∧ Turns (fun k => k = r) w w' := by
  have h := ho.rt
  have b0 := (Below.refl w.heap.size w).alloc (Nat.le_refl _) (.cells #[.slice ka e.key.length kc, .int .u64 (e.seq : Nat), .int .i64 e.kind, .slice va e.val.length vc] 29)
  have B0 := hide b0
  have n0 := heap_alloc_new w (.cells #[.slice ka e.key.length kc, .int .u64 (e.seq : Nat), .int .i64 e.kind, .slice va e.val.length vc] 29)
  have HC := hide (rcheck_any ⟨0, ka, kc, va, vc, e, 0⟩ (w.alloc (.cells #[.slice ka e.key.length kc, .int .u64 (e.seq : Nat), .int .i64 e.kind, .slice va e.val.length vc] 29)))
  change Hid (Calls Try.prog 43 #[.agg #[.slice ka e.key.length kc, .int .u64 (e.seq : Nat), .int .i64 e.kind, .slice va e.val.length vc]] _ fun r w' => r = .returned (.int .i64 (chk1 e)) ∧ _) at HC
  rw [hc] at HC
  have t0 := Turns.of_below b0 (fun _ => False)
  have HT := hide (h.quiet t0)
  have HK := hide (hk.quiet t0)
  have HKB := hide hkb
  have HV := hide (hv.quiet t0)
  have HO := hide (ho.quiet t0)
  have HAT := hide hat
  have N0 := hide n0
  obtain ⟨hh1, hh2⟩ := hh
  have h1 : ¬ (H : Int) < 1 := by omega
  have h2 : ¬ (12 : Int) < (H : Int) := by omega
  clear b0 hc h ho hv hk hkb hat n0 t0 hh1 hh2
  go_enter Try.func17, Try.ntmps17
  go_wp2_with fail
  refine HC.out.mono ?_
  rintro x w1 ⟨rfl, b1⟩
  have t1 := Turns.of_below b1 (fun _ => False)
  have B1 := hide (B0.out.trans (b1.mono B0.out.size))
  have HT := hide (HT.out.quiet t1)
  have HK := hide (HK.out.quiet t1)
  have HV := hide (HV.out.quiet t1)
  have HO := hide (HO.out.quiet t1)
  have N1 := hide (t1.heap N0.out (fun x => x))
  have c0 := cell_of_row w1 w.heap.size 0 _ 29 (0, 0) N1.out
  have c1 := cell_of_row w1 w.heap.size 1 _ 29 (0, 0) N1.out
  clear b1 t1 B0 HC N0
  go_wp2_with fail
  refine (rplace_any r l w1 HT.out ka e.key.length kc e.seq e.key HK.out hkn HKB.out hl).mono ?_
  rintro x w2 ⟨rfl, b2⟩
  have t2 := Turns.of_below b2 (fun _ => False)
  have B2 := hide (B1.out.trans (b2.mono B1.out.size))
  have HT := hide (HT.out.quiet t2)
  have HK := hide (HK.out.quiet t2)
  have HV := hide (HV.out.quiet t2)
  have HO := hide (HO.out.quiet t2)
  have N2 := hide (t2.heap N1.out (fun x => x))
  clear b2 t2 B1 c0 c1 N1
  have c0 := cell_of_row w2 w.heap.size 0 _ 29 (0, 0) N2.out
  have c1 := cell_of_row w2 w.heap.size 1 _ 29 (0, 0) N2.out
  have hipl := place_le (e.key, e.seq) l
  generalize hPI : place (e.key, e.seq) l = i at *
  have HPI := hide hPI
  clear hPI
  go_wp2_with fail
  refine (ris_any r l w2 HT.out ka e.key.length kc e.seq i e.key HK.out hkn HKB.out).mono ?_
  rintro x w3 ⟨rfl, b3⟩
  have t3 := Turns.of_below b3 (fun _ => False)
  have HK := hide (HK.out.quiet t3)
  have HV := hide (HV.out.quiet t3)
  have HO3 := hide (HO.out.quiet t3)
  have N3 := hide (t3.heap N2.out (fun x => x))
  clear t3
  have B3 := hide (B2.out.trans (b3.mono B2.out.size))
  have T03 := hide (Turns.of_below B3.out (fun _ => False))
  have HSZ3 := hide B3.out.size
  rw [HAT.out]
  clear b3 B2 c0 c1 N2
  generalize hEB : w.heap.size = eb at N3
  have HEB := hide hEB
  clear hEB
  go_upto_region 9 with (fail)
  go_cut [9] from 10 (fun v9 wx => ∃ (g : Nat) (x : Tow), v9 = .pointer (some ⟨g, 0, none⟩) ∧ x.e = e ∧ x.h = H ∧ wx.heap[g]? = some (.cells x.ent 29 (0, 0)) ∧ w3.heap.size ≤ g ∧ Bytes wx x.kv x.e.key ∧ Bytes wx x.vv x.e.val ∧ (∀ q, x.bytesIn q → w3.heap.size ≤ q ∧ q < wx.heap.size) ∧ Turns (fun _ => False) w3 wx)
  case first =>
    rename_i kk rest jj kk' m1 m2
    clear rest
    have SK := hide (fun u (t : Turns (fun _ => False) w3 u) => show u.cell? ⟨eb, 0, none⟩ = some (.slice ka e.key.length kc) ∧ u.cell? ⟨eb, 1, none⟩ = some (.int .u64 (e.seq : Nat)) ∧ u.cell? ⟨eb, 2, none⟩ = some (.int .i64 e.kind) ∧ u.cell? ⟨eb, 3, none⟩ = some (.slice va e.val.length vc) from ⟨cell_of_row u eb 0 _ 29 (0, 0) (t.heap N3.out (fun x => x)), cell_of_row u eb 1 _ 29 (0, 0) (t.heap N3.out (fun x => x)), cell_of_row u eb 2 _ 29 (0, 0) (t.heap N3.out (fun x => x)), cell_of_row u eb 3 _ 29 (0, 0) (t.heap N3.out (fun x => x))⟩)
    have tV : Turns (fun _ => False) w3 w3.drew := (Turns.refl _ _).drew
    refine wp_region_held_drew (S := fun w' => w'.cell? ⟨eb, 0, none⟩ = some (.slice ka e.key.length kc) ∧ w'.cell? ⟨eb, 1, none⟩ = some (.int .u64 (e.seq : Nat)) ∧ w'.cell? ⟨eb, 2, none⟩ = some (.int .i64 e.kind) ∧ w'.cell? ⟨eb, 3, none⟩ = some (.slice va e.val.length vc)) (by kernel_rfl) (SK.out _ tV) (fun _ => ?_)
    change wpAnyH _ _ _ _ _ 15 (Array.replicate 15 false) _ _
    refine wpAnyH_take (i := 1) (oi := { dst := some 35, op := Op.fieldAddr 29 (Operand.tmp 4) 0, type := 0, pos := "ref.go:45", after := #[], guard := none }) (v := .pointer (some ⟨eb, 0, none⟩)) rfl (by kernel_rfl) (by kernel_rfl) (by kernel_rfl) (fun _ _ _ h => h) (Or.inl ⟨by rfl, ?_⟩) (SK.out _ tV) ?_
    · rintro w ⟨d0, d1, d2, d3⟩
      go_simp
    simp only [Act.put, List.setIfInBounds_toArray, List.set_cons_zero, List.set_cons_succ]
    refine wpAnyH_take (i := 2) (oi := { dst := some 36, op := Op.load 26 (Operand.tmp 35), type := 26, pos := "ref.go:45", after := #[{ on := 1, ground := Ground.data }], guard := none }) (v := .slice ka e.key.length kc) rfl (by kernel_rfl) (by kernel_rfl) (by kernel_rfl) (fun _ _ _ h => h) (Or.inl ⟨by rfl, ?_⟩) (SK.out _ tV) ?_
    · rintro w ⟨d0, d1, d2, d3⟩
      go_simp
    simp only [Act.put, List.setIfInBounds_toArray, List.set_cons_zero, List.set_cons_succ]
    refine wpAnyH_take (i := 4) (oi := { dst := some 38, op := Op.fieldAddr 29 (Operand.tmp 4) 1, type := 0, pos := "ref.go:45", after := #[], guard := none }) (v := .pointer (some ⟨eb, 1, none⟩)) rfl (by kernel_rfl) (by kernel_rfl) (by kernel_rfl) (fun _ _ _ h => h) (Or.inl ⟨by rfl, ?_⟩) (SK.out _ tV) ?_
    · rintro w ⟨d0, d1, d2, d3⟩
      go_simp
    simp only [Act.put, List.setIfInBounds_toArray, List.set_cons_zero, List.set_cons_succ]
    refine wpAnyH_take (i := 5) (oi := { dst := some 39, op := Op.load 27 (Operand.tmp 38), type := 27, pos := "ref.go:45", after := #[{ on := 4, ground := Ground.data }], guard := none }) (v := .int .u64 (e.seq : Nat)) rfl (by kernel_rfl) (by kernel_rfl) (by kernel_rfl) (fun _ _ _ h => h) (Or.inl ⟨by rfl, ?_⟩) (SK.out _ tV) ?_
    · rintro w ⟨d0, d1, d2, d3⟩
      go_simp
    simp only [Act.put, List.setIfInBounds_toArray, List.set_cons_zero, List.set_cons_succ]
    refine wpAnyH_take (i := 6) (oi := { dst := some 40, op := Op.fieldAddr 29 (Operand.tmp 4) 2, type := 0, pos := "ref.go:45", after := #[], guard := none }) (v := .pointer (some ⟨eb, 2, none⟩)) rfl (by kernel_rfl) (by kernel_rfl) (by kernel_rfl) (fun _ _ _ h => h) (Or.inl ⟨by rfl, ?_⟩) (SK.out _ tV) ?_
    · rintro w ⟨d0, d1, d2, d3⟩
      go_simp
    simp only [Act.put, List.setIfInBounds_toArray, List.set_cons_zero, List.set_cons_succ]
    refine wpAnyH_take (i := 7) (oi := { dst := some 41, op := Op.load 3 (Operand.tmp 40), type := 3, pos := "ref.go:45", after := #[{ on := 6, ground := Ground.data }], guard := none }) (v := .int .i64 e.kind) rfl (by kernel_rfl) (by kernel_rfl) (by kernel_rfl) (fun _ _ _ h => h) (Or.inl ⟨by rfl, ?_⟩) (SK.out _ tV) ?_
    · rintro w ⟨d0, d1, d2, d3⟩
      go_simp
    simp only [Act.put, List.setIfInBounds_toArray, List.set_cons_zero, List.set_cons_succ]
    refine wpAnyH_take (i := 9) (oi := { dst := some 43, op := Op.fieldAddr 29 (Operand.tmp 4) 3, type := 0, pos := "ref.go:45", after := #[], guard := none }) (v := .pointer (some ⟨eb, 3, none⟩)) rfl (by kernel_rfl) (by kernel_rfl) (by kernel_rfl) (fun _ _ _ h => h) (Or.inl ⟨by rfl, ?_⟩) (SK.out _ tV) ?_
    · rintro w ⟨d0, d1, d2, d3⟩
      go_simp
    simp only [Act.put, List.setIfInBounds_toArray, List.set_cons_zero, List.set_cons_succ]
    refine wpAnyH_take (i := 10) (oi := { dst := some 44, op := Op.load 26 (Operand.tmp 43), type := 26, pos := "ref.go:45", after := #[{ on := 9, ground := Ground.data }], guard := none }) (v := .slice va e.val.length vc) rfl (by kernel_rfl) (by kernel_rfl) (by kernel_rfl) (fun _ _ _ h => h) (Or.inl ⟨by rfl, ?_⟩) (SK.out _ tV) ?_
    · rintro w ⟨d0, d1, d2, d3⟩
      go_simp
    simp only [Act.put, List.setIfInBounds_toArray, List.set_cons_zero, List.set_cons_succ]
    generalize w3.drew = V0 at *
    refine wpAnyH_ready (rs := [0, 8, 13]) (by kernel_rfl) (by simp) ?_
    refine AllReadyH.cons rfl (fun K hK => ?_) (AllReadyH.cons rfl (fun K hK => ?_) (AllReadyH.cons rfl (fun K hK => ?_) AllReadyH.nil))
    · skip
      go_simp
      have tN := (Turns.refl (fun _ => False) V0).alloc (.cells #[] 5)
      have sE1 : V0.heap.size < (V0.alloc (.cells #[] 5)).heap.size := by simp
      have fE1 := heap_alloc_new V0 (.cells #[] 5)
      have bE1 : w3.heap.size ≤ V0.heap.size := tV.size
      have tV := tV.trans tN
      refine hK.out _ _ (SK.out _ tV) (fun _ => ?_)
      clear hK K tN
      generalize V0.alloc (.cells #[] 5) = V1 at *
      generalize V0.heap.size = eE1 at *
      refine wpAnyH_ready (rs := [3, 8, 13]) (by kernel_rfl) (by simp) ?_
      refine AllReadyH.cons rfl (fun K hK => ?_) (AllReadyH.cons rfl (fun K hK => ?_) (AllReadyH.cons rfl (fun K hK => ?_) AllReadyH.nil))
      · skip
        obtain ⟨g1, k1, V2, hr, hrow, hcap1, tA, hgg1, hgl1⟩ := ap_own V1 eE1 ka e.key.length kc e.key fE1 (HK.out.quiet tV) hkn
        refine step_append_run rfl (.tmp 34) (.tmp 36) 26 rfl _ _ rfl rfl _ _ (hr _) 37 rfl ?_
        simp only [Act.put, List.setIfInBounds_toArray, List.set_cons_zero, List.set_cons_succ]
        have bV1 := tV.size
        have sV1 := tA.size
        have fR1 : RowB V2 g1 k1 e.key := hrow
        have tV := tV.andThen tA (fun k hk x => by subst x; omega)
        refine hK.out _ _ (SK.out _ tV) (fun _ => ?_)
        clear hK K tA hr hrow fE1
        generalize hz2 : V1.heap.size = z2 at *
        clear hz2
        refine wpAnyH_ready (rs := [8, 13]) (by kernel_rfl) (by simp) ?_
        refine AllReadyH.cons rfl (fun K hK => ?_) (AllReadyH.cons rfl (fun K hK => ?_) AllReadyH.nil)
        · skip
          go_simp
          have tN := (Turns.refl (fun _ => False) V2).alloc (.cells #[] 5)
          have sE2 : V2.heap.size < (V2.alloc (.cells #[] 5)).heap.size := by simp
          have fR1 := RowC.turns fR1 tN (fun x => x)
          have fE2 := heap_alloc_new V2 (.cells #[] 5)
          have bE2 : w3.heap.size ≤ V2.heap.size := tV.size
          have tV := tV.trans tN
          refine hK.out _ _ (SK.out _ tV) (fun _ => ?_)
          clear hK K tN
          generalize V2.alloc (.cells #[] 5) = V3 at *
          generalize V2.heap.size = eE2 at *
          refine wpAnyH_ready (rs := [11, 13]) (by kernel_rfl) (by simp) ?_
          refine AllReadyH.cons rfl (fun K hK => ?_) (AllReadyH.cons rfl (fun K hK => ?_) AllReadyH.nil)
          · skip
            obtain ⟨g2, k2, V4, hr, hrow, hcap2, tA, hgg2, hgl2⟩ := ap_own V3 eE2 va e.val.length vc e.val fE2 (HV.out.quiet tV) hvn
            refine step_append_run rfl (.tmp 42) (.tmp 44) 26 rfl _ _ rfl rfl _ _ (hr _) 45 rfl ?_
            simp only [Act.put, List.setIfInBounds_toArray, List.set_cons_zero, List.set_cons_succ]
            have bV2 := tV.size
            have sV2 := tA.size
            have fR1 := RowC.turns fR1 tA (by show ¬ g1 = eE2; omega)
            have fR2 : RowB V4 g2 k2 e.val := hrow
            have tV := tV.andThen tA (fun k hk x => by subst x; omega)
            refine hK.out _ _ (SK.out _ tV) (fun _ => ?_)
            clear hK K tA hr hrow fE2
            generalize hz4 : V3.heap.size = z4 at *
            clear hz4
            refine wpAnyH_take (i := 12) (oi := { dst := some 46, op := Op.build 29 #[(0, Operand.tmp 37), (1, Operand.tmp 39), (2, Operand.tmp 41), (3, Operand.tmp 45)], type := 29, pos := "ref.go:45", after := #[{ on := 3, ground := Ground.data }, { on := 5, ground := Ground.data }, { on := 7, ground := Ground.data }, { on := 11, ground := Ground.data }], guard := none }) (v := .agg #[.slice (some ⟨g1, 0, none⟩) e.key.length k1, .int .u64 (e.seq : Nat), .int .i64 e.kind, .slice (some ⟨g2, 0, none⟩) e.val.length k2]) rfl (by kernel_rfl) (by kernel_rfl) (by kernel_rfl) (fun _ _ _ h => h) (Or.inl ⟨by rfl, ?_⟩) (SK.out _ tV) ?_
            · rintro w ⟨d0, d1, d2, d3⟩
              go_simp
            simp only [Act.put, List.setIfInBounds_toArray, List.set_cons_zero, List.set_cons_succ]
            refine wpAnyH_ready (rs := [13]) (by kernel_rfl) (by simp) ?_
            refine AllReadyH.cons rfl (fun K hK => ?_) AllReadyH.nil
            go_simp
            have tN := (Turns.refl (fun _ => False) V4).alloc (.cells #[.slice none 0 0, .int .u64 0, .int .i64 0, .slice none 0 0] 29)
            have sX : V4.heap.size < (V4.alloc (.cells #[.slice none 0 0, .int .u64 0, .int .i64 0, .slice none 0 0] 29)).heap.size := by simp
            have fR1 := RowC.turns fR1 tN (fun x => x)
            have fR2 := RowC.turns fR2 tN (fun x => x)
            have fX := heap_alloc_new V4 (.cells #[.slice none 0 0, .int .u64 0, .int .i64 0, .slice none 0 0] 29)
            have bX : w3.heap.size ≤ V4.heap.size := tV.size
            have tV := tV.trans tN
            refine hK.out _ _ (SK.out _ tV) (fun _ => ?_)
            clear hK K tN
            generalize V4.alloc (.cells #[.slice none 0 0, .int .u64 0, .int .i64 0, .slice none 0 0] 29) = V5 at *
            generalize V4.heap.size = eX at *
            refine wpAnyH_ready (rs := [14]) (by kernel_rfl) (by simp) ?_
            refine AllReadyH.cons rfl (fun K hK => ?_) AllReadyH.nil
            refine wp_store_row 29 (.tmp 9) (.tmp 46) rfl _ _ rfl rfl 29 _ fX info29 rfl (by simp [Value.oneCell']) ?_
            simp only [Act.put, List.setIfInBounds_toArray]
            have tW := tV.over (cs := #[.slice (some ⟨g1, 0, none⟩) e.key.length k1, .int .u64 (e.seq : Nat), .int .i64 e.kind, .slice (some ⟨g2, 0, none⟩) e.val.length k2]) (g := eX) (by omega)
            have tS : Turns (fun j => j = eX) V5 (V5.setRow eX #[.slice (some ⟨g1, 0, none⟩) e.key.length k1, .int .u64 (e.seq : Nat), .int .i64 e.kind, .slice (some ⟨g2, 0, none⟩) e.val.length k2]) := ⟨rfl, rfl, rfl, by simp, fun k _ hk => setRow_other _ _ _ _ hk⟩
            have G1 := hide ((RowB.bytes (c' := k1) fR1 rfl).turns tS (fun a n c e => by cases e; show ¬ g1 = eX; omega))
            have G2 := hide ((RowB.bytes (c' := k2) fR2 rfl).turns tS (fun a n c e => by cases e; show ¬ g2 = eX; omega))
            have FX := hide (setRow_heap _ _ _ #[.slice (some ⟨g1, 0, none⟩) e.key.length k1, .int .u64 (e.seq : Nat), .int .i64 e.kind, .slice (some ⟨g2, 0, none⟩) e.val.length k2] _ _ fX)
            have TW := hide tW
            have hz1 : g1 < (V5.setRow eX #[.slice (some ⟨g1, 0, none⟩) e.key.length k1, .int .u64 (e.seq : Nat), .int .i64 e.kind, .slice (some ⟨g2, 0, none⟩) e.val.length k2]).heap.size := by simpa using lt_of_heap fR1.choose_spec.1
            have hz2 : g2 < (V5.setRow eX #[.slice (some ⟨g1, 0, none⟩) e.key.length k1, .int .u64 (e.seq : Nat), .int .i64 e.kind, .slice (some ⟨g2, 0, none⟩) e.val.length k2]).heap.size := by simpa using lt_of_heap fR2.choose_spec.1
            have HB := hide (show w3.heap.size ≤ eX ∧ (w3.heap.size ≤ g1 ∧ g1 < (V5.setRow eX #[.slice (some ⟨g1, 0, none⟩) e.key.length k1, .int .u64 (e.seq : Nat), .int .i64 e.kind, .slice (some ⟨g2, 0, none⟩) e.val.length k2]).heap.size) ∧ (w3.heap.size ≤ g2 ∧ g2 < (V5.setRow eX #[.slice (some ⟨g1, 0, none⟩) e.key.length k1, .int .u64 (e.seq : Nat), .int .i64 e.kind, .slice (some ⟨g2, 0, none⟩) e.val.length k2]).heap.size) from ⟨by omega, ⟨by omega, hz1⟩, by omega, hz2⟩)
            refine hK.out _ _ (SK.out _ tW) (fun _ => ?_)
            clear hK K tW tS hz1 hz2 fR1 fR2 fX tV
            refine wpAnyH_done (by kernel_rfl) ?_ _
            go_wp2_with fail
            go_meet
            exact meet9 FX.out G1.out G2.out HB.out TW.out
          · skip
            go_simp
            have tN := (Turns.refl (fun _ => False) V3).alloc (.cells #[.slice none 0 0, .int .u64 0, .int .i64 0, .slice none 0 0] 29)
            have sX : V3.heap.size < (V3.alloc (.cells #[.slice none 0 0, .int .u64 0, .int .i64 0, .slice none 0 0] 29)).heap.size := by simp
            have fR1 := RowC.turns fR1 tN (fun x => x)
            have fE2 := tN.heap fE2 (fun x => x)
            have fX := heap_alloc_new V3 (.cells #[.slice none 0 0, .int .u64 0, .int .i64 0, .slice none 0 0] 29)
            have bX : w3.heap.size ≤ V3.heap.size := tV.size
            have tV := tV.trans tN
            refine hK.out _ _ (SK.out _ tV) (fun _ => ?_)
            clear hK K tN
            generalize V3.alloc (.cells #[.slice none 0 0, .int .u64 0, .int .i64 0, .slice none 0 0] 29) = V6 at *
            generalize V3.heap.size = eX at *
            refine wpAnyH_ready (rs := [11]) (by kernel_rfl) (by simp) ?_
            refine AllReadyH.cons rfl (fun K hK => ?_) AllReadyH.nil
            obtain ⟨g2, k2, V7, hr, hrow, hcap2, tA, hgg2, hgl2⟩ := ap_own V6 eE2 va e.val.length vc e.val fE2 (HV.out.quiet tV) hvn
            refine step_append_run rfl (.tmp 42) (.tmp 44) 26 rfl _ _ rfl rfl _ _ (hr _) 45 rfl ?_
            simp only [Act.put, List.setIfInBounds_toArray, List.set_cons_zero, List.set_cons_succ]
            have bV2 := tV.size
            have sV2 := tA.size
            have fR1 := RowC.turns fR1 tA (by show ¬ g1 = eE2; omega)
            have fX := tA.heap fX (by show ¬ eX = eE2; omega)
            have fR2 : RowB V7 g2 k2 e.val := hrow
            have tV := tV.andThen tA (fun k hk x => by subst x; omega)
            refine hK.out _ _ (SK.out _ tV) (fun _ => ?_)
            clear hK K tA hr hrow fE2
            generalize hz7 : V6.heap.size = z7 at *
            clear hz7
            refine wpAnyH_take (i := 12) (oi := { dst := some 46, op := Op.build 29 #[(0, Operand.tmp 37), (1, Operand.tmp 39), (2, Operand.tmp 41), (3, Operand.tmp 45)], type := 29, pos := "ref.go:45", after := #[{ on := 3, ground := Ground.data }, { on := 5, ground := Ground.data }, { on := 7, ground := Ground.data }, { on := 11, ground := Ground.data }], guard := none }) (v := .agg #[.slice (some ⟨g1, 0, none⟩) e.key.length k1, .int .u64 (e.seq : Nat), .int .i64 e.kind, .slice (some ⟨g2, 0, none⟩) e.val.length k2]) rfl (by kernel_rfl) (by kernel_rfl) (by kernel_rfl) (fun _ _ _ h => h) (Or.inl ⟨by rfl, ?_⟩) (SK.out _ tV) ?_
            · rintro w ⟨d0, d1, d2, d3⟩
              go_simp
            simp only [Act.put, List.setIfInBounds_toArray, List.set_cons_zero, List.set_cons_succ]
            refine wpAnyH_ready (rs := [14]) (by kernel_rfl) (by simp) ?_
            refine AllReadyH.cons rfl (fun K hK => ?_) AllReadyH.nil
            refine wp_store_row 29 (.tmp 9) (.tmp 46) rfl _ _ rfl rfl 29 _ fX info29 rfl (by simp [Value.oneCell']) ?_
            simp only [Act.put, List.setIfInBounds_toArray]
            have tW := tV.over (cs := #[.slice (some ⟨g1, 0, none⟩) e.key.length k1, .int .u64 (e.seq : Nat), .int .i64 e.kind, .slice (some ⟨g2, 0, none⟩) e.val.length k2]) (g := eX) (by omega)
            have tS : Turns (fun j => j = eX) V7 (V7.setRow eX #[.slice (some ⟨g1, 0, none⟩) e.key.length k1, .int .u64 (e.seq : Nat), .int .i64 e.kind, .slice (some ⟨g2, 0, none⟩) e.val.length k2]) := ⟨rfl, rfl, rfl, by simp, fun k _ hk => setRow_other _ _ _ _ hk⟩
            have G1 := hide ((RowB.bytes (c' := k1) fR1 rfl).turns tS (fun a n c e => by cases e; show ¬ g1 = eX; omega))
            have G2 := hide ((RowB.bytes (c' := k2) fR2 rfl).turns tS (fun a n c e => by cases e; show ¬ g2 = eX; omega))
            have FX := hide (setRow_heap _ _ _ #[.slice (some ⟨g1, 0, none⟩) e.key.length k1, .int .u64 (e.seq : Nat), .int .i64 e.kind, .slice (some ⟨g2, 0, none⟩) e.val.length k2] _ _ fX)
            have TW := hide tW
            have hz1 : g1 < (V7.setRow eX #[.slice (some ⟨g1, 0, none⟩) e.key.length k1, .int .u64 (e.seq : Nat), .int .i64 e.kind, .slice (some ⟨g2, 0, none⟩) e.val.length k2]).heap.size := by simpa using lt_of_heap fR1.choose_spec.1
            have hz2 : g2 < (V7.setRow eX #[.slice (some ⟨g1, 0, none⟩) e.key.length k1, .int .u64 (e.seq : Nat), .int .i64 e.kind, .slice (some ⟨g2, 0, none⟩) e.val.length k2]).heap.size := by simpa using lt_of_heap fR2.choose_spec.1
            have HB := hide (show w3.heap.size ≤ eX ∧ (w3.heap.size ≤ g1 ∧ g1 < (V7.setRow eX #[.slice (some ⟨g1, 0, none⟩) e.key.length k1, .int .u64 (e.seq : Nat), .int .i64 e.kind, .slice (some ⟨g2, 0, none⟩) e.val.length k2]).heap.size) ∧ (w3.heap.size ≤ g2 ∧ g2 < (V7.setRow eX #[.slice (some ⟨g1, 0, none⟩) e.key.length k1, .int .u64 (e.seq : Nat), .int .i64 e.kind, .slice (some ⟨g2, 0, none⟩) e.val.length k2]).heap.size) from ⟨by omega, ⟨by omega, hz1⟩, by omega, hz2⟩)
            refine hK.out _ _ (SK.out _ tW) (fun _ => ?_)
            clear hK K tW tS hz1 hz2 fR1 fR2 fX tV
            refine wpAnyH_done (by kernel_rfl) ?_ _
            go_wp2_with fail
            go_meet
            exact meet9 FX.out G1.out G2.out HB.out TW.out
        · skip
          go_simp
          have tN := (Turns.refl (fun _ => False) V2).alloc (.cells #[.slice none 0 0, .int .u64 0, .int .i64 0, .slice none 0 0] 29)
          have sX : V2.heap.size < (V2.alloc (.cells #[.slice none 0 0, .int .u64 0, .int .i64 0, .slice none 0 0] 29)).heap.size := by simp
          have fR1 := RowC.turns fR1 tN (fun x => x)
          have fX := heap_alloc_new V2 (.cells #[.slice none 0 0, .int .u64 0, .int .i64 0, .slice none 0 0] 29)
          have bX : w3.heap.size ≤ V2.heap.size := tV.size
          have tV := tV.trans tN
          refine hK.out _ _ (SK.out _ tV) (fun _ => ?_)
          clear hK K tN
          generalize V2.alloc (.cells #[.slice none 0 0, .int .u64 0, .int .i64 0, .slice none 0 0] 29) = V8 at *
          generalize V2.heap.size = eX at *
          refine wpAnyH_ready (rs := [8]) (by kernel_rfl) (by simp) ?_
          refine AllReadyH.cons rfl (fun K hK => ?_) AllReadyH.nil
          go_simp
          have tN := (Turns.refl (fun _ => False) V8).alloc (.cells #[] 5)
          have sE2 : V8.heap.size < (V8.alloc (.cells #[] 5)).heap.size := by simp
          have fR1 := RowC.turns fR1 tN (fun x => x)
          have fX := tN.heap fX (fun x => x)
          have fE2 := heap_alloc_new V8 (.cells #[] 5)
          have bE2 : w3.heap.size ≤ V8.heap.size := tV.size
          have tV := tV.trans tN
          refine hK.out _ _ (SK.out _ tV) (fun _ => ?_)
          clear hK K tN
          generalize V8.alloc (.cells #[] 5) = V9 at *
          generalize V8.heap.size = eE2 at *
          refine wpAnyH_ready (rs := [11]) (by kernel_rfl) (by simp) ?_
          refine AllReadyH.cons rfl (fun K hK => ?_) AllReadyH.nil
          obtain ⟨g2, k2, V10, hr, hrow, hcap2, tA, hgg2, hgl2⟩ := ap_own V9 eE2 va e.val.length vc e.val fE2 (HV.out.quiet tV) hvn
          refine step_append_run rfl (.tmp 42) (.tmp 44) 26 rfl _ _ rfl rfl _ _ (hr _) 45 rfl ?_
          simp only [Act.put, List.setIfInBounds_toArray, List.set_cons_zero, List.set_cons_succ]
          have bV2 := tV.size
          have sV2 := tA.size
          have fR1 := RowC.turns fR1 tA (by show ¬ g1 = eE2; omega)
          have fX := tA.heap fX (by show ¬ eX = eE2; omega)
          have fR2 : RowB V10 g2 k2 e.val := hrow
          have tV := tV.andThen tA (fun k hk x => by subst x; omega)
          refine hK.out _ _ (SK.out _ tV) (fun _ => ?_)
          clear hK K tA hr hrow fE2
          generalize hz10 : V9.heap.size = z10 at *
          clear hz10
          refine wpAnyH_take (i := 12) (oi := { dst := some 46, op := Op.build 29 #[(0, Operand.tmp 37), (1, Operand.tmp 39), (2, Operand.tmp 41), (3, Operand.tmp 45)], type := 29, pos := "ref.go:45", after := #[{ on := 3, ground := Ground.data }, { on := 5, ground := Ground.data }, { on := 7, ground := Ground.data }, { on := 11, ground := Ground.data }], guard := none }) (v := .agg #[.slice (some ⟨g1, 0, none⟩) e.key.length k1, .int .u64 (e.seq : Nat), .int .i64 e.kind, .slice (some ⟨g2, 0, none⟩) e.val.length k2]) rfl (by kernel_rfl) (by kernel_rfl) (by kernel_rfl) (fun _ _ _ h => h) (Or.inl ⟨by rfl, ?_⟩) (SK.out _ tV) ?_
          · rintro w ⟨d0, d1, d2, d3⟩
            go_simp
          simp only [Act.put, List.setIfInBounds_toArray, List.set_cons_zero, List.set_cons_succ]
          refine wpAnyH_ready (rs := [14]) (by kernel_rfl) (by simp) ?_
          refine AllReadyH.cons rfl (fun K hK => ?_) AllReadyH.nil
          refine wp_store_row 29 (.tmp 9) (.tmp 46) rfl _ _ rfl rfl 29 _ fX info29 rfl (by simp [Value.oneCell']) ?_
          simp only [Act.put, List.setIfInBounds_toArray]
          have tW := tV.over (cs := #[.slice (some ⟨g1, 0, none⟩) e.key.length k1, .int .u64 (e.seq : Nat), .int .i64 e.kind, .slice (some ⟨g2, 0, none⟩) e.val.length k2]) (g := eX) (by omega)
          have tS : Turns (fun j => j = eX) V10 (V10.setRow eX #[.slice (some ⟨g1, 0, none⟩) e.key.length k1, .int .u64 (e.seq : Nat), .int .i64 e.kind, .slice (some ⟨g2, 0, none⟩) e.val.length k2]) := ⟨rfl, rfl, rfl, by simp, fun k _ hk => setRow_other _ _ _ _ hk⟩
          have G1 := hide ((RowB.bytes (c' := k1) fR1 rfl).turns tS (fun a n c e => by cases e; show ¬ g1 = eX; omega))
          have G2 := hide ((RowB.bytes (c' := k2) fR2 rfl).turns tS (fun a n c e => by cases e; show ¬ g2 = eX; omega))
          have FX := hide (setRow_heap _ _ _ #[.slice (some ⟨g1, 0, none⟩) e.key.length k1, .int .u64 (e.seq : Nat), .int .i64 e.kind, .slice (some ⟨g2, 0, none⟩) e.val.length k2] _ _ fX)
          have TW := hide tW
          have hz1 : g1 < (V10.setRow eX #[.slice (some ⟨g1, 0, none⟩) e.key.length k1, .int .u64 (e.seq : Nat), .int .i64 e.kind, .slice (some ⟨g2, 0, none⟩) e.val.length k2]).heap.size := by simpa using lt_of_heap fR1.choose_spec.1
          have hz2 : g2 < (V10.setRow eX #[.slice (some ⟨g1, 0, none⟩) e.key.length k1, .int .u64 (e.seq : Nat), .int .i64 e.kind, .slice (some ⟨g2, 0, none⟩) e.val.length k2]).heap.size := by simpa using lt_of_heap fR2.choose_spec.1
          have HB := hide (show w3.heap.size ≤ eX ∧ (w3.heap.size ≤ g1 ∧ g1 < (V10.setRow eX #[.slice (some ⟨g1, 0, none⟩) e.key.length k1, .int .u64 (e.seq : Nat), .int .i64 e.kind, .slice (some ⟨g2, 0, none⟩) e.val.length k2]).heap.size) ∧ (w3.heap.size ≤ g2 ∧ g2 < (V10.setRow eX #[.slice (some ⟨g1, 0, none⟩) e.key.length k1, .int .u64 (e.seq : Nat), .int .i64 e.kind, .slice (some ⟨g2, 0, none⟩) e.val.length k2]).heap.size) from ⟨by omega, ⟨by omega, hz1⟩, by omega, hz2⟩)
          refine hK.out _ _ (SK.out _ tW) (fun _ => ?_)
          clear hK K tW tS hz1 hz2 fR1 fR2 fX tV
          refine wpAnyH_done (by kernel_rfl) ?_ _
          go_wp2_with fail
          go_meet
          exact meet9 FX.out G1.out G2.out HB.out TW.out
      · skip
        go_simp
        have tN := (Turns.refl (fun _ => False) V1).alloc (.cells #[] 5)
        have sE2 : V1.heap.size < (V1.alloc (.cells #[] 5)).heap.size := by simp
        have fE1 := tN.heap fE1 (fun x => x)
        have fE2 := heap_alloc_new V1 (.cells #[] 5)
        have bE2 : w3.heap.size ≤ V1.heap.size := tV.size
        have tV := tV.trans tN
        refine hK.out _ _ (SK.out _ tV) (fun _ => ?_)
        clear hK K tN
        generalize V1.alloc (.cells #[] 5) = V11 at *
        generalize V1.heap.size = eE2 at *
        refine wpAnyH_ready (rs := [3, 13]) (by kernel_rfl) (by simp) ?_
        refine AllReadyH.cons rfl (fun K hK => ?_) (AllReadyH.cons rfl (fun K hK => ?_) AllReadyH.nil)
        · skip
          obtain ⟨g1, k1, V12, hr, hrow, hcap1, tA, hgg1, hgl1⟩ := ap_own V11 eE1 ka e.key.length kc e.key fE1 (HK.out.quiet tV) hkn
          refine step_append_run rfl (.tmp 34) (.tmp 36) 26 rfl _ _ rfl rfl _ _ (hr _) 37 rfl ?_
          simp only [Act.put, List.setIfInBounds_toArray, List.set_cons_zero, List.set_cons_succ]
          have bV1 := tV.size
          have sV1 := tA.size
          have fE2 := tA.heap fE2 (by show ¬ eE2 = eE1; omega)
          have fR1 : RowB V12 g1 k1 e.key := hrow
          have tV := tV.andThen tA (fun k hk x => by subst x; omega)
          refine hK.out _ _ (SK.out _ tV) (fun _ => ?_)
          clear hK K tA hr hrow fE1
          generalize hz12 : V11.heap.size = z12 at *
          clear hz12
          refine wpAnyH_ready (rs := [11, 13]) (by kernel_rfl) (by simp) ?_
          refine AllReadyH.cons rfl (fun K hK => ?_) (AllReadyH.cons rfl (fun K hK => ?_) AllReadyH.nil)
          · skip
            obtain ⟨g2, k2, V13, hr, hrow, hcap2, tA, hgg2, hgl2⟩ := ap_own V12 eE2 va e.val.length vc e.val fE2 (HV.out.quiet tV) hvn
            refine step_append_run rfl (.tmp 42) (.tmp 44) 26 rfl _ _ rfl rfl _ _ (hr _) 45 rfl ?_
            simp only [Act.put, List.setIfInBounds_toArray, List.set_cons_zero, List.set_cons_succ]
            have bV2 := tV.size
            have sV2 := tA.size
            have fR1 := RowC.turns fR1 tA (by show ¬ g1 = eE2; omega)
            have fR2 : RowB V13 g2 k2 e.val := hrow
            have tV := tV.andThen tA (fun k hk x => by subst x; omega)
            refine hK.out _ _ (SK.out _ tV) (fun _ => ?_)
            clear hK K tA hr hrow fE2
            generalize hz13 : V12.heap.size = z13 at *
            clear hz13
            refine wpAnyH_take (i := 12) (oi := { dst := some 46, op := Op.build 29 #[(0, Operand.tmp 37), (1, Operand.tmp 39), (2, Operand.tmp 41), (3, Operand.tmp 45)], type := 29, pos := "ref.go:45", after := #[{ on := 3, ground := Ground.data }, { on := 5, ground := Ground.data }, { on := 7, ground := Ground.data }, { on := 11, ground := Ground.data }], guard := none }) (v := .agg #[.slice (some ⟨g1, 0, none⟩) e.key.length k1, .int .u64 (e.seq : Nat), .int .i64 e.kind, .slice (some ⟨g2, 0, none⟩) e.val.length k2]) rfl (by kernel_rfl) (by kernel_rfl) (by kernel_rfl) (fun _ _ _ h => h) (Or.inl ⟨by rfl, ?_⟩) (SK.out _ tV) ?_
            · rintro w ⟨d0, d1, d2, d3⟩
              go_simp
            simp only [Act.put, List.setIfInBounds_toArray, List.set_cons_zero, List.set_cons_succ]
            refine wpAnyH_ready (rs := [13]) (by kernel_rfl) (by simp) ?_
            refine AllReadyH.cons rfl (fun K hK => ?_) AllReadyH.nil
            go_simp
            have tN := (Turns.refl (fun _ => False) V13).alloc (.cells #[.slice none 0 0, .int .u64 0, .int .i64 0, .slice none 0 0] 29)
            have sX : V13.heap.size < (V13.alloc (.cells #[.slice none 0 0, .int .u64 0, .int .i64 0, .slice none 0 0] 29)).heap.size := by simp
            have fR1 := RowC.turns fR1 tN (fun x => x)
            have fR2 := RowC.turns fR2 tN (fun x => x)
            have fX := heap_alloc_new V13 (.cells #[.slice none 0 0, .int .u64 0, .int .i64 0, .slice none 0 0] 29)
            have bX : w3.heap.size ≤ V13.heap.size := tV.size
            have tV := tV.trans tN
            refine hK.out _ _ (SK.out _ tV) (fun _ => ?_)
            clear hK K tN
            generalize V13.alloc (.cells #[.slice none 0 0, .int .u64 0, .int .i64 0, .slice none 0 0] 29) = V14 at *
            generalize V13.heap.size = eX at *
            refine wpAnyH_ready (rs := [14]) (by kernel_rfl) (by simp) ?_
            refine AllReadyH.cons rfl (fun K hK => ?_) AllReadyH.nil
            refine wp_store_row 29 (.tmp 9) (.tmp 46) rfl _ _ rfl rfl 29 _ fX info29 rfl (by simp [Value.oneCell']) ?_
            simp only [Act.put, List.setIfInBounds_toArray]
            have tW := tV.over (cs := #[.slice (some ⟨g1, 0, none⟩) e.key.length k1, .int .u64 (e.seq : Nat), .int .i64 e.kind, .slice (some ⟨g2, 0, none⟩) e.val.length k2]) (g := eX) (by omega)
            have tS : Turns (fun j => j = eX) V14 (V14.setRow eX #[.slice (some ⟨g1, 0, none⟩) e.key.length k1, .int .u64 (e.seq : Nat), .int .i64 e.kind, .slice (some ⟨g2, 0, none⟩) e.val.length k2]) := ⟨rfl, rfl, rfl, by simp, fun k _ hk => setRow_other _ _ _ _ hk⟩
            have G1 := hide ((RowB.bytes (c' := k1) fR1 rfl).turns tS (fun a n c e => by cases e; show ¬ g1 = eX; omega))
            have G2 := hide ((RowB.bytes (c' := k2) fR2 rfl).turns tS (fun a n c e => by cases e; show ¬ g2 = eX; omega))
            have FX := hide (setRow_heap _ _ _ #[.slice (some ⟨g1, 0, none⟩) e.key.length k1, .int .u64 (e.seq : Nat), .int .i64 e.kind, .slice (some ⟨g2, 0, none⟩) e.val.length k2] _ _ fX)
            have TW := hide tW
            have hz1 : g1 < (V14.setRow eX #[.slice (some ⟨g1, 0, none⟩) e.key.length k1, .int .u64 (e.seq : Nat), .int .i64 e.kind, .slice (some ⟨g2, 0, none⟩) e.val.length k2]).heap.size := by simpa using lt_of_heap fR1.choose_spec.1
            have hz2 : g2 < (V14.setRow eX #[.slice (some ⟨g1, 0, none⟩) e.key.length k1, .int .u64 (e.seq : Nat), .int .i64 e.kind, .slice (some ⟨g2, 0, none⟩) e.val.length k2]).heap.size := by simpa using lt_of_heap fR2.choose_spec.1
            have HB := hide (show w3.heap.size ≤ eX ∧ (w3.heap.size ≤ g1 ∧ g1 < (V14.setRow eX #[.slice (some ⟨g1, 0, none⟩) e.key.length k1, .int .u64 (e.seq : Nat), .int .i64 e.kind, .slice (some ⟨g2, 0, none⟩) e.val.length k2]).heap.size) ∧ (w3.heap.size ≤ g2 ∧ g2 < (V14.setRow eX #[.slice (some ⟨g1, 0, none⟩) e.key.length k1, .int .u64 (e.seq : Nat), .int .i64 e.kind, .slice (some ⟨g2, 0, none⟩) e.val.length k2]).heap.size) from ⟨by omega, ⟨by omega, hz1⟩, by omega, hz2⟩)
            refine hK.out _ _ (SK.out _ tW) (fun _ => ?_)
            clear hK K tW tS hz1 hz2 fR1 fR2 fX tV
            refine wpAnyH_done (by kernel_rfl) ?_ _
            go_wp2_with fail
            go_meet
            exact meet9 FX.out G1.out G2.out HB.out TW.out
          · skip
            go_simp
            have tN := (Turns.refl (fun _ => False) V12).alloc (.cells #[.slice none 0 0, .int .u64 0, .int .i64 0, .slice none 0 0] 29)
            have sX : V12.heap.size < (V12.alloc (.cells #[.slice none 0 0, .int .u64 0, .int .i64 0, .slice none 0 0] 29)).heap.size := by simp
            have fE2 := tN.heap fE2 (fun x => x)
            have fR1 := RowC.turns fR1 tN (fun x => x)
            have fX := heap_alloc_new V12 (.cells #[.slice none 0 0, .int .u64 0, .int .i64 0, .slice none 0 0] 29)
            have bX : w3.heap.size ≤ V12.heap.size := tV.size
            have tV := tV.trans tN
            refine hK.out _ _ (SK.out _ tV) (fun _ => ?_)
            clear hK K tN
            generalize V12.alloc (.cells #[.slice none 0 0, .int .u64 0, .int .i64 0, .slice none 0 0] 29) = V15 at *
            generalize V12.heap.size = eX at *
            refine wpAnyH_ready (rs := [11]) (by kernel_rfl) (by simp) ?_
            refine AllReadyH.cons rfl (fun K hK => ?_) AllReadyH.nil
            obtain ⟨g2, k2, V16, hr, hrow, hcap2, tA, hgg2, hgl2⟩ := ap_own V15 eE2 va e.val.length vc e.val fE2 (HV.out.quiet tV) hvn
            refine step_append_run rfl (.tmp 42) (.tmp 44) 26 rfl _ _ rfl rfl _ _ (hr _) 45 rfl ?_
            simp only [Act.put, List.setIfInBounds_toArray, List.set_cons_zero, List.set_cons_succ]
            have bV2 := tV.size
            have sV2 := tA.size
            have fR1 := RowC.turns fR1 tA (by show ¬ g1 = eE2; omega)
            have fX := tA.heap fX (by show ¬ eX = eE2; omega)
            have fR2 : RowB V16 g2 k2 e.val := hrow
            have tV := tV.andThen tA (fun k hk x => by subst x; omega)
            refine hK.out _ _ (SK.out _ tV) (fun _ => ?_)
            clear hK K tA hr hrow fE2
            generalize hz16 : V15.heap.size = z16 at *
            clear hz16
            refine wpAnyH_take (i := 12) (oi := { dst := some 46, op := Op.build 29 #[(0, Operand.tmp 37), (1, Operand.tmp 39), (2, Operand.tmp 41), (3, Operand.tmp 45)], type := 29, pos := "ref.go:45", after := #[{ on := 3, ground := Ground.data }, { on := 5, ground := Ground.data }, { on := 7, ground := Ground.data }, { on := 11, ground := Ground.data }], guard := none }) (v := .agg #[.slice (some ⟨g1, 0, none⟩) e.key.length k1, .int .u64 (e.seq : Nat), .int .i64 e.kind, .slice (some ⟨g2, 0, none⟩) e.val.length k2]) rfl (by kernel_rfl) (by kernel_rfl) (by kernel_rfl) (fun _ _ _ h => h) (Or.inl ⟨by rfl, ?_⟩) (SK.out _ tV) ?_
            · rintro w ⟨d0, d1, d2, d3⟩
              go_simp
            simp only [Act.put, List.setIfInBounds_toArray, List.set_cons_zero, List.set_cons_succ]
            refine wpAnyH_ready (rs := [14]) (by kernel_rfl) (by simp) ?_
            refine AllReadyH.cons rfl (fun K hK => ?_) AllReadyH.nil
            refine wp_store_row 29 (.tmp 9) (.tmp 46) rfl _ _ rfl rfl 29 _ fX info29 rfl (by simp [Value.oneCell']) ?_
            simp only [Act.put, List.setIfInBounds_toArray]
            have tW := tV.over (cs := #[.slice (some ⟨g1, 0, none⟩) e.key.length k1, .int .u64 (e.seq : Nat), .int .i64 e.kind, .slice (some ⟨g2, 0, none⟩) e.val.length k2]) (g := eX) (by omega)
            have tS : Turns (fun j => j = eX) V16 (V16.setRow eX #[.slice (some ⟨g1, 0, none⟩) e.key.length k1, .int .u64 (e.seq : Nat), .int .i64 e.kind, .slice (some ⟨g2, 0, none⟩) e.val.length k2]) := ⟨rfl, rfl, rfl, by simp, fun k _ hk => setRow_other _ _ _ _ hk⟩
            have G1 := hide ((RowB.bytes (c' := k1) fR1 rfl).turns tS (fun a n c e => by cases e; show ¬ g1 = eX; omega))
            have G2 := hide ((RowB.bytes (c' := k2) fR2 rfl).turns tS (fun a n c e => by cases e; show ¬ g2 = eX; omega))
            have FX := hide (setRow_heap _ _ _ #[.slice (some ⟨g1, 0, none⟩) e.key.length k1, .int .u64 (e.seq : Nat), .int .i64 e.kind, .slice (some ⟨g2, 0, none⟩) e.val.length k2] _ _ fX)
            have TW := hide tW
            have hz1 : g1 < (V16.setRow eX #[.slice (some ⟨g1, 0, none⟩) e.key.length k1, .int .u64 (e.seq : Nat), .int .i64 e.kind, .slice (some ⟨g2, 0, none⟩) e.val.length k2]).heap.size := by simpa using lt_of_heap fR1.choose_spec.1
            have hz2 : g2 < (V16.setRow eX #[.slice (some ⟨g1, 0, none⟩) e.key.length k1, .int .u64 (e.seq : Nat), .int .i64 e.kind, .slice (some ⟨g2, 0, none⟩) e.val.length k2]).heap.size := by simpa using lt_of_heap fR2.choose_spec.1
            have HB := hide (show w3.heap.size ≤ eX ∧ (w3.heap.size ≤ g1 ∧ g1 < (V16.setRow eX #[.slice (some ⟨g1, 0, none⟩) e.key.length k1, .int .u64 (e.seq : Nat), .int .i64 e.kind, .slice (some ⟨g2, 0, none⟩) e.val.length k2]).heap.size) ∧ (w3.heap.size ≤ g2 ∧ g2 < (V16.setRow eX #[.slice (some ⟨g1, 0, none⟩) e.key.length k1, .int .u64 (e.seq : Nat), .int .i64 e.kind, .slice (some ⟨g2, 0, none⟩) e.val.length k2]).heap.size) from ⟨by omega, ⟨by omega, hz1⟩, by omega, hz2⟩)
            refine hK.out _ _ (SK.out _ tW) (fun _ => ?_)
            clear hK K tW tS hz1 hz2 fR1 fR2 fX tV
            refine wpAnyH_done (by kernel_rfl) ?_ _
            go_wp2_with fail
            go_meet
            exact meet9 FX.out G1.out G2.out HB.out TW.out
        · skip
          go_simp
          have tN := (Turns.refl (fun _ => False) V11).alloc (.cells #[.slice none 0 0, .int .u64 0, .int .i64 0, .slice none 0 0] 29)
          have sX : V11.heap.size < (V11.alloc (.cells #[.slice none 0 0, .int .u64 0, .int .i64 0, .slice none 0 0] 29)).heap.size := by simp
          have fE1 := tN.heap fE1 (fun x => x)
          have fE2 := tN.heap fE2 (fun x => x)
          have fX := heap_alloc_new V11 (.cells #[.slice none 0 0, .int .u64 0, .int .i64 0, .slice none 0 0] 29)
          have bX : w3.heap.size ≤ V11.heap.size := tV.size
          have tV := tV.trans tN
          refine hK.out _ _ (SK.out _ tV) (fun _ => ?_)
          clear hK K tN
          generalize V11.alloc (.cells #[.slice none 0 0, .int .u64 0, .int .i64 0, .slice none 0 0] 29) = V17 at *
          generalize V11.heap.size = eX at *
          refine wpAnyH_ready (rs := [3]) (by kernel_rfl) (by simp) ?_
          refine AllReadyH.cons rfl (fun K hK => ?_) AllReadyH.nil
          obtain ⟨g1, k1, V18, hr, hrow, hcap1, tA, hgg1, hgl1⟩ := ap_own V17 eE1 ka e.key.length kc e.key fE1 (HK.out.quiet tV) hkn
          refine step_append_run rfl (.tmp 34) (.tmp 36) 26 rfl _ _ rfl rfl _ _ (hr _) 37 rfl ?_
          simp only [Act.put, List.setIfInBounds_toArray, List.set_cons_zero, List.set_cons_succ]
          have bV1 := tV.size
          have sV1 := tA.size
          have fE2 := tA.heap fE2 (by show ¬ eE2 = eE1; omega)
          have fX := tA.heap fX (by show ¬ eX = eE1; omega)
          have fR1 : RowB V18 g1 k1 e.key := hrow
          have tV := tV.andThen tA (fun k hk x => by subst x; omega)
          refine hK.out _ _ (SK.out _ tV) (fun _ => ?_)
          clear hK K tA hr hrow fE1
          generalize hz18 : V17.heap.size = z18 at *
          clear hz18
          refine wpAnyH_ready (rs := [11]) (by kernel_rfl) (by simp) ?_
          refine AllReadyH.cons rfl (fun K hK => ?_) AllReadyH.nil
          obtain ⟨g2, k2, V19, hr, hrow, hcap2, tA, hgg2, hgl2⟩ := ap_own V18 eE2 va e.val.length vc e.val fE2 (HV.out.quiet tV) hvn
          refine step_append_run rfl (.tmp 42) (.tmp 44) 26 rfl _ _ rfl rfl _ _ (hr _) 45 rfl ?_
          simp only [Act.put, List.setIfInBounds_toArray, List.set_cons_zero, List.set_cons_succ]
          have bV2 := tV.size
          have sV2 := tA.size
          have fX := tA.heap fX (by show ¬ eX = eE2; omega)
          have fR1 := RowC.turns fR1 tA (by show ¬ g1 = eE2; omega)
          have fR2 : RowB V19 g2 k2 e.val := hrow
          have tV := tV.andThen tA (fun k hk x => by subst x; omega)
          refine hK.out _ _ (SK.out _ tV) (fun _ => ?_)
          clear hK K tA hr hrow fE2
          generalize hz19 : V18.heap.size = z19 at *
          clear hz19
          refine wpAnyH_take (i := 12) (oi := { dst := some 46, op := Op.build 29 #[(0, Operand.tmp 37), (1, Operand.tmp 39), (2, Operand.tmp 41), (3, Operand.tmp 45)], type := 29, pos := "ref.go:45", after := #[{ on := 3, ground := Ground.data }, { on := 5, ground := Ground.data }, { on := 7, ground := Ground.data }, { on := 11, ground := Ground.data }], guard := none }) (v := .agg #[.slice (some ⟨g1, 0, none⟩) e.key.length k1, .int .u64 (e.seq : Nat), .int .i64 e.kind, .slice (some ⟨g2, 0, none⟩) e.val.length k2]) rfl (by kernel_rfl) (by kernel_rfl) (by kernel_rfl) (fun _ _ _ h => h) (Or.inl ⟨by rfl, ?_⟩) (SK.out _ tV) ?_
          · rintro w ⟨d0, d1, d2, d3⟩
            go_simp
          simp only [Act.put, List.setIfInBounds_toArray, List.set_cons_zero, List.set_cons_succ]
          refine wpAnyH_ready (rs := [14]) (by kernel_rfl) (by simp) ?_
          refine AllReadyH.cons rfl (fun K hK => ?_) AllReadyH.nil
          refine wp_store_row 29 (.tmp 9) (.tmp 46) rfl _ _ rfl rfl 29 _ fX info29 rfl (by simp [Value.oneCell']) ?_
          simp only [Act.put, List.setIfInBounds_toArray]
          have tW := tV.over (cs := #[.slice (some ⟨g1, 0, none⟩) e.key.length k1, .int .u64 (e.seq : Nat), .int .i64 e.kind, .slice (some ⟨g2, 0, none⟩) e.val.length k2]) (g := eX) (by omega)
          have tS : Turns (fun j => j = eX) V19 (V19.setRow eX #[.slice (some ⟨g1, 0, none⟩) e.key.length k1, .int .u64 (e.seq : Nat), .int .i64 e.kind, .slice (some ⟨g2, 0, none⟩) e.val.length k2]) := ⟨rfl, rfl, rfl, by simp, fun k _ hk => setRow_other _ _ _ _ hk⟩
          have G1 := hide ((RowB.bytes (c' := k1) fR1 rfl).turns tS (fun a n c e => by cases e; show ¬ g1 = eX; omega))
          have G2 := hide ((RowB.bytes (c' := k2) fR2 rfl).turns tS (fun a n c e => by cases e; show ¬ g2 = eX; omega))
          have FX := hide (setRow_heap _ _ _ #[.slice (some ⟨g1, 0, none⟩) e.key.length k1, .int .u64 (e.seq : Nat), .int .i64 e.kind, .slice (some ⟨g2, 0, none⟩) e.val.length k2] _ _ fX)
          have TW := hide tW
          have hz1 : g1 < (V19.setRow eX #[.slice (some ⟨g1, 0, none⟩) e.key.length k1, .int .u64 (e.seq : Nat), .int .i64 e.kind, .slice (some ⟨g2, 0, none⟩) e.val.length k2]).heap.size := by simpa using lt_of_heap fR1.choose_spec.1
          have hz2 : g2 < (V19.setRow eX #[.slice (some ⟨g1, 0, none⟩) e.key.length k1, .int .u64 (e.seq : Nat), .int .i64 e.kind, .slice (some ⟨g2, 0, none⟩) e.val.length k2]).heap.size := by simpa using lt_of_heap fR2.choose_spec.1
          have HB := hide (show w3.heap.size ≤ eX ∧ (w3.heap.size ≤ g1 ∧ g1 < (V19.setRow eX #[.slice (some ⟨g1, 0, none⟩) e.key.length k1, .int .u64 (e.seq : Nat), .int .i64 e.kind, .slice (some ⟨g2, 0, none⟩) e.val.length k2]).heap.size) ∧ (w3.heap.size ≤ g2 ∧ g2 < (V19.setRow eX #[.slice (some ⟨g1, 0, none⟩) e.key.length k1, .int .u64 (e.seq : Nat), .int .i64 e.kind, .slice (some ⟨g2, 0, none⟩) e.val.length k2]).heap.size) from ⟨by omega, ⟨by omega, hz1⟩, by omega, hz2⟩)
          refine hK.out _ _ (SK.out _ tW) (fun _ => ?_)
          clear hK K tW tS hz1 hz2 fR1 fR2 fX tV
          refine wpAnyH_done (by kernel_rfl) ?_ _
          go_wp2_with fail
          go_meet
          exact meet9 FX.out G1.out G2.out HB.out TW.out
      · skip
        go_simp
        have tN := (Turns.refl (fun _ => False) V1).alloc (.cells #[.slice none 0 0, .int .u64 0, .int .i64 0, .slice none 0 0] 29)
        have sX : V1.heap.size < (V1.alloc (.cells #[.slice none 0 0, .int .u64 0, .int .i64 0, .slice none 0 0] 29)).heap.size := by simp
        have fE1 := tN.heap fE1 (fun x => x)
        have fX := heap_alloc_new V1 (.cells #[.slice none 0 0, .int .u64 0, .int .i64 0, .slice none 0 0] 29)
        have bX : w3.heap.size ≤ V1.heap.size := tV.size
        have tV := tV.trans tN
        refine hK.out _ _ (SK.out _ tV) (fun _ => ?_)
        clear hK K tN
        generalize V1.alloc (.cells #[.slice none 0 0, .int .u64 0, .int .i64 0, .slice none 0 0] 29) = V20 at *
        generalize V1.heap.size = eX at *
        refine wpAnyH_ready (rs := [3, 8]) (by kernel_rfl) (by simp) ?_
        refine AllReadyH.cons rfl (fun K hK => ?_) (AllReadyH.cons rfl (fun K hK => ?_) AllReadyH.nil)
        · skip
          obtain ⟨g1, k1, V21, hr, hrow, hcap1, tA, hgg1, hgl1⟩ := ap_own V20 eE1 ka e.key.length kc e.key fE1 (HK.out.quiet tV) hkn
          refine step_append_run rfl (.tmp 34) (.tmp 36) 26 rfl _ _ rfl rfl _ _ (hr _) 37 rfl ?_
          simp only [Act.put, List.setIfInBounds_toArray, List.set_cons_zero, List.set_cons_succ]
          have bV1 := tV.size
          have sV1 := tA.size
          have fX := tA.heap fX (by show ¬ eX = eE1; omega)
          have fR1 : RowB V21 g1 k1 e.key := hrow
          have tV := tV.andThen tA (fun k hk x => by subst x; omega)
          refine hK.out _ _ (SK.out _ tV) (fun _ => ?_)
          clear hK K tA hr hrow fE1
          generalize hz21 : V20.heap.size = z21 at *
          clear hz21
          refine wpAnyH_ready (rs := [8]) (by kernel_rfl) (by simp) ?_
          refine AllReadyH.cons rfl (fun K hK => ?_) AllReadyH.nil
          go_simp
          have tN := (Turns.refl (fun _ => False) V21).alloc (.cells #[] 5)
          have sE2 : V21.heap.size < (V21.alloc (.cells #[] 5)).heap.size := by simp
          have fX := tN.heap fX (fun x => x)
          have fR1 := RowC.turns fR1 tN (fun x => x)
          have fE2 := heap_alloc_new V21 (.cells #[] 5)
          have bE2 : w3.heap.size ≤ V21.heap.size := tV.size
          have tV := tV.trans tN
          refine hK.out _ _ (SK.out _ tV) (fun _ => ?_)
          clear hK K tN
          generalize V21.alloc (.cells #[] 5) = V22 at *
          generalize V21.heap.size = eE2 at *
          refine wpAnyH_ready (rs := [11]) (by kernel_rfl) (by simp) ?_
          refine AllReadyH.cons rfl (fun K hK => ?_) AllReadyH.nil
          obtain ⟨g2, k2, V23, hr, hrow, hcap2, tA, hgg2, hgl2⟩ := ap_own V22 eE2 va e.val.length vc e.val fE2 (HV.out.quiet tV) hvn
          refine step_append_run rfl (.tmp 42) (.tmp 44) 26 rfl _ _ rfl rfl _ _ (hr _) 45 rfl ?_
          simp only [Act.put, List.setIfInBounds_toArray, List.set_cons_zero, List.set_cons_succ]
          have bV2 := tV.size
          have sV2 := tA.size
          have fX := tA.heap fX (by show ¬ eX = eE2; omega)
          have fR1 := RowC.turns fR1 tA (by show ¬ g1 = eE2; omega)
          have fR2 : RowB V23 g2 k2 e.val := hrow
          have tV := tV.andThen tA (fun k hk x => by subst x; omega)
          refine hK.out _ _ (SK.out _ tV) (fun _ => ?_)
          clear hK K tA hr hrow fE2
          generalize hz23 : V22.heap.size = z23 at *
          clear hz23
          refine wpAnyH_take (i := 12) (oi := { dst := some 46, op := Op.build 29 #[(0, Operand.tmp 37), (1, Operand.tmp 39), (2, Operand.tmp 41), (3, Operand.tmp 45)], type := 29, pos := "ref.go:45", after := #[{ on := 3, ground := Ground.data }, { on := 5, ground := Ground.data }, { on := 7, ground := Ground.data }, { on := 11, ground := Ground.data }], guard := none }) (v := .agg #[.slice (some ⟨g1, 0, none⟩) e.key.length k1, .int .u64 (e.seq : Nat), .int .i64 e.kind, .slice (some ⟨g2, 0, none⟩) e.val.length k2]) rfl (by kernel_rfl) (by kernel_rfl) (by kernel_rfl) (fun _ _ _ h => h) (Or.inl ⟨by rfl, ?_⟩) (SK.out _ tV) ?_
          · rintro w ⟨d0, d1, d2, d3⟩
            go_simp
          simp only [Act.put, List.setIfInBounds_toArray, List.set_cons_zero, List.set_cons_succ]
          refine wpAnyH_ready (rs := [14]) (by kernel_rfl) (by simp) ?_
          refine AllReadyH.cons rfl (fun K hK => ?_) AllReadyH.nil
          refine wp_store_row 29 (.tmp 9) (.tmp 46) rfl _ _ rfl rfl 29 _ fX info29 rfl (by simp [Value.oneCell']) ?_
          simp only [Act.put, List.setIfInBounds_toArray]
          have tW := tV.over (cs := #[.slice (some ⟨g1, 0, none⟩) e.key.length k1, .int .u64 (e.seq : Nat), .int .i64 e.kind, .slice (some ⟨g2, 0, none⟩) e.val.length k2]) (g := eX) (by omega)
          have tS : Turns (fun j => j = eX) V23 (V23.setRow eX #[.slice (some ⟨g1, 0, none⟩) e.key.length k1, .int .u64 (e.seq : Nat), .int .i64 e.kind, .slice (some ⟨g2, 0, none⟩) e.val.length k2]) := ⟨rfl, rfl, rfl, by simp, fun k _ hk => setRow_other _ _ _ _ hk⟩
          have G1 := hide ((RowB.bytes (c' := k1) fR1 rfl).turns tS (fun a n c e => by cases e; show ¬ g1 = eX; omega))
          have G2 := hide ((RowB.bytes (c' := k2) fR2 rfl).turns tS (fun a n c e => by cases e; show ¬ g2 = eX; omega))
          have FX := hide (setRow_heap _ _ _ #[.slice (some ⟨g1, 0, none⟩) e.key.length k1, .int .u64 (e.seq : Nat), .int .i64 e.kind, .slice (some ⟨g2, 0, none⟩) e.val.length k2] _ _ fX)
          have TW := hide tW
          have hz1 : g1 < (V23.setRow eX #[.slice (some ⟨g1, 0, none⟩) e.key.length k1, .int .u64 (e.seq : Nat), .int .i64 e.kind, .slice (some ⟨g2, 0, none⟩) e.val.length k2]).heap.size := by simpa using lt_of_heap fR1.choose_spec.1
          have hz2 : g2 < (V23.setRow eX #[.slice (some ⟨g1, 0, none⟩) e.key.length k1, .int .u64 (e.seq : Nat), .int .i64 e.kind, .slice (some ⟨g2, 0, none⟩) e.val.length k2]).heap.size := by simpa using lt_of_heap fR2.choose_spec.1
          have HB := hide (show w3.heap.size ≤ eX ∧ (w3.heap.size ≤ g1 ∧ g1 < (V23.setRow eX #[.slice (some ⟨g1, 0, none⟩) e.key.length k1, .int .u64 (e.seq : Nat), .int .i64 e.kind, .slice (some ⟨g2, 0, none⟩) e.val.length k2]).heap.size) ∧ (w3.heap.size ≤ g2 ∧ g2 < (V23.setRow eX #[.slice (some ⟨g1, 0, none⟩) e.key.length k1, .int .u64 (e.seq : Nat), .int .i64 e.kind, .slice (some ⟨g2, 0, none⟩) e.val.length k2]).heap.size) from ⟨by omega, ⟨by omega, hz1⟩, by omega, hz2⟩)
          refine hK.out _ _ (SK.out _ tW) (fun _ => ?_)
          clear hK K tW tS hz1 hz2 fR1 fR2 fX tV
          refine wpAnyH_done (by kernel_rfl) ?_ _
          go_wp2_with fail
          go_meet
          exact meet9 FX.out G1.out G2.out HB.out TW.out
        · skip
          go_simp
          have tN := (Turns.refl (fun _ => False) V20).alloc (.cells #[] 5)
          have sE2 : V20.heap.size < (V20.alloc (.cells #[] 5)).heap.size := by simp
          have fE1 := tN.heap fE1 (fun x => x)
          have fX := tN.heap fX (fun x => x)
          have fE2 := heap_alloc_new V20 (.cells #[] 5)
          have bE2 : w3.heap.size ≤ V20.heap.size := tV.size
          have tV := tV.trans tN
          refine hK.out _ _ (SK.out _ tV) (fun _ => ?_)
          clear hK K tN
          generalize V20.alloc (.cells #[] 5) = V24 at *
          generalize V20.heap.size = eE2 at *
          refine wpAnyH_ready (rs := [3]) (by kernel_rfl) (by simp) ?_
          refine AllReadyH.cons rfl (fun K hK => ?_) AllReadyH.nil
          obtain ⟨g1, k1, V25, hr, hrow, hcap1, tA, hgg1, hgl1⟩ := ap_own V24 eE1 ka e.key.length kc e.key fE1 (HK.out.quiet tV) hkn
          refine step_append_run rfl (.tmp 34) (.tmp 36) 26 rfl _ _ rfl rfl _ _ (hr _) 37 rfl ?_
          simp only [Act.put, List.setIfInBounds_toArray, List.set_cons_zero, List.set_cons_succ]
          have bV1 := tV.size
          have sV1 := tA.size
          have fX := tA.heap fX (by show ¬ eX = eE1; omega)
          have fE2 := tA.heap fE2 (by show ¬ eE2 = eE1; omega)
          have fR1 : RowB V25 g1 k1 e.key := hrow
          have tV := tV.andThen tA (fun k hk x => by subst x; omega)
          refine hK.out _ _ (SK.out _ tV) (fun _ => ?_)
          clear hK K tA hr hrow fE1
          generalize hz25 : V24.heap.size = z25 at *
          clear hz25
          refine wpAnyH_ready (rs := [11]) (by kernel_rfl) (by simp) ?_
          refine AllReadyH.cons rfl (fun K hK => ?_) AllReadyH.nil
          obtain ⟨g2, k2, V26, hr, hrow, hcap2, tA, hgg2, hgl2⟩ := ap_own V25 eE2 va e.val.length vc e.val fE2 (HV.out.quiet tV) hvn
          refine step_append_run rfl (.tmp 42) (.tmp 44) 26 rfl _ _ rfl rfl _ _ (hr _) 45 rfl ?_
          simp only [Act.put, List.setIfInBounds_toArray, List.set_cons_zero, List.set_cons_succ]
          have bV2 := tV.size
          have sV2 := tA.size
          have fX := tA.heap fX (by show ¬ eX = eE2; omega)
          have fR1 := RowC.turns fR1 tA (by show ¬ g1 = eE2; omega)
          have fR2 : RowB V26 g2 k2 e.val := hrow
          have tV := tV.andThen tA (fun k hk x => by subst x; omega)
          refine hK.out _ _ (SK.out _ tV) (fun _ => ?_)
          clear hK K tA hr hrow fE2
          generalize hz26 : V25.heap.size = z26 at *
          clear hz26
          refine wpAnyH_take (i := 12) (oi := { dst := some 46, op := Op.build 29 #[(0, Operand.tmp 37), (1, Operand.tmp 39), (2, Operand.tmp 41), (3, Operand.tmp 45)], type := 29, pos := "ref.go:45", after := #[{ on := 3, ground := Ground.data }, { on := 5, ground := Ground.data }, { on := 7, ground := Ground.data }, { on := 11, ground := Ground.data }], guard := none }) (v := .agg #[.slice (some ⟨g1, 0, none⟩) e.key.length k1, .int .u64 (e.seq : Nat), .int .i64 e.kind, .slice (some ⟨g2, 0, none⟩) e.val.length k2]) rfl (by kernel_rfl) (by kernel_rfl) (by kernel_rfl) (fun _ _ _ h => h) (Or.inl ⟨by rfl, ?_⟩) (SK.out _ tV) ?_
          · rintro w ⟨d0, d1, d2, d3⟩
            go_simp
          simp only [Act.put, List.setIfInBounds_toArray, List.set_cons_zero, List.set_cons_succ]
          refine wpAnyH_ready (rs := [14]) (by kernel_rfl) (by simp) ?_
          refine AllReadyH.cons rfl (fun K hK => ?_) AllReadyH.nil
          refine wp_store_row 29 (.tmp 9) (.tmp 46) rfl _ _ rfl rfl 29 _ fX info29 rfl (by simp [Value.oneCell']) ?_
          simp only [Act.put, List.setIfInBounds_toArray]
          have tW := tV.over (cs := #[.slice (some ⟨g1, 0, none⟩) e.key.length k1, .int .u64 (e.seq : Nat), .int .i64 e.kind, .slice (some ⟨g2, 0, none⟩) e.val.length k2]) (g := eX) (by omega)
          have tS : Turns (fun j => j = eX) V26 (V26.setRow eX #[.slice (some ⟨g1, 0, none⟩) e.key.length k1, .int .u64 (e.seq : Nat), .int .i64 e.kind, .slice (some ⟨g2, 0, none⟩) e.val.length k2]) := ⟨rfl, rfl, rfl, by simp, fun k _ hk => setRow_other _ _ _ _ hk⟩
          have G1 := hide ((RowB.bytes (c' := k1) fR1 rfl).turns tS (fun a n c e => by cases e; show ¬ g1 = eX; omega))
          have G2 := hide ((RowB.bytes (c' := k2) fR2 rfl).turns tS (fun a n c e => by cases e; show ¬ g2 = eX; omega))
          have FX := hide (setRow_heap _ _ _ #[.slice (some ⟨g1, 0, none⟩) e.key.length k1, .int .u64 (e.seq : Nat), .int .i64 e.kind, .slice (some ⟨g2, 0, none⟩) e.val.length k2] _ _ fX)
          have TW := hide tW
          have hz1 : g1 < (V26.setRow eX #[.slice (some ⟨g1, 0, none⟩) e.key.length k1, .int .u64 (e.seq : Nat), .int .i64 e.kind, .slice (some ⟨g2, 0, none⟩) e.val.length k2]).heap.size := by simpa using lt_of_heap fR1.choose_spec.1
          have hz2 : g2 < (V26.setRow eX #[.slice (some ⟨g1, 0, none⟩) e.key.length k1, .int .u64 (e.seq : Nat), .int .i64 e.kind, .slice (some ⟨g2, 0, none⟩) e.val.length k2]).heap.size := by simpa using lt_of_heap fR2.choose_spec.1
          have HB := hide (show w3.heap.size ≤ eX ∧ (w3.heap.size ≤ g1 ∧ g1 < (V26.setRow eX #[.slice (some ⟨g1, 0, none⟩) e.key.length k1, .int .u64 (e.seq : Nat), .int .i64 e.kind, .slice (some ⟨g2, 0, none⟩) e.val.length k2]).heap.size) ∧ (w3.heap.size ≤ g2 ∧ g2 < (V26.setRow eX #[.slice (some ⟨g1, 0, none⟩) e.key.length k1, .int .u64 (e.seq : Nat), .int .i64 e.kind, .slice (some ⟨g2, 0, none⟩) e.val.length k2]).heap.size) from ⟨by omega, ⟨by omega, hz1⟩, by omega, hz2⟩)
          refine hK.out _ _ (SK.out _ tW) (fun _ => ?_)
          clear hK K tW tS hz1 hz2 fR1 fR2 fX tV
          refine wpAnyH_done (by kernel_rfl) ?_ _
          go_wp2_with fail
          go_meet
          exact meet9 FX.out G1.out G2.out HB.out TW.out
    · skip
      go_simp
      have tN := (Turns.refl (fun _ => False) V0).alloc (.cells #[] 5)
      have sE2 : V0.heap.size < (V0.alloc (.cells #[] 5)).heap.size := by simp
      have fE2 := heap_alloc_new V0 (.cells #[] 5)
      have bE2 : w3.heap.size ≤ V0.heap.size := tV.size
      have tV := tV.trans tN
      refine hK.out _ _ (SK.out _ tV) (fun _ => ?_)
      clear hK K tN
      generalize V0.alloc (.cells #[] 5) = V27 at *
      generalize V0.heap.size = eE2 at *
      refine wpAnyH_ready (rs := [0, 13]) (by kernel_rfl) (by simp) ?_
      refine AllReadyH.cons rfl (fun K hK => ?_) (AllReadyH.cons rfl (fun K hK => ?_) AllReadyH.nil)
      · skip
        go_simp
        have tN := (Turns.refl (fun _ => False) V27).alloc (.cells #[] 5)
        have sE1 : V27.heap.size < (V27.alloc (.cells #[] 5)).heap.size := by simp
        have fE2 := tN.heap fE2 (fun x => x)
        have fE1 := heap_alloc_new V27 (.cells #[] 5)
        have bE1 : w3.heap.size ≤ V27.heap.size := tV.size
        have tV := tV.trans tN
        refine hK.out _ _ (SK.out _ tV) (fun _ => ?_)
        clear hK K tN
        generalize V27.alloc (.cells #[] 5) = V28 at *
        generalize V27.heap.size = eE1 at *
        refine wpAnyH_ready (rs := [3, 13]) (by kernel_rfl) (by simp) ?_
        refine AllReadyH.cons rfl (fun K hK => ?_) (AllReadyH.cons rfl (fun K hK => ?_) AllReadyH.nil)
        · skip
          obtain ⟨g1, k1, V29, hr, hrow, hcap1, tA, hgg1, hgl1⟩ := ap_own V28 eE1 ka e.key.length kc e.key fE1 (HK.out.quiet tV) hkn
          refine step_append_run rfl (.tmp 34) (.tmp 36) 26 rfl _ _ rfl rfl _ _ (hr _) 37 rfl ?_
          simp only [Act.put, List.setIfInBounds_toArray, List.set_cons_zero, List.set_cons_succ]
          have bV1 := tV.size
          have sV1 := tA.size
          have fE2 := tA.heap fE2 (by show ¬ eE2 = eE1; omega)
          have fR1 : RowB V29 g1 k1 e.key := hrow
          have tV := tV.andThen tA (fun k hk x => by subst x; omega)
          refine hK.out _ _ (SK.out _ tV) (fun _ => ?_)
          clear hK K tA hr hrow fE1
          generalize hz29 : V28.heap.size = z29 at *
          clear hz29
          refine wpAnyH_ready (rs := [11, 13]) (by kernel_rfl) (by simp) ?_
          refine AllReadyH.cons rfl (fun K hK => ?_) (AllReadyH.cons rfl (fun K hK => ?_) AllReadyH.nil)
          · skip
            obtain ⟨g2, k2, V30, hr, hrow, hcap2, tA, hgg2, hgl2⟩ := ap_own V29 eE2 va e.val.length vc e.val fE2 (HV.out.quiet tV) hvn
            refine step_append_run rfl (.tmp 42) (.tmp 44) 26 rfl _ _ rfl rfl _ _ (hr _) 45 rfl ?_
            simp only [Act.put, List.setIfInBounds_toArray, List.set_cons_zero, List.set_cons_succ]
            have bV2 := tV.size
            have sV2 := tA.size
            have fR1 := RowC.turns fR1 tA (by show ¬ g1 = eE2; omega)
            have fR2 : RowB V30 g2 k2 e.val := hrow
            have tV := tV.andThen tA (fun k hk x => by subst x; omega)
            refine hK.out _ _ (SK.out _ tV) (fun _ => ?_)
            clear hK K tA hr hrow fE2
            generalize hz30 : V29.heap.size = z30 at *
            clear hz30
            refine wpAnyH_take (i := 12) (oi := { dst := some 46, op := Op.build 29 #[(0, Operand.tmp 37), (1, Operand.tmp 39), (2, Operand.tmp 41), (3, Operand.tmp 45)], type := 29, pos := "ref.go:45", after := #[{ on := 3, ground := Ground.data }, { on := 5, ground := Ground.data }, { on := 7, ground := Ground.data }, { on := 11, ground := Ground.data }], guard := none }) (v := .agg #[.slice (some ⟨g1, 0, none⟩) e.key.length k1, .int .u64 (e.seq : Nat), .int .i64 e.kind, .slice (some ⟨g2, 0, none⟩) e.val.length k2]) rfl (by kernel_rfl) (by kernel_rfl) (by kernel_rfl) (fun _ _ _ h => h) (Or.inl ⟨by rfl, ?_⟩) (SK.out _ tV) ?_
            · rintro w ⟨d0, d1, d2, d3⟩
              go_simp
            simp only [Act.put, List.setIfInBounds_toArray, List.set_cons_zero, List.set_cons_succ]
            refine wpAnyH_ready (rs := [13]) (by kernel_rfl) (by simp) ?_
            refine AllReadyH.cons rfl (fun K hK => ?_) AllReadyH.nil
            go_simp
            have tN := (Turns.refl (fun _ => False) V30).alloc (.cells #[.slice none 0 0, .int .u64 0, .int .i64 0, .slice none 0 0] 29)
            have sX : V30.heap.size < (V30.alloc (.cells #[.slice none 0 0, .int .u64 0, .int .i64 0, .slice none 0 0] 29)).heap.size := by simp
            have fR1 := RowC.turns fR1 tN (fun x => x)
            have fR2 := RowC.turns fR2 tN (fun x => x)
            have fX := heap_alloc_new V30 (.cells #[.slice none 0 0, .int .u64 0, .int .i64 0, .slice none 0 0] 29)
            have bX : w3.heap.size ≤ V30.heap.size := tV.size
            have tV := tV.trans tN
            refine hK.out _ _ (SK.out _ tV) (fun _ => ?_)
            clear hK K tN
            generalize V30.alloc (.cells #[.slice none 0 0, .int .u64 0, .int .i64 0, .slice none 0 0] 29) = V31 at *
            generalize V30.heap.size = eX at *
            refine wpAnyH_ready (rs := [14]) (by kernel_rfl) (by simp) ?_
            refine AllReadyH.cons rfl (fun K hK => ?_) AllReadyH.nil
            refine wp_store_row 29 (.tmp 9) (.tmp 46) rfl _ _ rfl rfl 29 _ fX info29 rfl (by simp [Value.oneCell']) ?_
            simp only [Act.put, List.setIfInBounds_toArray]
            have tW := tV.over (cs := #[.slice (some ⟨g1, 0, none⟩) e.key.length k1, .int .u64 (e.seq : Nat), .int .i64 e.kind, .slice (some ⟨g2, 0, none⟩) e.val.length k2]) (g := eX) (by omega)
            have tS : Turns (fun j => j = eX) V31 (V31.setRow eX #[.slice (some ⟨g1, 0, none⟩) e.key.length k1, .int .u64 (e.seq : Nat), .int .i64 e.kind, .slice (some ⟨g2, 0, none⟩) e.val.length k2]) := ⟨rfl, rfl, rfl, by simp, fun k _ hk => setRow_other _ _ _ _ hk⟩
            have G1 := hide ((RowB.bytes (c' := k1) fR1 rfl).turns tS (fun a n c e => by cases e; show ¬ g1 = eX; omega))
            have G2 := hide ((RowB.bytes (c' := k2) fR2 rfl).turns tS (fun a n c e => by cases e; show ¬ g2 = eX; omega))
            have FX := hide (setRow_heap _ _ _ #[.slice (some ⟨g1, 0, none⟩) e.key.length k1, .int .u64 (e.seq : Nat), .int .i64 e.kind, .slice (some ⟨g2, 0, none⟩) e.val.length k2] _ _ fX)
            have TW := hide tW
            have hz1 : g1 < (V31.setRow eX #[.slice (some ⟨g1, 0, none⟩) e.key.length k1, .int .u64 (e.seq : Nat), .int .i64 e.kind, .slice (some ⟨g2, 0, none⟩) e.val.length k2]).heap.size := by simpa using lt_of_heap fR1.choose_spec.1
            have hz2 : g2 < (V31.setRow eX #[.slice (some ⟨g1, 0, none⟩) e.key.length k1, .int .u64 (e.seq : Nat), .int .i64 e.kind, .slice (some ⟨g2, 0, none⟩) e.val.length k2]).heap.size := by simpa using lt_of_heap fR2.choose_spec.1
            have HB := hide (show w3.heap.size ≤ eX ∧ (w3.heap.size ≤ g1 ∧ g1 < (V31.setRow eX #[.slice (some ⟨g1, 0, none⟩) e.key.length k1, .int .u64 (e.seq : Nat), .int .i64 e.kind, .slice (some ⟨g2, 0, none⟩) e.val.length k2]).heap.size) ∧ (w3.heap.size ≤ g2 ∧ g2 < (V31.setRow eX #[.slice (some ⟨g1, 0, none⟩) e.key.length k1, .int .u64 (e.seq : Nat), .int .i64 e.kind, .slice (some ⟨g2, 0, none⟩) e.val.length k2]).heap.size) from ⟨by omega, ⟨by omega, hz1⟩, by omega, hz2⟩)
            refine hK.out _ _ (SK.out _ tW) (fun _ => ?_)
            clear hK K tW tS hz1 hz2 fR1 fR2 fX tV
            refine wpAnyH_done (by kernel_rfl) ?_ _
            go_wp2_with fail
            go_meet
            exact meet9 FX.out G1.out G2.out HB.out TW.out
          · skip
            go_simp
            have tN := (Turns.refl (fun _ => False) V29).alloc (.cells #[.slice none 0 0, .int .u64 0, .int .i64 0, .slice none 0 0] 29)
            have sX : V29.heap.size < (V29.alloc (.cells #[.slice none 0 0, .int .u64 0, .int .i64 0, .slice none 0 0] 29)).heap.size := by simp
            have fE2 := tN.heap fE2 (fun x => x)
            have fR1 := RowC.turns fR1 tN (fun x => x)
            have fX := heap_alloc_new V29 (.cells #[.slice none 0 0, .int .u64 0, .int .i64 0, .slice none 0 0] 29)
            have bX : w3.heap.size ≤ V29.heap.size := tV.size
            have tV := tV.trans tN
            refine hK.out _ _ (SK.out _ tV) (fun _ => ?_)
            clear hK K tN
            generalize V29.alloc (.cells #[.slice none 0 0, .int .u64 0, .int .i64 0, .slice none 0 0] 29) = V32 at *
            generalize V29.heap.size = eX at *
            refine wpAnyH_ready (rs := [11]) (by kernel_rfl) (by simp) ?_
            refine AllReadyH.cons rfl (fun K hK => ?_) AllReadyH.nil
            obtain ⟨g2, k2, V33, hr, hrow, hcap2, tA, hgg2, hgl2⟩ := ap_own V32 eE2 va e.val.length vc e.val fE2 (HV.out.quiet tV) hvn
            refine step_append_run rfl (.tmp 42) (.tmp 44) 26 rfl _ _ rfl rfl _ _ (hr _) 45 rfl ?_
            simp only [Act.put, List.setIfInBounds_toArray, List.set_cons_zero, List.set_cons_succ]
            have bV2 := tV.size
            have sV2 := tA.size
            have fR1 := RowC.turns fR1 tA (by show ¬ g1 = eE2; omega)
            have fX := tA.heap fX (by show ¬ eX = eE2; omega)
            have fR2 : RowB V33 g2 k2 e.val := hrow
            have tV := tV.andThen tA (fun k hk x => by subst x; omega)
            refine hK.out _ _ (SK.out _ tV) (fun _ => ?_)
            clear hK K tA hr hrow fE2
            generalize hz33 : V32.heap.size = z33 at *
            clear hz33
            refine wpAnyH_take (i := 12) (oi := { dst := some 46, op := Op.build 29 #[(0, Operand.tmp 37), (1, Operand.tmp 39), (2, Operand.tmp 41), (3, Operand.tmp 45)], type := 29, pos := "ref.go:45", after := #[{ on := 3, ground := Ground.data }, { on := 5, ground := Ground.data }, { on := 7, ground := Ground.data }, { on := 11, ground := Ground.data }], guard := none }) (v := .agg #[.slice (some ⟨g1, 0, none⟩) e.key.length k1, .int .u64 (e.seq : Nat), .int .i64 e.kind, .slice (some ⟨g2, 0, none⟩) e.val.length k2]) rfl (by kernel_rfl) (by kernel_rfl) (by kernel_rfl) (fun _ _ _ h => h) (Or.inl ⟨by rfl, ?_⟩) (SK.out _ tV) ?_
            · rintro w ⟨d0, d1, d2, d3⟩
              go_simp
            simp only [Act.put, List.setIfInBounds_toArray, List.set_cons_zero, List.set_cons_succ]
            refine wpAnyH_ready (rs := [14]) (by kernel_rfl) (by simp) ?_
            refine AllReadyH.cons rfl (fun K hK => ?_) AllReadyH.nil
            refine wp_store_row 29 (.tmp 9) (.tmp 46) rfl _ _ rfl rfl 29 _ fX info29 rfl (by simp [Value.oneCell']) ?_
            simp only [Act.put, List.setIfInBounds_toArray]
            have tW := tV.over (cs := #[.slice (some ⟨g1, 0, none⟩) e.key.length k1, .int .u64 (e.seq : Nat), .int .i64 e.kind, .slice (some ⟨g2, 0, none⟩) e.val.length k2]) (g := eX) (by omega)
            have tS : Turns (fun j => j = eX) V33 (V33.setRow eX #[.slice (some ⟨g1, 0, none⟩) e.key.length k1, .int .u64 (e.seq : Nat), .int .i64 e.kind, .slice (some ⟨g2, 0, none⟩) e.val.length k2]) := ⟨rfl, rfl, rfl, by simp, fun k _ hk => setRow_other _ _ _ _ hk⟩
            have G1 := hide ((RowB.bytes (c' := k1) fR1 rfl).turns tS (fun a n c e => by cases e; show ¬ g1 = eX; omega))
            have G2 := hide ((RowB.bytes (c' := k2) fR2 rfl).turns tS (fun a n c e => by cases e; show ¬ g2 = eX; omega))
            have FX := hide (setRow_heap _ _ _ #[.slice (some ⟨g1, 0, none⟩) e.key.length k1, .int .u64 (e.seq : Nat), .int .i64 e.kind, .slice (some ⟨g2, 0, none⟩) e.val.length k2] _ _ fX)
            have TW := hide tW
            have hz1 : g1 < (V33.setRow eX #[.slice (some ⟨g1, 0, none⟩) e.key.length k1, .int .u64 (e.seq : Nat), .int .i64 e.kind, .slice (some ⟨g2, 0, none⟩) e.val.length k2]).heap.size := by simpa using lt_of_heap fR1.choose_spec.1
            have hz2 : g2 < (V33.setRow eX #[.slice (some ⟨g1, 0, none⟩) e.key.length k1, .int .u64 (e.seq : Nat), .int .i64 e.kind, .slice (some ⟨g2, 0, none⟩) e.val.length k2]).heap.size := by simpa using lt_of_heap fR2.choose_spec.1
            have HB := hide (show w3.heap.size ≤ eX ∧ (w3.heap.size ≤ g1 ∧ g1 < (V33.setRow eX #[.slice (some ⟨g1, 0, none⟩) e.key.length k1, .int .u64 (e.seq : Nat), .int .i64 e.kind, .slice (some ⟨g2, 0, none⟩) e.val.length k2]).heap.size) ∧ (w3.heap.size ≤ g2 ∧ g2 < (V33.setRow eX #[.slice (some ⟨g1, 0, none⟩) e.key.length k1, .int .u64 (e.seq : Nat), .int .i64 e.kind, .slice (some ⟨g2, 0, none⟩) e.val.length k2]).heap.size) from ⟨by omega, ⟨by omega, hz1⟩, by omega, hz2⟩)
            refine hK.out _ _ (SK.out _ tW) (fun _ => ?_)
            clear hK K tW tS hz1 hz2 fR1 fR2 fX tV
            refine wpAnyH_done (by kernel_rfl) ?_ _
            go_wp2_with fail
            go_meet
            exact meet9 FX.out G1.out G2.out HB.out TW.out
        · skip
          go_simp
          have tN := (Turns.refl (fun _ => False) V28).alloc (.cells #[.slice none 0 0, .int .u64 0, .int .i64 0, .slice none 0 0] 29)
          have sX : V28.heap.size < (V28.alloc (.cells #[.slice none 0 0, .int .u64 0, .int .i64 0, .slice none 0 0] 29)).heap.size := by simp
          have fE2 := tN.heap fE2 (fun x => x)
          have fE1 := tN.heap fE1 (fun x => x)
          have fX := heap_alloc_new V28 (.cells #[.slice none 0 0, .int .u64 0, .int .i64 0, .slice none 0 0] 29)
          have bX : w3.heap.size ≤ V28.heap.size := tV.size
          have tV := tV.trans tN
          refine hK.out _ _ (SK.out _ tV) (fun _ => ?_)
          clear hK K tN
          generalize V28.alloc (.cells #[.slice none 0 0, .int .u64 0, .int .i64 0, .slice none 0 0] 29) = V34 at *
          generalize V28.heap.size = eX at *
          refine wpAnyH_ready (rs := [3]) (by kernel_rfl) (by simp) ?_
          refine AllReadyH.cons rfl (fun K hK => ?_) AllReadyH.nil
          obtain ⟨g1, k1, V35, hr, hrow, hcap1, tA, hgg1, hgl1⟩ := ap_own V34 eE1 ka e.key.length kc e.key fE1 (HK.out.quiet tV) hkn
          refine step_append_run rfl (.tmp 34) (.tmp 36) 26 rfl _ _ rfl rfl _ _ (hr _) 37 rfl ?_
          simp only [Act.put, List.setIfInBounds_toArray, List.set_cons_zero, List.set_cons_succ]
          have bV1 := tV.size
          have sV1 := tA.size
          have fE2 := tA.heap fE2 (by show ¬ eE2 = eE1; omega)
          have fX := tA.heap fX (by show ¬ eX = eE1; omega)
          have fR1 : RowB V35 g1 k1 e.key := hrow
          have tV := tV.andThen tA (fun k hk x => by subst x; omega)
          refine hK.out _ _ (SK.out _ tV) (fun _ => ?_)
          clear hK K tA hr hrow fE1
          generalize hz35 : V34.heap.size = z35 at *
          clear hz35
          refine wpAnyH_ready (rs := [11]) (by kernel_rfl) (by simp) ?_
          refine AllReadyH.cons rfl (fun K hK => ?_) AllReadyH.nil
          obtain ⟨g2, k2, V36, hr, hrow, hcap2, tA, hgg2, hgl2⟩ := ap_own V35 eE2 va e.val.length vc e.val fE2 (HV.out.quiet tV) hvn
          refine step_append_run rfl (.tmp 42) (.tmp 44) 26 rfl _ _ rfl rfl _ _ (hr _) 45 rfl ?_
          simp only [Act.put, List.setIfInBounds_toArray, List.set_cons_zero, List.set_cons_succ]
          have bV2 := tV.size
          have sV2 := tA.size
          have fX := tA.heap fX (by show ¬ eX = eE2; omega)
          have fR1 := RowC.turns fR1 tA (by show ¬ g1 = eE2; omega)
          have fR2 : RowB V36 g2 k2 e.val := hrow
          have tV := tV.andThen tA (fun k hk x => by subst x; omega)
          refine hK.out _ _ (SK.out _ tV) (fun _ => ?_)
          clear hK K tA hr hrow fE2
          generalize hz36 : V35.heap.size = z36 at *
          clear hz36
          refine wpAnyH_take (i := 12) (oi := { dst := some 46, op := Op.build 29 #[(0, Operand.tmp 37), (1, Operand.tmp 39), (2, Operand.tmp 41), (3, Operand.tmp 45)], type := 29, pos := "ref.go:45", after := #[{ on := 3, ground := Ground.data }, { on := 5, ground := Ground.data }, { on := 7, ground := Ground.data }, { on := 11, ground := Ground.data }], guard := none }) (v := .agg #[.slice (some ⟨g1, 0, none⟩) e.key.length k1, .int .u64 (e.seq : Nat), .int .i64 e.kind, .slice (some ⟨g2, 0, none⟩) e.val.length k2]) rfl (by kernel_rfl) (by kernel_rfl) (by kernel_rfl) (fun _ _ _ h => h) (Or.inl ⟨by rfl, ?_⟩) (SK.out _ tV) ?_
          · rintro w ⟨d0, d1, d2, d3⟩
            go_simp
          simp only [Act.put, List.setIfInBounds_toArray, List.set_cons_zero, List.set_cons_succ]
          refine wpAnyH_ready (rs := [14]) (by kernel_rfl) (by simp) ?_
          refine AllReadyH.cons rfl (fun K hK => ?_) AllReadyH.nil
          refine wp_store_row 29 (.tmp 9) (.tmp 46) rfl _ _ rfl rfl 29 _ fX info29 rfl (by simp [Value.oneCell']) ?_
          simp only [Act.put, List.setIfInBounds_toArray]
          have tW := tV.over (cs := #[.slice (some ⟨g1, 0, none⟩) e.key.length k1, .int .u64 (e.seq : Nat), .int .i64 e.kind, .slice (some ⟨g2, 0, none⟩) e.val.length k2]) (g := eX) (by omega)
          have tS : Turns (fun j => j = eX) V36 (V36.setRow eX #[.slice (some ⟨g1, 0, none⟩) e.key.length k1, .int .u64 (e.seq : Nat), .int .i64 e.kind, .slice (some ⟨g2, 0, none⟩) e.val.length k2]) := ⟨rfl, rfl, rfl, by simp, fun k _ hk => setRow_other _ _ _ _ hk⟩
          have G1 := hide ((RowB.bytes (c' := k1) fR1 rfl).turns tS (fun a n c e => by cases e; show ¬ g1 = eX; omega))
          have G2 := hide ((RowB.bytes (c' := k2) fR2 rfl).turns tS (fun a n c e => by cases e; show ¬ g2 = eX; omega))
          have FX := hide (setRow_heap _ _ _ #[.slice (some ⟨g1, 0, none⟩) e.key.length k1, .int .u64 (e.seq : Nat), .int .i64 e.kind, .slice (some ⟨g2, 0, none⟩) e.val.length k2] _ _ fX)
          have TW := hide tW
          have hz1 : g1 < (V36.setRow eX #[.slice (some ⟨g1, 0, none⟩) e.key.length k1, .int .u64 (e.seq : Nat), .int .i64 e.kind, .slice (some ⟨g2, 0, none⟩) e.val.length k2]).heap.size := by simpa using lt_of_heap fR1.choose_spec.1
          have hz2 : g2 < (V36.setRow eX #[.slice (some ⟨g1, 0, none⟩) e.key.length k1, .int .u64 (e.seq : Nat), .int .i64 e.kind, .slice (some ⟨g2, 0, none⟩) e.val.length k2]).heap.size := by simpa using lt_of_heap fR2.choose_spec.1
          have HB := hide (show w3.heap.size ≤ eX ∧ (w3.heap.size ≤ g1 ∧ g1 < (V36.setRow eX #[.slice (some ⟨g1, 0, none⟩) e.key.length k1, .int .u64 (e.seq : Nat), .int .i64 e.kind, .slice (some ⟨g2, 0, none⟩) e.val.length k2]).heap.size) ∧ (w3.heap.size ≤ g2 ∧ g2 < (V36.setRow eX #[.slice (some ⟨g1, 0, none⟩) e.key.length k1, .int .u64 (e.seq : Nat), .int .i64 e.kind, .slice (some ⟨g2, 0, none⟩) e.val.length k2]).heap.size) from ⟨by omega, ⟨by omega, hz1⟩, by omega, hz2⟩)
          refine hK.out _ _ (SK.out _ tW) (fun _ => ?_)
          clear hK K tW tS hz1 hz2 fR1 fR2 fX tV
          refine wpAnyH_done (by kernel_rfl) ?_ _
          go_wp2_with fail
          go_meet
          exact meet9 FX.out G1.out G2.out HB.out TW.out
      · skip
        go_simp
        have tN := (Turns.refl (fun _ => False) V27).alloc (.cells #[.slice none 0 0, .int .u64 0, .int .i64 0, .slice none 0 0] 29)
        have sX : V27.heap.size < (V27.alloc (.cells #[.slice none 0 0, .int .u64 0, .int .i64 0, .slice none 0 0] 29)).heap.size := by simp
        have fE2 := tN.heap fE2 (fun x => x)
        have fX := heap_alloc_new V27 (.cells #[.slice none 0 0, .int .u64 0, .int .i64 0, .slice none 0 0] 29)
        have bX : w3.heap.size ≤ V27.heap.size := tV.size
        have tV := tV.trans tN
        refine hK.out _ _ (SK.out _ tV) (fun _ => ?_)
        clear hK K tN
        generalize V27.alloc (.cells #[.slice none 0 0, .int .u64 0, .int .i64 0, .slice none 0 0] 29) = V37 at *
        generalize V27.heap.size = eX at *
        refine wpAnyH_ready (rs := [0]) (by kernel_rfl) (by simp) ?_
        refine AllReadyH.cons rfl (fun K hK => ?_) AllReadyH.nil
        go_simp
        have tN := (Turns.refl (fun _ => False) V37).alloc (.cells #[] 5)
        have sE1 : V37.heap.size < (V37.alloc (.cells #[] 5)).heap.size := by simp
        have fE2 := tN.heap fE2 (fun x => x)
        have fX := tN.heap fX (fun x => x)
        have fE1 := heap_alloc_new V37 (.cells #[] 5)
        have bE1 : w3.heap.size ≤ V37.heap.size := tV.size
        have tV := tV.trans tN
        refine hK.out _ _ (SK.out _ tV) (fun _ => ?_)
        clear hK K tN
        generalize V37.alloc (.cells #[] 5) = V38 at *
        generalize V37.heap.size = eE1 at *
        refine wpAnyH_ready (rs := [3]) (by kernel_rfl) (by simp) ?_
        refine AllReadyH.cons rfl (fun K hK => ?_) AllReadyH.nil
        obtain ⟨g1, k1, V39, hr, hrow, hcap1, tA, hgg1, hgl1⟩ := ap_own V38 eE1 ka e.key.length kc e.key fE1 (HK.out.quiet tV) hkn
        refine step_append_run rfl (.tmp 34) (.tmp 36) 26 rfl _ _ rfl rfl _ _ (hr _) 37 rfl ?_
        simp only [Act.put, List.setIfInBounds_toArray, List.set_cons_zero, List.set_cons_succ]
        have bV1 := tV.size
        have sV1 := tA.size
        have fE2 := tA.heap fE2 (by show ¬ eE2 = eE1; omega)
        have fX := tA.heap fX (by show ¬ eX = eE1; omega)
        have fR1 : RowB V39 g1 k1 e.key := hrow
        have tV := tV.andThen tA (fun k hk x => by subst x; omega)
        refine hK.out _ _ (SK.out _ tV) (fun _ => ?_)
        clear hK K tA hr hrow fE1
        generalize hz39 : V38.heap.size = z39 at *
        clear hz39
        refine wpAnyH_ready (rs := [11]) (by kernel_rfl) (by simp) ?_
        refine AllReadyH.cons rfl (fun K hK => ?_) AllReadyH.nil
        obtain ⟨g2, k2, V40, hr, hrow, hcap2, tA, hgg2, hgl2⟩ := ap_own V39 eE2 va e.val.length vc e.val fE2 (HV.out.quiet tV) hvn
        refine step_append_run rfl (.tmp 42) (.tmp 44) 26 rfl _ _ rfl rfl _ _ (hr _) 45 rfl ?_
        simp only [Act.put, List.setIfInBounds_toArray, List.set_cons_zero, List.set_cons_succ]
        have bV2 := tV.size
        have sV2 := tA.size
        have fX := tA.heap fX (by show ¬ eX = eE2; omega)
        have fR1 := RowC.turns fR1 tA (by show ¬ g1 = eE2; omega)
        have fR2 : RowB V40 g2 k2 e.val := hrow
        have tV := tV.andThen tA (fun k hk x => by subst x; omega)
        refine hK.out _ _ (SK.out _ tV) (fun _ => ?_)
        clear hK K tA hr hrow fE2
        generalize hz40 : V39.heap.size = z40 at *
        clear hz40
        refine wpAnyH_take (i := 12) (oi := { dst := some 46, op := Op.build 29 #[(0, Operand.tmp 37), (1, Operand.tmp 39), (2, Operand.tmp 41), (3, Operand.tmp 45)], type := 29, pos := "ref.go:45", after := #[{ on := 3, ground := Ground.data }, { on := 5, ground := Ground.data }, { on := 7, ground := Ground.data }, { on := 11, ground := Ground.data }], guard := none }) (v := .agg #[.slice (some ⟨g1, 0, none⟩) e.key.length k1, .int .u64 (e.seq : Nat), .int .i64 e.kind, .slice (some ⟨g2, 0, none⟩) e.val.length k2]) rfl (by kernel_rfl) (by kernel_rfl) (by kernel_rfl) (fun _ _ _ h => h) (Or.inl ⟨by rfl, ?_⟩) (SK.out _ tV) ?_
        · rintro w ⟨d0, d1, d2, d3⟩
          go_simp
        simp only [Act.put, List.setIfInBounds_toArray, List.set_cons_zero, List.set_cons_succ]
        refine wpAnyH_ready (rs := [14]) (by kernel_rfl) (by simp) ?_
        refine AllReadyH.cons rfl (fun K hK => ?_) AllReadyH.nil
        refine wp_store_row 29 (.tmp 9) (.tmp 46) rfl _ _ rfl rfl 29 _ fX info29 rfl (by simp [Value.oneCell']) ?_
        simp only [Act.put, List.setIfInBounds_toArray]
        have tW := tV.over (cs := #[.slice (some ⟨g1, 0, none⟩) e.key.length k1, .int .u64 (e.seq : Nat), .int .i64 e.kind, .slice (some ⟨g2, 0, none⟩) e.val.length k2]) (g := eX) (by omega)
        have tS : Turns (fun j => j = eX) V40 (V40.setRow eX #[.slice (some ⟨g1, 0, none⟩) e.key.length k1, .int .u64 (e.seq : Nat), .int .i64 e.kind, .slice (some ⟨g2, 0, none⟩) e.val.length k2]) := ⟨rfl, rfl, rfl, by simp, fun k _ hk => setRow_other _ _ _ _ hk⟩
        have G1 := hide ((RowB.bytes (c' := k1) fR1 rfl).turns tS (fun a n c e => by cases e; show ¬ g1 = eX; omega))
        have G2 := hide ((RowB.bytes (c' := k2) fR2 rfl).turns tS (fun a n c e => by cases e; show ¬ g2 = eX; omega))
        have FX := hide (setRow_heap _ _ _ #[.slice (some ⟨g1, 0, none⟩) e.key.length k1, .int .u64 (e.seq : Nat), .int .i64 e.kind, .slice (some ⟨g2, 0, none⟩) e.val.length k2] _ _ fX)
        have TW := hide tW
        have hz1 : g1 < (V40.setRow eX #[.slice (some ⟨g1, 0, none⟩) e.key.length k1, .int .u64 (e.seq : Nat), .int .i64 e.kind, .slice (some ⟨g2, 0, none⟩) e.val.length k2]).heap.size := by simpa using lt_of_heap fR1.choose_spec.1
        have hz2 : g2 < (V40.setRow eX #[.slice (some ⟨g1, 0, none⟩) e.key.length k1, .int .u64 (e.seq : Nat), .int .i64 e.kind, .slice (some ⟨g2, 0, none⟩) e.val.length k2]).heap.size := by simpa using lt_of_heap fR2.choose_spec.1
        have HB := hide (show w3.heap.size ≤ eX ∧ (w3.heap.size ≤ g1 ∧ g1 < (V40.setRow eX #[.slice (some ⟨g1, 0, none⟩) e.key.length k1, .int .u64 (e.seq : Nat), .int .i64 e.kind, .slice (some ⟨g2, 0, none⟩) e.val.length k2]).heap.size) ∧ (w3.heap.size ≤ g2 ∧ g2 < (V40.setRow eX #[.slice (some ⟨g1, 0, none⟩) e.key.length k1, .int .u64 (e.seq : Nat), .int .i64 e.kind, .slice (some ⟨g2, 0, none⟩) e.val.length k2]).heap.size) from ⟨by omega, ⟨by omega, hz1⟩, by omega, hz2⟩)
        refine hK.out _ _ (SK.out _ tW) (fun _ => ?_)
        clear hK K tW tS hz1 hz2 fR1 fR2 fX tV
        refine wpAnyH_done (by kernel_rfl) ?_ _
        go_wp2_with fail
        go_meet
        exact meet9 FX.out G1.out G2.out HB.out TW.out
    · skip
      go_simp
      have tN := (Turns.refl (fun _ => False) V0).alloc (.cells #[.slice none 0 0, .int .u64 0, .int .i64 0, .slice none 0 0] 29)
      have sX : V0.heap.size < (V0.alloc (.cells #[.slice none 0 0, .int .u64 0, .int .i64 0, .slice none 0 0] 29)).heap.size := by simp
      have fX := heap_alloc_new V0 (.cells #[.slice none 0 0, .int .u64 0, .int .i64 0, .slice none 0 0] 29)
      have bX : w3.heap.size ≤ V0.heap.size := tV.size
      have tV := tV.trans tN
      refine hK.out _ _ (SK.out _ tV) (fun _ => ?_)
      clear hK K tN
      generalize V0.alloc (.cells #[.slice none 0 0, .int .u64 0, .int .i64 0, .slice none 0 0] 29) = V41 at *
      generalize V0.heap.size = eX at *
      refine wpAnyH_ready (rs := [0, 8]) (by kernel_rfl) (by simp) ?_
      refine AllReadyH.cons rfl (fun K hK => ?_) (AllReadyH.cons rfl (fun K hK => ?_) AllReadyH.nil)
      · skip
        go_simp
        have tN := (Turns.refl (fun _ => False) V41).alloc (.cells #[] 5)
        have sE1 : V41.heap.size < (V41.alloc (.cells #[] 5)).heap.size := by simp
        have fX := tN.heap fX (fun x => x)
        have fE1 := heap_alloc_new V41 (.cells #[] 5)
        have bE1 : w3.heap.size ≤ V41.heap.size := tV.size
        have tV := tV.trans tN
        refine hK.out _ _ (SK.out _ tV) (fun _ => ?_)
        clear hK K tN
        generalize V41.alloc (.cells #[] 5) = V42 at *
        generalize V41.heap.size = eE1 at *
        refine wpAnyH_ready (rs := [3, 8]) (by kernel_rfl) (by simp) ?_
        refine AllReadyH.cons rfl (fun K hK => ?_) (AllReadyH.cons rfl (fun K hK => ?_) AllReadyH.nil)
        · skip
          obtain ⟨g1, k1, V43, hr, hrow, hcap1, tA, hgg1, hgl1⟩ := ap_own V42 eE1 ka e.key.length kc e.key fE1 (HK.out.quiet tV) hkn
          refine step_append_run rfl (.tmp 34) (.tmp 36) 26 rfl _ _ rfl rfl _ _ (hr _) 37 rfl ?_
          simp only [Act.put, List.setIfInBounds_toArray, List.set_cons_zero, List.set_cons_succ]
          have bV1 := tV.size
          have sV1 := tA.size
          have fX := tA.heap fX (by show ¬ eX = eE1; omega)
          have fR1 : RowB V43 g1 k1 e.key := hrow
          have tV := tV.andThen tA (fun k hk x => by subst x; omega)
          refine hK.out _ _ (SK.out _ tV) (fun _ => ?_)
          clear hK K tA hr hrow fE1
          generalize hz43 : V42.heap.size = z43 at *
          clear hz43
          refine wpAnyH_ready (rs := [8]) (by kernel_rfl) (by simp) ?_
          refine AllReadyH.cons rfl (fun K hK => ?_) AllReadyH.nil
          go_simp
          have tN := (Turns.refl (fun _ => False) V43).alloc (.cells #[] 5)
          have sE2 : V43.heap.size < (V43.alloc (.cells #[] 5)).heap.size := by simp
          have fX := tN.heap fX (fun x => x)
          have fR1 := RowC.turns fR1 tN (fun x => x)
          have fE2 := heap_alloc_new V43 (.cells #[] 5)
          have bE2 : w3.heap.size ≤ V43.heap.size := tV.size
          have tV := tV.trans tN
          refine hK.out _ _ (SK.out _ tV) (fun _ => ?_)
          clear hK K tN
          generalize V43.alloc (.cells #[] 5) = V44 at *
          generalize V43.heap.size = eE2 at *
          refine wpAnyH_ready (rs := [11]) (by kernel_rfl) (by simp) ?_
          refine AllReadyH.cons rfl (fun K hK => ?_) AllReadyH.nil
          obtain ⟨g2, k2, V45, hr, hrow, hcap2, tA, hgg2, hgl2⟩ := ap_own V44 eE2 va e.val.length vc e.val fE2 (HV.out.quiet tV) hvn
          refine step_append_run rfl (.tmp 42) (.tmp 44) 26 rfl _ _ rfl rfl _ _ (hr _) 45 rfl ?_
          simp only [Act.put, List.setIfInBounds_toArray, List.set_cons_zero, List.set_cons_succ]
          have bV2 := tV.size
          have sV2 := tA.size
          have fX := tA.heap fX (by show ¬ eX = eE2; omega)
          have fR1 := RowC.turns fR1 tA (by show ¬ g1 = eE2; omega)
          have fR2 : RowB V45 g2 k2 e.val := hrow
          have tV := tV.andThen tA (fun k hk x => by subst x; omega)
          refine hK.out _ _ (SK.out _ tV) (fun _ => ?_)
          clear hK K tA hr hrow fE2
          generalize hz45 : V44.heap.size = z45 at *
          clear hz45
          refine wpAnyH_take (i := 12) (oi := { dst := some 46, op := Op.build 29 #[(0, Operand.tmp 37), (1, Operand.tmp 39), (2, Operand.tmp 41), (3, Operand.tmp 45)], type := 29, pos := "ref.go:45", after := #[{ on := 3, ground := Ground.data }, { on := 5, ground := Ground.data }, { on := 7, ground := Ground.data }, { on := 11, ground := Ground.data }], guard := none }) (v := .agg #[.slice (some ⟨g1, 0, none⟩) e.key.length k1, .int .u64 (e.seq : Nat), .int .i64 e.kind, .slice (some ⟨g2, 0, none⟩) e.val.length k2]) rfl (by kernel_rfl) (by kernel_rfl) (by kernel_rfl) (fun _ _ _ h => h) (Or.inl ⟨by rfl, ?_⟩) (SK.out _ tV) ?_
          · rintro w ⟨d0, d1, d2, d3⟩
            go_simp
          simp only [Act.put, List.setIfInBounds_toArray, List.set_cons_zero, List.set_cons_succ]
          refine wpAnyH_ready (rs := [14]) (by kernel_rfl) (by simp) ?_
          refine AllReadyH.cons rfl (fun K hK => ?_) AllReadyH.nil
          refine wp_store_row 29 (.tmp 9) (.tmp 46) rfl _ _ rfl rfl 29 _ fX info29 rfl (by simp [Value.oneCell']) ?_
          simp only [Act.put, List.setIfInBounds_toArray]
          have tW := tV.over (cs := #[.slice (some ⟨g1, 0, none⟩) e.key.length k1, .int .u64 (e.seq : Nat), .int .i64 e.kind, .slice (some ⟨g2, 0, none⟩) e.val.length k2]) (g := eX) (by omega)
          have tS : Turns (fun j => j = eX) V45 (V45.setRow eX #[.slice (some ⟨g1, 0, none⟩) e.key.length k1, .int .u64 (e.seq : Nat), .int .i64 e.kind, .slice (some ⟨g2, 0, none⟩) e.val.length k2]) := ⟨rfl, rfl, rfl, by simp, fun k _ hk => setRow_other _ _ _ _ hk⟩
          have G1 := hide ((RowB.bytes (c' := k1) fR1 rfl).turns tS (fun a n c e => by cases e; show ¬ g1 = eX; omega))
          have G2 := hide ((RowB.bytes (c' := k2) fR2 rfl).turns tS (fun a n c e => by cases e; show ¬ g2 = eX; omega))
          have FX := hide (setRow_heap _ _ _ #[.slice (some ⟨g1, 0, none⟩) e.key.length k1, .int .u64 (e.seq : Nat), .int .i64 e.kind, .slice (some ⟨g2, 0, none⟩) e.val.length k2] _ _ fX)
          have TW := hide tW
          have hz1 : g1 < (V45.setRow eX #[.slice (some ⟨g1, 0, none⟩) e.key.length k1, .int .u64 (e.seq : Nat), .int .i64 e.kind, .slice (some ⟨g2, 0, none⟩) e.val.length k2]).heap.size := by simpa using lt_of_heap fR1.choose_spec.1
          have hz2 : g2 < (V45.setRow eX #[.slice (some ⟨g1, 0, none⟩) e.key.length k1, .int .u64 (e.seq : Nat), .int .i64 e.kind, .slice (some ⟨g2, 0, none⟩) e.val.length k2]).heap.size := by simpa using lt_of_heap fR2.choose_spec.1
          have HB := hide (show w3.heap.size ≤ eX ∧ (w3.heap.size ≤ g1 ∧ g1 < (V45.setRow eX #[.slice (some ⟨g1, 0, none⟩) e.key.length k1, .int .u64 (e.seq : Nat), .int .i64 e.kind, .slice (some ⟨g2, 0, none⟩) e.val.length k2]).heap.size) ∧ (w3.heap.size ≤ g2 ∧ g2 < (V45.setRow eX #[.slice (some ⟨g1, 0, none⟩) e.key.length k1, .int .u64 (e.seq : Nat), .int .i64 e.kind, .slice (some ⟨g2, 0, none⟩) e.val.length k2]).heap.size) from ⟨by omega, ⟨by omega, hz1⟩, by omega, hz2⟩)
          refine hK.out _ _ (SK.out _ tW) (fun _ => ?_)
          clear hK K tW tS hz1 hz2 fR1 fR2 fX tV
          refine wpAnyH_done (by kernel_rfl) ?_ _
          go_wp2_with fail
          go_meet
          exact meet9 FX.out G1.out G2.out HB.out TW.out
        · skip
          go_simp
          have tN := (Turns.refl (fun _ => False) V42).alloc (.cells #[] 5)
          have sE2 : V42.heap.size < (V42.alloc (.cells #[] 5)).heap.size := by simp
          have fX := tN.heap fX (fun x => x)
          have fE1 := tN.heap fE1 (fun x => x)
          have fE2 := heap_alloc_new V42 (.cells #[] 5)
          have bE2 : w3.heap.size ≤ V42.heap.size := tV.size
          have tV := tV.trans tN
          refine hK.out _ _ (SK.out _ tV) (fun _ => ?_)
          clear hK K tN
          generalize V42.alloc (.cells #[] 5) = V46 at *
          generalize V42.heap.size = eE2 at *
          refine wpAnyH_ready (rs := [3]) (by kernel_rfl) (by simp) ?_
          refine AllReadyH.cons rfl (fun K hK => ?_) AllReadyH.nil
          obtain ⟨g1, k1, V47, hr, hrow, hcap1, tA, hgg1, hgl1⟩ := ap_own V46 eE1 ka e.key.length kc e.key fE1 (HK.out.quiet tV) hkn
          refine step_append_run rfl (.tmp 34) (.tmp 36) 26 rfl _ _ rfl rfl _ _ (hr _) 37 rfl ?_
          simp only [Act.put, List.setIfInBounds_toArray, List.set_cons_zero, List.set_cons_succ]
          have bV1 := tV.size
          have sV1 := tA.size
          have fX := tA.heap fX (by show ¬ eX = eE1; omega)
          have fE2 := tA.heap fE2 (by show ¬ eE2 = eE1; omega)
          have fR1 : RowB V47 g1 k1 e.key := hrow
          have tV := tV.andThen tA (fun k hk x => by subst x; omega)
          refine hK.out _ _ (SK.out _ tV) (fun _ => ?_)
          clear hK K tA hr hrow fE1
          generalize hz47 : V46.heap.size = z47 at *
          clear hz47
          refine wpAnyH_ready (rs := [11]) (by kernel_rfl) (by simp) ?_
          refine AllReadyH.cons rfl (fun K hK => ?_) AllReadyH.nil
          obtain ⟨g2, k2, V48, hr, hrow, hcap2, tA, hgg2, hgl2⟩ := ap_own V47 eE2 va e.val.length vc e.val fE2 (HV.out.quiet tV) hvn
          refine step_append_run rfl (.tmp 42) (.tmp 44) 26 rfl _ _ rfl rfl _ _ (hr _) 45 rfl ?_
          simp only [Act.put, List.setIfInBounds_toArray, List.set_cons_zero, List.set_cons_succ]
          have bV2 := tV.size
          have sV2 := tA.size
          have fX := tA.heap fX (by show ¬ eX = eE2; omega)
          have fR1 := RowC.turns fR1 tA (by show ¬ g1 = eE2; omega)
          have fR2 : RowB V48 g2 k2 e.val := hrow
          have tV := tV.andThen tA (fun k hk x => by subst x; omega)
          refine hK.out _ _ (SK.out _ tV) (fun _ => ?_)
          clear hK K tA hr hrow fE2
          generalize hz48 : V47.heap.size = z48 at *
          clear hz48
          refine wpAnyH_take (i := 12) (oi := { dst := some 46, op := Op.build 29 #[(0, Operand.tmp 37), (1, Operand.tmp 39), (2, Operand.tmp 41), (3, Operand.tmp 45)], type := 29, pos := "ref.go:45", after := #[{ on := 3, ground := Ground.data }, { on := 5, ground := Ground.data }, { on := 7, ground := Ground.data }, { on := 11, ground := Ground.data }], guard := none }) (v := .agg #[.slice (some ⟨g1, 0, none⟩) e.key.length k1, .int .u64 (e.seq : Nat), .int .i64 e.kind, .slice (some ⟨g2, 0, none⟩) e.val.length k2]) rfl (by kernel_rfl) (by kernel_rfl) (by kernel_rfl) (fun _ _ _ h => h) (Or.inl ⟨by rfl, ?_⟩) (SK.out _ tV) ?_
          · rintro w ⟨d0, d1, d2, d3⟩
            go_simp
          simp only [Act.put, List.setIfInBounds_toArray, List.set_cons_zero, List.set_cons_succ]
          refine wpAnyH_ready (rs := [14]) (by kernel_rfl) (by simp) ?_
          refine AllReadyH.cons rfl (fun K hK => ?_) AllReadyH.nil
          refine wp_store_row 29 (.tmp 9) (.tmp 46) rfl _ _ rfl rfl 29 _ fX info29 rfl (by simp [Value.oneCell']) ?_
          simp only [Act.put, List.setIfInBounds_toArray]
          have tW := tV.over (cs := #[.slice (some ⟨g1, 0, none⟩) e.key.length k1, .int .u64 (e.seq : Nat), .int .i64 e.kind, .slice (some ⟨g2, 0, none⟩) e.val.length k2]) (g := eX) (by omega)
          have tS : Turns (fun j => j = eX) V48 (V48.setRow eX #[.slice (some ⟨g1, 0, none⟩) e.key.length k1, .int .u64 (e.seq : Nat), .int .i64 e.kind, .slice (some ⟨g2, 0, none⟩) e.val.length k2]) := ⟨rfl, rfl, rfl, by simp, fun k _ hk => setRow_other _ _ _ _ hk⟩
          have G1 := hide ((RowB.bytes (c' := k1) fR1 rfl).turns tS (fun a n c e => by cases e; show ¬ g1 = eX; omega))
          have G2 := hide ((RowB.bytes (c' := k2) fR2 rfl).turns tS (fun a n c e => by cases e; show ¬ g2 = eX; omega))
          have FX := hide (setRow_heap _ _ _ #[.slice (some ⟨g1, 0, none⟩) e.key.length k1, .int .u64 (e.seq : Nat), .int .i64 e.kind, .slice (some ⟨g2, 0, none⟩) e.val.length k2] _ _ fX)
          have TW := hide tW
          have hz1 : g1 < (V48.setRow eX #[.slice (some ⟨g1, 0, none⟩) e.key.length k1, .int .u64 (e.seq : Nat), .int .i64 e.kind, .slice (some ⟨g2, 0, none⟩) e.val.length k2]).heap.size := by simpa using lt_of_heap fR1.choose_spec.1
          have hz2 : g2 < (V48.setRow eX #[.slice (some ⟨g1, 0, none⟩) e.key.length k1, .int .u64 (e.seq : Nat), .int .i64 e.kind, .slice (some ⟨g2, 0, none⟩) e.val.length k2]).heap.size := by simpa using lt_of_heap fR2.choose_spec.1
          have HB := hide (show w3.heap.size ≤ eX ∧ (w3.heap.size ≤ g1 ∧ g1 < (V48.setRow eX #[.slice (some ⟨g1, 0, none⟩) e.key.length k1, .int .u64 (e.seq : Nat), .int .i64 e.kind, .slice (some ⟨g2, 0, none⟩) e.val.length k2]).heap.size) ∧ (w3.heap.size ≤ g2 ∧ g2 < (V48.setRow eX #[.slice (some ⟨g1, 0, none⟩) e.key.length k1, .int .u64 (e.seq : Nat), .int .i64 e.kind, .slice (some ⟨g2, 0, none⟩) e.val.length k2]).heap.size) from ⟨by omega, ⟨by omega, hz1⟩, by omega, hz2⟩)
          refine hK.out _ _ (SK.out _ tW) (fun _ => ?_)
          clear hK K tW tS hz1 hz2 fR1 fR2 fX tV
          refine wpAnyH_done (by kernel_rfl) ?_ _
          go_wp2_with fail
          go_meet
          exact meet9 FX.out G1.out G2.out HB.out TW.out
      · skip
        go_simp
        have tN := (Turns.refl (fun _ => False) V41).alloc (.cells #[] 5)
        have sE2 : V41.heap.size < (V41.alloc (.cells #[] 5)).heap.size := by simp
        have fX := tN.heap fX (fun x => x)
        have fE2 := heap_alloc_new V41 (.cells #[] 5)
        have bE2 : w3.heap.size ≤ V41.heap.size := tV.size
        have tV := tV.trans tN
        refine hK.out _ _ (SK.out _ tV) (fun _ => ?_)
        clear hK K tN
        generalize V41.alloc (.cells #[] 5) = V49 at *
        generalize V41.heap.size = eE2 at *
        refine wpAnyH_ready (rs := [0]) (by kernel_rfl) (by simp) ?_
        refine AllReadyH.cons rfl (fun K hK => ?_) AllReadyH.nil
        go_simp
        have tN := (Turns.refl (fun _ => False) V49).alloc (.cells #[] 5)
        have sE1 : V49.heap.size < (V49.alloc (.cells #[] 5)).heap.size := by simp
        have fX := tN.heap fX (fun x => x)
        have fE2 := tN.heap fE2 (fun x => x)
        have fE1 := heap_alloc_new V49 (.cells #[] 5)
        have bE1 : w3.heap.size ≤ V49.heap.size := tV.size
        have tV := tV.trans tN
        refine hK.out _ _ (SK.out _ tV) (fun _ => ?_)
        clear hK K tN
        generalize V49.alloc (.cells #[] 5) = V50 at *
        generalize V49.heap.size = eE1 at *
        refine wpAnyH_ready (rs := [3]) (by kernel_rfl) (by simp) ?_
        refine AllReadyH.cons rfl (fun K hK => ?_) AllReadyH.nil
        obtain ⟨g1, k1, V51, hr, hrow, hcap1, tA, hgg1, hgl1⟩ := ap_own V50 eE1 ka e.key.length kc e.key fE1 (HK.out.quiet tV) hkn
        refine step_append_run rfl (.tmp 34) (.tmp 36) 26 rfl _ _ rfl rfl _ _ (hr _) 37 rfl ?_
        simp only [Act.put, List.setIfInBounds_toArray, List.set_cons_zero, List.set_cons_succ]
        have bV1 := tV.size
        have sV1 := tA.size
        have fX := tA.heap fX (by show ¬ eX = eE1; omega)
        have fE2 := tA.heap fE2 (by show ¬ eE2 = eE1; omega)
        have fR1 : RowB V51 g1 k1 e.key := hrow
        have tV := tV.andThen tA (fun k hk x => by subst x; omega)
        refine hK.out _ _ (SK.out _ tV) (fun _ => ?_)
        clear hK K tA hr hrow fE1
        generalize hz51 : V50.heap.size = z51 at *
        clear hz51
        refine wpAnyH_ready (rs := [11]) (by kernel_rfl) (by simp) ?_
        refine AllReadyH.cons rfl (fun K hK => ?_) AllReadyH.nil
        obtain ⟨g2, k2, V52, hr, hrow, hcap2, tA, hgg2, hgl2⟩ := ap_own V51 eE2 va e.val.length vc e.val fE2 (HV.out.quiet tV) hvn
        refine step_append_run rfl (.tmp 42) (.tmp 44) 26 rfl _ _ rfl rfl _ _ (hr _) 45 rfl ?_
        simp only [Act.put, List.setIfInBounds_toArray, List.set_cons_zero, List.set_cons_succ]
        have bV2 := tV.size
        have sV2 := tA.size
        have fX := tA.heap fX (by show ¬ eX = eE2; omega)
        have fR1 := RowC.turns fR1 tA (by show ¬ g1 = eE2; omega)
        have fR2 : RowB V52 g2 k2 e.val := hrow
        have tV := tV.andThen tA (fun k hk x => by subst x; omega)
        refine hK.out _ _ (SK.out _ tV) (fun _ => ?_)
        clear hK K tA hr hrow fE2
        generalize hz52 : V51.heap.size = z52 at *
        clear hz52
        refine wpAnyH_take (i := 12) (oi := { dst := some 46, op := Op.build 29 #[(0, Operand.tmp 37), (1, Operand.tmp 39), (2, Operand.tmp 41), (3, Operand.tmp 45)], type := 29, pos := "ref.go:45", after := #[{ on := 3, ground := Ground.data }, { on := 5, ground := Ground.data }, { on := 7, ground := Ground.data }, { on := 11, ground := Ground.data }], guard := none }) (v := .agg #[.slice (some ⟨g1, 0, none⟩) e.key.length k1, .int .u64 (e.seq : Nat), .int .i64 e.kind, .slice (some ⟨g2, 0, none⟩) e.val.length k2]) rfl (by kernel_rfl) (by kernel_rfl) (by kernel_rfl) (fun _ _ _ h => h) (Or.inl ⟨by rfl, ?_⟩) (SK.out _ tV) ?_
        · rintro w ⟨d0, d1, d2, d3⟩
          go_simp
        simp only [Act.put, List.setIfInBounds_toArray, List.set_cons_zero, List.set_cons_succ]
        refine wpAnyH_ready (rs := [14]) (by kernel_rfl) (by simp) ?_
        refine AllReadyH.cons rfl (fun K hK => ?_) AllReadyH.nil
        refine wp_store_row 29 (.tmp 9) (.tmp 46) rfl _ _ rfl rfl 29 _ fX info29 rfl (by simp [Value.oneCell']) ?_
        simp only [Act.put, List.setIfInBounds_toArray]
        have tW := tV.over (cs := #[.slice (some ⟨g1, 0, none⟩) e.key.length k1, .int .u64 (e.seq : Nat), .int .i64 e.kind, .slice (some ⟨g2, 0, none⟩) e.val.length k2]) (g := eX) (by omega)
        have tS : Turns (fun j => j = eX) V52 (V52.setRow eX #[.slice (some ⟨g1, 0, none⟩) e.key.length k1, .int .u64 (e.seq : Nat), .int .i64 e.kind, .slice (some ⟨g2, 0, none⟩) e.val.length k2]) := ⟨rfl, rfl, rfl, by simp, fun k _ hk => setRow_other _ _ _ _ hk⟩
        have G1 := hide ((RowB.bytes (c' := k1) fR1 rfl).turns tS (fun a n c e => by cases e; show ¬ g1 = eX; omega))
        have G2 := hide ((RowB.bytes (c' := k2) fR2 rfl).turns tS (fun a n c e => by cases e; show ¬ g2 = eX; omega))
        have FX := hide (setRow_heap _ _ _ #[.slice (some ⟨g1, 0, none⟩) e.key.length k1, .int .u64 (e.seq : Nat), .int .i64 e.kind, .slice (some ⟨g2, 0, none⟩) e.val.length k2] _ _ fX)
        have TW := hide tW
        have hz1 : g1 < (V52.setRow eX #[.slice (some ⟨g1, 0, none⟩) e.key.length k1, .int .u64 (e.seq : Nat), .int .i64 e.kind, .slice (some ⟨g2, 0, none⟩) e.val.length k2]).heap.size := by simpa using lt_of_heap fR1.choose_spec.1
        have hz2 : g2 < (V52.setRow eX #[.slice (some ⟨g1, 0, none⟩) e.key.length k1, .int .u64 (e.seq : Nat), .int .i64 e.kind, .slice (some ⟨g2, 0, none⟩) e.val.length k2]).heap.size := by simpa using lt_of_heap fR2.choose_spec.1
        have HB := hide (show w3.heap.size ≤ eX ∧ (w3.heap.size ≤ g1 ∧ g1 < (V52.setRow eX #[.slice (some ⟨g1, 0, none⟩) e.key.length k1, .int .u64 (e.seq : Nat), .int .i64 e.kind, .slice (some ⟨g2, 0, none⟩) e.val.length k2]).heap.size) ∧ (w3.heap.size ≤ g2 ∧ g2 < (V52.setRow eX #[.slice (some ⟨g1, 0, none⟩) e.key.length k1, .int .u64 (e.seq : Nat), .int .i64 e.kind, .slice (some ⟨g2, 0, none⟩) e.val.length k2]).heap.size) from ⟨by omega, ⟨by omega, hz1⟩, by omega, hz2⟩)
        refine hK.out _ _ (SK.out _ tW) (fun _ => ?_)
        clear hK K tW tS hz1 hz2 fR1 fR2 fX tV
        refine wpAnyH_done (by kernel_rfl) ?_ _
        go_wp2_with fail
        go_meet
        exact meet9 FX.out G1.out G2.out HB.out TW.out
  case rest =>
    obtain ⟨g, x, rfl, hxe, hxh, hbox, hgb, hb1, hb2, hbi, t4⟩ := hcut
    obtain ⟨xb, xa, xc, xv, xvc, xe, xh⟩ := x
    have hxe' : xe = e := hxe
    subst xe
    obtain rfl : xh = H := hxh
    obtain ⟨w4, hw4⟩ : ∃ u, u = wc := ⟨wc, rfl⟩
    subst hw4
    have HO4 := hide (HO3.out.quiet t4)
    have T4 := hide t4
    have HX1 := hide hb1
    have HX2 := hide hb2
    have HBI := hide hbi
    have HEN := hide (show ∀ y, y ∈ l → Bytes w4 y.kv y.e.key ∧ Bytes w4 y.vv y.e.val from by
      obtain ⟨La, Ha, Lc, Hc, _, hEn, _⟩ := HO4.out
      exact fun y hy => hEn.bytes hy)
    obtain ⟨La, Ha, Lc, Hc, hbr, hEn, hHt, hLc, hHc, hoL, hoH, hQr, hQb⟩ := HO4.out
    have HBR := hide hbr
    have HBR4 := hide hbr
    have hrl := lt_of_heap hbr
    have HGX := hide hbox
    have hgl := lt_of_heap hbox
    have hrB : ¬ w4.heap.size ≤ r := by omega
    have hgB : ¬ w4.heap.size ≤ g := by omega
    have tr : Turns (fun k => w4.heap.size ≤ k) w4.drew w4.drew := Turns.refl _ _
    have SK := hide (fun u (t : Turns (fun k => w4.heap.size ≤ k) w4.drew u) => show u.cell? ⟨r, 0, none⟩ = some (.slice La l.length Lc) ∧ u.cell? ⟨g, 0, none⟩ = some (.slice xa e.key.length xc) ∧ u.cell? ⟨g, 1, none⟩ = some (.int .u64 (e.seq : Nat)) ∧ u.cell? ⟨g, 2, none⟩ = some (.int .i64 e.kind) ∧ u.cell? ⟨g, 3, none⟩ = some (.slice xv e.val.length xvc) from ⟨cell_of_row u r 0 _ 49 (0, 0) (t.heap HBR.out hrB), cell_of_row u g 0 _ 29 (0, 0) (t.heap HGX.out hgB), cell_of_row u g 1 _ 29 (0, 0) (t.heap HGX.out hgB), cell_of_row u g 2 _ 29 (0, 0) (t.heap HGX.out hgB), cell_of_row u g 3 _ 29 (0, 0) (t.heap HGX.out hgB)⟩)
    obtain ⟨sr1, sr3⟩ := parts hEn rfl hLc (by rcases hoL with h | ⟨b, off, h, hl, _⟩; exact .inl h; exact .inr ⟨b, off, h, hl⟩) i hipl
    obtain ⟨⟨gX1, cX1, WX1, qX1, hX1, tX1, gX2, cX2, WX2, gX3, cX3, WX3, qX2, qX3, rowX, hgX, hcX, tX2, tX3⟩, ⟨gY1, cY1, WY1, qY1, tY1, gY2, cY2, WY2, gY3, cY3, WY3, qY2, qY3, rowY, hgY, hcY, tY2, tY3⟩, ⟨gZ1, cZ1, WZ1, qZ1, tZ1, gZ2, cZ2, WZ2, gZ3, cZ3, WZ3, qZ2, qZ3, rowZ, hgZ, hcZ, tZ2, tZ3⟩⟩ := ins_orders (B := w4.heap.size) (W := w4.drew) (l := l) (s := (⟨xb, xa, xc, xv, xvc, e, xh⟩ : Tow)) (i := i) (x1 := .slice La i Lc) (x3 := dropV La l.length Lc i) hipl (by omega) (Nat.le_refl _) (fun V t => sr1 V ((Turns.refl _ w4).drew.trans t)) (fun V t => sr3 V ((Turns.refl _ w4).drew.trans t))
    have TE := hide (tr.alloc (.cells #[] 29))
    have TES := hide ((tr.alloc (.cells #[] 29)).alloc (.cells #[.slice xa e.key.length xc, .int .u64 (e.seq : Nat), .int .i64 e.kind, .slice xv e.val.length xvc] 29))
    have TS := hide (tr.alloc (.cells #[.slice xa e.key.length xc, .int .u64 (e.seq : Nat), .int .i64 e.kind, .slice xv e.val.length xvc] 29))
    have TSE := hide ((tr.alloc (.cells #[.slice xa e.key.length xc, .int .u64 (e.seq : Nat), .int .i64 e.kind, .slice xv e.val.length xvc] 29)).alloc (.cells #[] 29))
    have TX1 := hide tX1
    have TX1S := hide (tX1.alloc (.cells #[.slice xa e.key.length xc, .int .u64 (e.seq : Nat), .int .i64 e.kind, .slice xv e.val.length xvc] 29))
    have TX2 := hide tX2
    have TX3 := hide tX3
    have TY1 := hide tY1
    have TY2 := hide tY2
    have TY3 := hide tY3
    have TZ1 := hide tZ1
    have TZ2 := hide tZ2
    have TZ3 := hide tZ3
    have ROWX := hide rowX
    have ROWY := hide rowY
    have ROWZ := hide rowZ
    clear tX1 tX2 tX3 tY1 tY2 tY3 tZ1 tZ2 tZ3 rowX rowY rowZ
    have HHT := hide hHt
    have HOL := hide hoL
    have HOH := hide hoH
    have HQ := hide (And.intro hQr hQb)
    have HIPL := hide hipl
    clear hX1 sr1 sr3 hEn hHt hbr hbox hb1 hb2 hbi t4 hoL hoH hQr hQb
    have y0 : (0 : Int) ≤ (i : Int) := by omega
    have y1 : (i : Int) ≤ (l.length : Int) := by omega
    have y2 : (i : Int) ≤ (Lc : Int) := by omega
    have y3 : (i : Int) ≤ (Hc : Int) := by omega
    go_upto_region 10 with (fail)
    go_cut [47] from 10 (fun _ wx => Meet10 w4 wx r (ins l i ⟨xb, xa, xc, xv, xvc, e, xh⟩) l.length Ha Hc)
    case first =>
      rename_i kk rest jj kk' m1 m2
      clear rest
      refine wp_region_tail_drew (S := fun w' => w'.cell? ⟨r, 0, none⟩ = some (.slice La l.length Lc) ∧ w'.cell? ⟨g, 0, none⟩ = some (.slice xa e.key.length xc) ∧ w'.cell? ⟨g, 1, none⟩ = some (.int .u64 (e.seq : Nat)) ∧ w'.cell? ⟨g, 2, none⟩ = some (.int .i64 e.kind) ∧ w'.cell? ⟨g, 3, none⟩ = some (.slice xv e.val.length xvc)) (by kernel_rfl) (SK.out _ tr) (fun _ => ?_)
      change wpAnyT _ _ _ _ _ 22 (Array.replicate 22 false) _ _
      refine wpAnyT_take 19 (i := 0) (oi := { dst := some 47, op := Op.move (Operand.tmp 0), type := 39, pos := "ref.go:46", after := #[], guard := none }) (v := .pointer (some ⟨r, 0, none⟩)) rfl (by kernel_rfl) (by kernel_rfl) (by kernel_rfl) (by kernel_rfl) (fun _ _ _ h => h) (Or.inl ⟨by rfl, ?_⟩) (SK.out _ tr) ?_
      · rintro w ⟨r0, d0, d1, d2, d3⟩
        go_simp
      simp only [Act.put, List.setIfInBounds_toArray, List.set_cons_zero, List.set_cons_succ]
      refine wpAnyT_take 3 (i := 2) (oi := { dst := some 49, op := Op.move (Operand.tmp 0), type := 39, pos := "ref.go:46", after := #[], guard := none }) (v := .pointer (some ⟨r, 0, none⟩)) rfl (by kernel_rfl) (by kernel_rfl) (by kernel_rfl) (by kernel_rfl) (fun _ _ _ h => h) (Or.inl ⟨by rfl, ?_⟩) (SK.out _ tr) ?_
      · rintro w ⟨r0, d0, d1, d2, d3⟩
        go_simp
      simp only [Act.put, List.setIfInBounds_toArray, List.set_cons_zero, List.set_cons_succ]
      refine wpAnyT_take 4 (i := 3) (oi := { dst := some 50, op := Op.nilCheck (Operand.tmp 49), type := 0, pos := "ref.go:46", after := #[{ on := 2, ground := Ground.data }], guard := none }) (v := .pointer (some ⟨r, 0, none⟩)) rfl (by kernel_rfl) (by kernel_rfl) (by kernel_rfl) (by kernel_rfl) (fun _ _ _ h => h) (Or.inl ⟨by rfl, ?_⟩) (SK.out _ tr) ?_
      · rintro w ⟨r0, d0, d1, d2, d3⟩
        go_simp
      simp only [Act.put, List.setIfInBounds_toArray, List.set_cons_zero, List.set_cons_succ]
      refine wpAnyT_take 5 (i := 4) (oi := { dst := some 51, op := Op.fieldAddr 49 (Operand.tmp 50) 0, type := 0, pos := "ref.go:46", after := #[{ on := 3, ground := Ground.data }], guard := none }) (v := .pointer (some ⟨r, 0, none⟩)) rfl (by kernel_rfl) (by kernel_rfl) (by kernel_rfl) (by kernel_rfl) (fun _ _ _ h => h) (Or.inl ⟨by rfl, ?_⟩) (SK.out _ tr) ?_
      · rintro w ⟨r0, d0, d1, d2, d3⟩
        go_simp
      simp only [Act.put, List.setIfInBounds_toArray, List.set_cons_zero, List.set_cons_succ]
      refine wpAnyT_take 7 (i := 5) (oi := { dst := some 52, op := Op.load 33 (Operand.tmp 51), type := 33, pos := "ref.go:46", after := #[{ on := 4, ground := Ground.data }], guard := none }) (v := .slice La l.length Lc) rfl (by kernel_rfl) (by kernel_rfl) (by kernel_rfl) (by kernel_rfl) (fun _ _ _ h => h) (Or.inl ⟨by rfl, ?_⟩) (SK.out _ tr) ?_
      · rintro w ⟨r0, d0, d1, d2, d3⟩
        go_simp
      simp only [Act.put, List.setIfInBounds_toArray, List.set_cons_zero, List.set_cons_succ]
      refine wpAnyT_take 7 (i := 6) (oi := { dst := some 53, op := Op.move (Operand.tmp 8), type := 3, pos := "ref.go:46", after := #[], guard := none }) (v := .int .i64 (i : Nat)) rfl (by kernel_rfl) (by kernel_rfl) (by kernel_rfl) (by kernel_rfl) (fun _ _ _ h => h) (Or.inl ⟨by rfl, ?_⟩) (SK.out _ tr) ?_
      · rintro w ⟨r0, d0, d1, d2, d3⟩
        go_simp
      simp only [Act.put, List.setIfInBounds_toArray, List.set_cons_zero, List.set_cons_succ]
      refine wpAnyT_take 8 (i := 7) (oi := { dst := some 54, op := Op.slice 33 (Operand.tmp 52) none (some (Operand.tmp 53)) none, type := 33, pos := "ref.go:46", after := #[{ on := 5, ground := Ground.data }, { on := 6, ground := Ground.data }], guard := none }) (v := .slice La i Lc) rfl (by kernel_rfl) (by kernel_rfl) (by kernel_rfl) (by kernel_rfl) (fun _ _ _ h => h) (Or.inl ⟨by rfl, ?_⟩) (SK.out _ tr) ?_
      · rintro w ⟨r0, d0, d1, d2, d3⟩
        go_simp
      simp only [Act.put, List.setIfInBounds_toArray, List.set_cons_zero, List.set_cons_succ]
      refine wpAnyT_take 10 (i := 9) (oi := { dst := some 56, op := Op.load 29 (Operand.tmp 9), type := 29, pos := "ref.go:46", after := #[], guard := none }) (v := .agg #[.slice xa e.key.length xc, .int .u64 (e.seq : Nat), .int .i64 e.kind, .slice xv e.val.length xvc]) rfl (by kernel_rfl) (by kernel_rfl) (by kernel_rfl) (by kernel_rfl) (fun _ _ _ h => h) (Or.inl ⟨by rfl, ?_⟩) (SK.out _ tr) ?_
      · rintro w ⟨r0, d0, d1, d2, d3⟩
        go_simp
      simp only [Act.put, List.setIfInBounds_toArray, List.set_cons_zero, List.set_cons_succ]
      refine wpAnyT_take 13 (i := 12) (oi := { dst := some 59, op := Op.move (Operand.tmp 0), type := 39, pos := "ref.go:46", after := #[], guard := none }) (v := .pointer (some ⟨r, 0, none⟩)) rfl (by kernel_rfl) (by kernel_rfl) (by kernel_rfl) (by kernel_rfl) (fun _ _ _ h => h) (Or.inl ⟨by rfl, ?_⟩) (SK.out _ tr) ?_
      · rintro w ⟨r0, d0, d1, d2, d3⟩
        go_simp
      simp only [Act.put, List.setIfInBounds_toArray, List.set_cons_zero, List.set_cons_succ]
      refine wpAnyT_take 14 (i := 13) (oi := { dst := some 60, op := Op.nilCheck (Operand.tmp 59), type := 0, pos := "ref.go:46", after := #[{ on := 12, ground := Ground.data }], guard := none }) (v := .pointer (some ⟨r, 0, none⟩)) rfl (by kernel_rfl) (by kernel_rfl) (by kernel_rfl) (by kernel_rfl) (fun _ _ _ h => h) (Or.inl ⟨by rfl, ?_⟩) (SK.out _ tr) ?_
      · rintro w ⟨r0, d0, d1, d2, d3⟩
        go_simp
      simp only [Act.put, List.setIfInBounds_toArray, List.set_cons_zero, List.set_cons_succ]
      refine wpAnyT_take 15 (i := 14) (oi := { dst := some 61, op := Op.fieldAddr 49 (Operand.tmp 60) 0, type := 0, pos := "ref.go:46", after := #[{ on := 13, ground := Ground.data }], guard := none }) (v := .pointer (some ⟨r, 0, none⟩)) rfl (by kernel_rfl) (by kernel_rfl) (by kernel_rfl) (by kernel_rfl) (fun _ _ _ h => h) (Or.inl ⟨by rfl, ?_⟩) (SK.out _ tr) ?_
      · rintro w ⟨r0, d0, d1, d2, d3⟩
        go_simp
      simp only [Act.put, List.setIfInBounds_toArray, List.set_cons_zero, List.set_cons_succ]
      refine wpAnyT_take 17 (i := 15) (oi := { dst := some 62, op := Op.load 33 (Operand.tmp 61), type := 33, pos := "ref.go:46", after := #[{ on := 14, ground := Ground.data }], guard := none }) (v := .slice La l.length Lc) rfl (by kernel_rfl) (by kernel_rfl) (by kernel_rfl) (by kernel_rfl) (fun _ _ _ h => h) (Or.inl ⟨by rfl, ?_⟩) (SK.out _ tr) ?_
      · rintro w ⟨r0, d0, d1, d2, d3⟩
        go_simp
      simp only [Act.put, List.setIfInBounds_toArray, List.set_cons_zero, List.set_cons_succ]
      refine wpAnyT_take 17 (i := 16) (oi := { dst := some 63, op := Op.move (Operand.tmp 8), type := 3, pos := "ref.go:46", after := #[], guard := none }) (v := .int .i64 (i : Nat)) rfl (by kernel_rfl) (by kernel_rfl) (by kernel_rfl) (by kernel_rfl) (fun _ _ _ h => h) (Or.inl ⟨by rfl, ?_⟩) (SK.out _ tr) ?_
      · rintro w ⟨r0, d0, d1, d2, d3⟩
        go_simp
      simp only [Act.put, List.setIfInBounds_toArray, List.set_cons_zero, List.set_cons_succ]
      refine wpAnyT_take 18 (i := 17) (oi := { dst := some 64, op := Op.slice 33 (Operand.tmp 62) (some (Operand.tmp 63)) none none, type := 33, pos := "ref.go:46", after := #[{ on := 15, ground := Ground.data }, { on := 16, ground := Ground.data }], guard := none }) (v := dropV La l.length Lc i) rfl (by kernel_rfl) (by kernel_rfl) (by kernel_rfl) (by kernel_rfl) (fun _ _ _ h => h) (Or.inl ⟨by rfl, ?_⟩) (SK.out _ tr) ?_
      · rintro w ⟨r0, d0, d1, d2, d3⟩
        unfold dropV
        go_simp
      simp only [Act.put, List.setIfInBounds_toArray, List.set_cons_zero, List.set_cons_succ]
      refine wpAnyT_ready (rs := [1, 10]) (by kernel_rfl) (by simp) ?_
      refine AllReadyT.cons rfl (fun K hK => ?_) (AllReadyT.cons rfl (fun K hK => ?_) AllReadyT.nil)
      · skip
        go_simp
        refine hK.out _ _ (SK.out _ TE.out) (fun _ => ?_)
        clear hK K
        refine wpAnyT_ready (rs := [8, 10]) (by kernel_rfl) (by simp) ?_
        refine AllReadyT.cons rfl (fun K hK => ?_) (AllReadyT.cons rfl (fun K hK => ?_) AllReadyT.nil)
        · skip
          refine step_append_run rfl (.tmp 48) (.tmp 54) 33 rfl _ _ rfl rfl _ _ (qX1 _) 55 rfl ?_
          simp only [Act.put, List.setIfInBounds_toArray, List.set_cons_zero, List.set_cons_succ]
          refine hK.out _ _ (SK.out _ TX1.out) (fun _ => ?_)
          clear hK K
          refine wpAnyT_ready (rs := [10]) (by kernel_rfl) (by simp) ?_
          refine AllReadyT.cons rfl (fun K hK => ?_) AllReadyT.nil
          go_simp
          refine hK.out _ _ (SK.out _ TX1S.out) (fun _ => ?_)
          clear hK K
          refine wpAnyT_ready (rs := [11]) (by kernel_rfl) (by simp) ?_
          refine AllReadyT.cons rfl (fun K hK => ?_) AllReadyT.nil
          refine step_append_run rfl (.tmp 55) (.tmp 57) 33 rfl _ _ rfl rfl _ _ (qX2 _) 58 rfl ?_
          simp only [Act.put, List.setIfInBounds_toArray, List.set_cons_zero, List.set_cons_succ]
          refine hK.out _ _ (SK.out _ TX2.out) (fun _ => ?_)
          clear hK K
          refine wpAnyT_ready (rs := [18]) (by kernel_rfl) (by simp) ?_
          refine AllReadyT.cons rfl (fun K hK => ?_) AllReadyT.nil
          refine step_append_run rfl (.tmp 58) (.tmp 64) 33 rfl _ _ rfl rfl _ _ (qX3 _) 65 rfl ?_
          simp only [Act.put, List.setIfInBounds_toArray, List.set_cons_zero, List.set_cons_succ]
          refine hK.out _ _ (SK.out _ TX3.out) (fun _ => ?_)
          clear hK K
          refine wpAnyT_take 20 (i := 19) (oi := { dst := some 66, op := Op.nilCheck (Operand.tmp 47), type := 0, pos := "ref.go:46", after := #[{ on := 0, ground := Ground.data }, { on := 0, ground := Ground.phase }, { on := 1, ground := Ground.phase }, { on := 2, ground := Ground.phase }, { on := 3, ground := Ground.phase }, { on := 4, ground := Ground.phase }, { on := 5, ground := Ground.phase }, { on := 6, ground := Ground.phase }, { on := 7, ground := Ground.phase }, { on := 8, ground := Ground.phase }, { on := 9, ground := Ground.phase }, { on := 10, ground := Ground.phase }, { on := 11, ground := Ground.phase }, { on := 12, ground := Ground.phase }, { on := 13, ground := Ground.phase }, { on := 14, ground := Ground.phase }, { on := 15, ground := Ground.phase }, { on := 16, ground := Ground.phase }, { on := 17, ground := Ground.phase }, { on := 18, ground := Ground.phase }], guard := none }) (v := .pointer (some ⟨r, 0, none⟩)) rfl (by kernel_rfl) (by kernel_rfl) (by kernel_rfl) (by kernel_rfl) (fun _ _ _ h => h) (Or.inl ⟨by rfl, ?_⟩) (SK.out _ TX3.out) ?_
          · rintro w ⟨r0, d0, d1, d2, d3⟩
            go_simp
          simp only [Act.put, List.setIfInBounds_toArray, List.set_cons_zero, List.set_cons_succ]
          refine wpAnyT_take 21 (i := 20) (oi := { dst := some 67, op := Op.fieldAddr 49 (Operand.tmp 66) 0, type := 0, pos := "ref.go:46", after := #[{ on := 19, ground := Ground.data }, { on := 0, ground := Ground.phase }, { on := 1, ground := Ground.phase }, { on := 2, ground := Ground.phase }, { on := 3, ground := Ground.phase }, { on := 4, ground := Ground.phase }, { on := 5, ground := Ground.phase }, { on := 6, ground := Ground.phase }, { on := 7, ground := Ground.phase }, { on := 8, ground := Ground.phase }, { on := 9, ground := Ground.phase }, { on := 10, ground := Ground.phase }, { on := 11, ground := Ground.phase }, { on := 12, ground := Ground.phase }, { on := 13, ground := Ground.phase }, { on := 14, ground := Ground.phase }, { on := 15, ground := Ground.phase }, { on := 16, ground := Ground.phase }, { on := 17, ground := Ground.phase }, { on := 18, ground := Ground.phase }], guard := none }) (v := .pointer (some ⟨r, 0, none⟩)) rfl (by kernel_rfl) (by kernel_rfl) (by kernel_rfl) (by kernel_rfl) (fun _ _ _ h => h) (Or.inl ⟨by rfl, ?_⟩) (SK.out _ TX3.out) ?_
          · rintro w ⟨r0, d0, d1, d2, d3⟩
            go_simp
          simp only [Act.put, List.setIfInBounds_toArray, List.set_cons_zero, List.set_cons_succ]
          refine wpAnyT_ready (rs := [21]) (by kernel_rfl) (by simp) ?_
          refine AllReadyT.last rfl (by kernel_rfl) (by kernel_rfl) (fun K hK => ?_)
          have hbr := TX3.out.heap HBR.out hrB
          have q0 := cell_of_row _ r 0 _ 49 (0, 0) hbr
          have f0 := frozen_of_row _ r 0 _ 49 hbr
          have MM := hide (meet10 TX3.out hbr ROWX.out hgX hcX hrl)
          clear hbr
          go_simp
          refine hK.out _ _ ?_
          clear hK K
          go_wp2_with fail
          go_meet
          exact MM.out
        · skip
          go_simp
          refine hK.out _ _ (SK.out _ TES.out) (fun _ => ?_)
          clear hK K
          refine wpAnyT_ready (rs := [8]) (by kernel_rfl) (by simp) ?_
          refine AllReadyT.cons rfl (fun K hK => ?_) AllReadyT.nil
          refine step_append_run rfl (.tmp 48) (.tmp 54) 33 rfl _ _ rfl rfl _ _ (qY1 _) 55 rfl ?_
          simp only [Act.put, List.setIfInBounds_toArray, List.set_cons_zero, List.set_cons_succ]
          refine hK.out _ _ (SK.out _ TY1.out) (fun _ => ?_)
          clear hK K
          refine wpAnyT_ready (rs := [11]) (by kernel_rfl) (by simp) ?_
          refine AllReadyT.cons rfl (fun K hK => ?_) AllReadyT.nil
          refine step_append_run rfl (.tmp 55) (.tmp 57) 33 rfl _ _ rfl rfl _ _ (qY2 _) 58 rfl ?_
          simp only [Act.put, List.setIfInBounds_toArray, List.set_cons_zero, List.set_cons_succ]
          refine hK.out _ _ (SK.out _ TY2.out) (fun _ => ?_)
          clear hK K
          refine wpAnyT_ready (rs := [18]) (by kernel_rfl) (by simp) ?_
          refine AllReadyT.cons rfl (fun K hK => ?_) AllReadyT.nil
          refine step_append_run rfl (.tmp 58) (.tmp 64) 33 rfl _ _ rfl rfl _ _ (qY3 _) 65 rfl ?_
          simp only [Act.put, List.setIfInBounds_toArray, List.set_cons_zero, List.set_cons_succ]
          refine hK.out _ _ (SK.out _ TY3.out) (fun _ => ?_)
          clear hK K
          refine wpAnyT_take 20 (i := 19) (oi := { dst := some 66, op := Op.nilCheck (Operand.tmp 47), type := 0, pos := "ref.go:46", after := #[{ on := 0, ground := Ground.data }, { on := 0, ground := Ground.phase }, { on := 1, ground := Ground.phase }, { on := 2, ground := Ground.phase }, { on := 3, ground := Ground.phase }, { on := 4, ground := Ground.phase }, { on := 5, ground := Ground.phase }, { on := 6, ground := Ground.phase }, { on := 7, ground := Ground.phase }, { on := 8, ground := Ground.phase }, { on := 9, ground := Ground.phase }, { on := 10, ground := Ground.phase }, { on := 11, ground := Ground.phase }, { on := 12, ground := Ground.phase }, { on := 13, ground := Ground.phase }, { on := 14, ground := Ground.phase }, { on := 15, ground := Ground.phase }, { on := 16, ground := Ground.phase }, { on := 17, ground := Ground.phase }, { on := 18, ground := Ground.phase }], guard := none }) (v := .pointer (some ⟨r, 0, none⟩)) rfl (by kernel_rfl) (by kernel_rfl) (by kernel_rfl) (by kernel_rfl) (fun _ _ _ h => h) (Or.inl ⟨by rfl, ?_⟩) (SK.out _ TY3.out) ?_
          · rintro w ⟨r0, d0, d1, d2, d3⟩
            go_simp
          simp only [Act.put, List.setIfInBounds_toArray, List.set_cons_zero, List.set_cons_succ]
          refine wpAnyT_take 21 (i := 20) (oi := { dst := some 67, op := Op.fieldAddr 49 (Operand.tmp 66) 0, type := 0, pos := "ref.go:46", after := #[{ on := 19, ground := Ground.data }, { on := 0, ground := Ground.phase }, { on := 1, ground := Ground.phase }, { on := 2, ground := Ground.phase }, { on := 3, ground := Ground.phase }, { on := 4, ground := Ground.phase }, { on := 5, ground := Ground.phase }, { on := 6, ground := Ground.phase }, { on := 7, ground := Ground.phase }, { on := 8, ground := Ground.phase }, { on := 9, ground := Ground.phase }, { on := 10, ground := Ground.phase }, { on := 11, ground := Ground.phase }, { on := 12, ground := Ground.phase }, { on := 13, ground := Ground.phase }, { on := 14, ground := Ground.phase }, { on := 15, ground := Ground.phase }, { on := 16, ground := Ground.phase }, { on := 17, ground := Ground.phase }, { on := 18, ground := Ground.phase }], guard := none }) (v := .pointer (some ⟨r, 0, none⟩)) rfl (by kernel_rfl) (by kernel_rfl) (by kernel_rfl) (by kernel_rfl) (fun _ _ _ h => h) (Or.inl ⟨by rfl, ?_⟩) (SK.out _ TY3.out) ?_
          · rintro w ⟨r0, d0, d1, d2, d3⟩
            go_simp
          simp only [Act.put, List.setIfInBounds_toArray, List.set_cons_zero, List.set_cons_succ]
          refine wpAnyT_ready (rs := [21]) (by kernel_rfl) (by simp) ?_
          refine AllReadyT.last rfl (by kernel_rfl) (by kernel_rfl) (fun K hK => ?_)
          have hbr := TY3.out.heap HBR.out hrB
          have q0 := cell_of_row _ r 0 _ 49 (0, 0) hbr
          have f0 := frozen_of_row _ r 0 _ 49 hbr
          have MM := hide (meet10 TY3.out hbr ROWY.out hgY hcY hrl)
          clear hbr
          go_simp
          refine hK.out _ _ ?_
          clear hK K
          go_wp2_with fail
          go_meet
          exact MM.out
      · skip
        go_simp
        refine hK.out _ _ (SK.out _ TS.out) (fun _ => ?_)
        clear hK K
        refine wpAnyT_ready (rs := [1]) (by kernel_rfl) (by simp) ?_
        refine AllReadyT.cons rfl (fun K hK => ?_) AllReadyT.nil
        go_simp
        refine hK.out _ _ (SK.out _ TSE.out) (fun _ => ?_)
        clear hK K
        refine wpAnyT_ready (rs := [8]) (by kernel_rfl) (by simp) ?_
        refine AllReadyT.cons rfl (fun K hK => ?_) AllReadyT.nil
        refine step_append_run rfl (.tmp 48) (.tmp 54) 33 rfl _ _ rfl rfl _ _ (qZ1 _) 55 rfl ?_
        simp only [Act.put, List.setIfInBounds_toArray, List.set_cons_zero, List.set_cons_succ]
        refine hK.out _ _ (SK.out _ TZ1.out) (fun _ => ?_)
        clear hK K
        refine wpAnyT_ready (rs := [11]) (by kernel_rfl) (by simp) ?_
        refine AllReadyT.cons rfl (fun K hK => ?_) AllReadyT.nil
        refine step_append_run rfl (.tmp 55) (.tmp 57) 33 rfl _ _ rfl rfl _ _ (qZ2 _) 58 rfl ?_
        simp only [Act.put, List.setIfInBounds_toArray, List.set_cons_zero, List.set_cons_succ]
        refine hK.out _ _ (SK.out _ TZ2.out) (fun _ => ?_)
        clear hK K
        refine wpAnyT_ready (rs := [18]) (by kernel_rfl) (by simp) ?_
        refine AllReadyT.cons rfl (fun K hK => ?_) AllReadyT.nil
        refine step_append_run rfl (.tmp 58) (.tmp 64) 33 rfl _ _ rfl rfl _ _ (qZ3 _) 65 rfl ?_
        simp only [Act.put, List.setIfInBounds_toArray, List.set_cons_zero, List.set_cons_succ]
        refine hK.out _ _ (SK.out _ TZ3.out) (fun _ => ?_)
        clear hK K
        refine wpAnyT_take 20 (i := 19) (oi := { dst := some 66, op := Op.nilCheck (Operand.tmp 47), type := 0, pos := "ref.go:46", after := #[{ on := 0, ground := Ground.data }, { on := 0, ground := Ground.phase }, { on := 1, ground := Ground.phase }, { on := 2, ground := Ground.phase }, { on := 3, ground := Ground.phase }, { on := 4, ground := Ground.phase }, { on := 5, ground := Ground.phase }, { on := 6, ground := Ground.phase }, { on := 7, ground := Ground.phase }, { on := 8, ground := Ground.phase }, { on := 9, ground := Ground.phase }, { on := 10, ground := Ground.phase }, { on := 11, ground := Ground.phase }, { on := 12, ground := Ground.phase }, { on := 13, ground := Ground.phase }, { on := 14, ground := Ground.phase }, { on := 15, ground := Ground.phase }, { on := 16, ground := Ground.phase }, { on := 17, ground := Ground.phase }, { on := 18, ground := Ground.phase }], guard := none }) (v := .pointer (some ⟨r, 0, none⟩)) rfl (by kernel_rfl) (by kernel_rfl) (by kernel_rfl) (by kernel_rfl) (fun _ _ _ h => h) (Or.inl ⟨by rfl, ?_⟩) (SK.out _ TZ3.out) ?_
        · rintro w ⟨r0, d0, d1, d2, d3⟩
          go_simp
        simp only [Act.put, List.setIfInBounds_toArray, List.set_cons_zero, List.set_cons_succ]
        refine wpAnyT_take 21 (i := 20) (oi := { dst := some 67, op := Op.fieldAddr 49 (Operand.tmp 66) 0, type := 0, pos := "ref.go:46", after := #[{ on := 19, ground := Ground.data }, { on := 0, ground := Ground.phase }, { on := 1, ground := Ground.phase }, { on := 2, ground := Ground.phase }, { on := 3, ground := Ground.phase }, { on := 4, ground := Ground.phase }, { on := 5, ground := Ground.phase }, { on := 6, ground := Ground.phase }, { on := 7, ground := Ground.phase }, { on := 8, ground := Ground.phase }, { on := 9, ground := Ground.phase }, { on := 10, ground := Ground.phase }, { on := 11, ground := Ground.phase }, { on := 12, ground := Ground.phase }, { on := 13, ground := Ground.phase }, { on := 14, ground := Ground.phase }, { on := 15, ground := Ground.phase }, { on := 16, ground := Ground.phase }, { on := 17, ground := Ground.phase }, { on := 18, ground := Ground.phase }], guard := none }) (v := .pointer (some ⟨r, 0, none⟩)) rfl (by kernel_rfl) (by kernel_rfl) (by kernel_rfl) (by kernel_rfl) (fun _ _ _ h => h) (Or.inl ⟨by rfl, ?_⟩) (SK.out _ TZ3.out) ?_
        · rintro w ⟨r0, d0, d1, d2, d3⟩
          go_simp
        simp only [Act.put, List.setIfInBounds_toArray, List.set_cons_zero, List.set_cons_succ]
        refine wpAnyT_ready (rs := [21]) (by kernel_rfl) (by simp) ?_
        refine AllReadyT.last rfl (by kernel_rfl) (by kernel_rfl) (fun K hK => ?_)
        have hbr := TZ3.out.heap HBR.out hrB
        have q0 := cell_of_row _ r 0 _ 49 (0, 0) hbr
        have f0 := frozen_of_row _ r 0 _ 49 hbr
        have MM := hide (meet10 TZ3.out hbr ROWZ.out hgZ hcZ hrl)
        clear hbr
        go_simp
        refine hK.out _ _ ?_
        clear hK K
        go_wp2_with fail
        go_meet
        exact MM.out
    case rest =>
      obtain ⟨w5, hw5⟩ : ∃ u, u = wc := ⟨wc, rfl⟩
      subst hw5
      have M10 := hide hcut
      clear hcut SK HBR HGX TE TES TS TSE TX1 TX1S TX2 TX3 TY1 TY2 TY3 TZ1 TZ2 TZ3 ROWX ROWY ROWZ qX1 qX2 qX3 qY1 qY2 qY3 qZ1 qZ2 qZ3 hgX hcX hgY hcY hgZ hcZ tr
      obtain ⟨g3, c3, hbr, hg3, hc3, hrow, t5⟩ := M10.out
      have HBR := hide hbr
      have HROW := hide hrow
      have T5 := hide t5
      have hrB : ¬ w5.heap.size ≤ r := by have := lt_of_heap hbr; omega
      have hrl5 := lt_of_heap hbr
      have tr : Turns (fun k => w5.heap.size ≤ k) w5.drew w5.drew := Turns.refl _ _
      have SK := hide (fun u (t : Turns (fun k => w5.heap.size ≤ k) w5.drew u) => show u.cell? ⟨r, 1, none⟩ = some (.slice Ha l.length Hc) from cell_of_row u r 1 _ 49 (0, 0) (t.heap HBR.out hrB))
      have hHt5 := HHT.out.byR HBR4.out T5.out
      obtain ⟨sr1, sr3⟩ := partsH hHt5 rfl hHc (by rcases HOH.out.turns T5.out with h | ⟨b, off, h, hl, _⟩; exact .inl h; exact .inr ⟨b, off, h, hl⟩) i HIPL.out
      obtain ⟨⟨gX1, cX1, WX1, qX1, hX1, tX1, gX2, cX2, WX2, gX3, cX3, WX3, qX2, qX3, rowX, hgX, hcX, tX2, tX3⟩, ⟨gY1, cY1, WY1, qY1, tY1, gY2, cY2, WY2, gY3, cY3, WY3, qY2, qY3, rowY, hgY, hcY, tY2, tY3⟩, ⟨gZ1, cZ1, WZ1, qZ1, tZ1, gZ2, cZ2, WZ2, gZ3, cZ3, WZ3, qZ2, qZ3, rowZ, hgZ, hcZ, tZ2, tZ3⟩⟩ := insH_orders (B := w5.heap.size) (W := w5.drew) (l := l) (s := (⟨xb, xa, xc, xv, xvc, e, xh⟩ : Tow)) (i := i) (x1 := .slice Ha i Hc) (x3 := dropH Ha l.length Hc i) HIPL.out (by omega) (Nat.le_refl _) (fun V t => sr1 V ((Turns.refl _ w5).drew.trans t)) (fun V t => sr3 V ((Turns.refl _ w5).drew.trans t))
      have TE := hide (tr.alloc (.cells #[] 3))
      have TES := hide ((tr.alloc (.cells #[] 3)).alloc (.cells #[.int .i64 (xh : Nat)] 3))
      have TS := hide (tr.alloc (.cells #[.int .i64 (xh : Nat)] 3))
      have TSE := hide ((tr.alloc (.cells #[.int .i64 (xh : Nat)] 3)).alloc (.cells #[] 3))
      have TX1 := hide tX1
      have TX1S := hide (tX1.alloc (.cells #[.int .i64 (xh : Nat)] 3))
      have TX2 := hide tX2
      have TX3 := hide tX3
      have TY1 := hide tY1
      have TY2 := hide tY2
      have TY3 := hide tY3
      have TZ1 := hide tZ1
      have TZ2 := hide tZ2
      have TZ3 := hide tZ3
      have ROWX := hide rowX
      have ROWY := hide rowY
      have ROWZ := hide rowZ
      clear tX1 tX2 tX3 tY1 tY2 tY3 tZ1 tZ2 tZ3 rowX rowY rowZ
      clear hX1 sr1 sr3 hHt5 hbr hrow t5 hrl
      have hrl := hrl5
      go_upto_region 11 with (fail)
      go_cut [68] from 10 (fun _ wx => Meet11 w5 wx r (ins l i ⟨xb, xa, xc, xv, xvc, e, xh⟩) l.length (some ⟨g3, 0, none⟩) c3)
      case first =>
        rename_i kk rest jj kk' m1 m2
        clear rest
        refine wp_region_tail_drew (S := fun w' => w'.cell? ⟨r, 1, none⟩ = some (.slice Ha l.length Hc)) (by kernel_rfl) (SK.out _ tr) (fun _ => ?_)
        change wpAnyT _ _ _ _ _ 22 (Array.replicate 22 false) _ _
        refine wpAnyT_take 19 (i := 0) (oi := { dst := some 68, op := Op.move (Operand.tmp 0), type := 39, pos := "ref.go:47", after := #[], guard := none }) (v := .pointer (some ⟨r, 0, none⟩)) rfl (by kernel_rfl) (by kernel_rfl) (by kernel_rfl) (by kernel_rfl) (fun _ _ _ h => h) (Or.inl ⟨by rfl, ?_⟩) (SK.out _ tr) ?_
        · rintro w r0
          go_simp
        simp only [Act.put, List.setIfInBounds_toArray, List.set_cons_zero, List.set_cons_succ]
        refine wpAnyT_take 3 (i := 2) (oi := { dst := some 70, op := Op.move (Operand.tmp 0), type := 39, pos := "ref.go:47", after := #[], guard := none }) (v := .pointer (some ⟨r, 0, none⟩)) rfl (by kernel_rfl) (by kernel_rfl) (by kernel_rfl) (by kernel_rfl) (fun _ _ _ h => h) (Or.inl ⟨by rfl, ?_⟩) (SK.out _ tr) ?_
        · rintro w r0
          go_simp
        simp only [Act.put, List.setIfInBounds_toArray, List.set_cons_zero, List.set_cons_succ]
        refine wpAnyT_take 4 (i := 3) (oi := { dst := some 71, op := Op.nilCheck (Operand.tmp 70), type := 0, pos := "ref.go:47", after := #[{ on := 2, ground := Ground.data }], guard := none }) (v := .pointer (some ⟨r, 0, none⟩)) rfl (by kernel_rfl) (by kernel_rfl) (by kernel_rfl) (by kernel_rfl) (fun _ _ _ h => h) (Or.inl ⟨by rfl, ?_⟩) (SK.out _ tr) ?_
        · rintro w r0
          go_simp
        simp only [Act.put, List.setIfInBounds_toArray, List.set_cons_zero, List.set_cons_succ]
        refine wpAnyT_take 5 (i := 4) (oi := { dst := some 72, op := Op.fieldAddr 49 (Operand.tmp 71) 1, type := 0, pos := "ref.go:47", after := #[{ on := 3, ground := Ground.data }], guard := none }) (v := .pointer (some ⟨r, 1, none⟩)) rfl (by kernel_rfl) (by kernel_rfl) (by kernel_rfl) (by kernel_rfl) (fun _ _ _ h => h) (Or.inl ⟨by rfl, ?_⟩) (SK.out _ tr) ?_
        · rintro w r0
          go_simp
        simp only [Act.put, List.setIfInBounds_toArray, List.set_cons_zero, List.set_cons_succ]
        refine wpAnyT_take 7 (i := 5) (oi := { dst := some 73, op := Op.load 47 (Operand.tmp 72), type := 47, pos := "ref.go:47", after := #[{ on := 4, ground := Ground.data }], guard := none }) (v := .slice Ha l.length Hc) rfl (by kernel_rfl) (by kernel_rfl) (by kernel_rfl) (by kernel_rfl) (fun _ _ _ h => h) (Or.inl ⟨by rfl, ?_⟩) (SK.out _ tr) ?_
        · rintro w r0
          go_simp
        simp only [Act.put, List.setIfInBounds_toArray, List.set_cons_zero, List.set_cons_succ]
        refine wpAnyT_take 7 (i := 6) (oi := { dst := some 74, op := Op.move (Operand.tmp 8), type := 3, pos := "ref.go:47", after := #[], guard := none }) (v := .int .i64 (i : Nat)) rfl (by kernel_rfl) (by kernel_rfl) (by kernel_rfl) (by kernel_rfl) (fun _ _ _ h => h) (Or.inl ⟨by rfl, ?_⟩) (SK.out _ tr) ?_
        · rintro w r0
          go_simp
        simp only [Act.put, List.setIfInBounds_toArray, List.set_cons_zero, List.set_cons_succ]
        refine wpAnyT_take 8 (i := 7) (oi := { dst := some 75, op := Op.slice 47 (Operand.tmp 73) none (some (Operand.tmp 74)) none, type := 47, pos := "ref.go:47", after := #[{ on := 5, ground := Ground.data }, { on := 6, ground := Ground.data }], guard := none }) (v := .slice Ha i Hc) rfl (by kernel_rfl) (by kernel_rfl) (by kernel_rfl) (by kernel_rfl) (fun _ _ _ h => h) (Or.inl ⟨by rfl, ?_⟩) (SK.out _ tr) ?_
        · rintro w r0
          go_simp
        simp only [Act.put, List.setIfInBounds_toArray, List.set_cons_zero, List.set_cons_succ]
        refine wpAnyT_take 10 (i := 9) (oi := { dst := some 77, op := Op.move (Operand.tmp 2), type := 3, pos := "ref.go:47", after := #[], guard := none }) (v := .int .i64 (xh : Nat)) rfl (by kernel_rfl) (by kernel_rfl) (by kernel_rfl) (by kernel_rfl) (fun _ _ _ h => h) (Or.inl ⟨by rfl, ?_⟩) (SK.out _ tr) ?_
        · rintro w r0
          go_simp
        simp only [Act.put, List.setIfInBounds_toArray, List.set_cons_zero, List.set_cons_succ]
        refine wpAnyT_take 13 (i := 12) (oi := { dst := some 80, op := Op.move (Operand.tmp 0), type := 39, pos := "ref.go:47", after := #[], guard := none }) (v := .pointer (some ⟨r, 0, none⟩)) rfl (by kernel_rfl) (by kernel_rfl) (by kernel_rfl) (by kernel_rfl) (fun _ _ _ h => h) (Or.inl ⟨by rfl, ?_⟩) (SK.out _ tr) ?_
        · rintro w r0
          go_simp
        simp only [Act.put, List.setIfInBounds_toArray, List.set_cons_zero, List.set_cons_succ]
        refine wpAnyT_take 14 (i := 13) (oi := { dst := some 81, op := Op.nilCheck (Operand.tmp 80), type := 0, pos := "ref.go:47", after := #[{ on := 12, ground := Ground.data }], guard := none }) (v := .pointer (some ⟨r, 0, none⟩)) rfl (by kernel_rfl) (by kernel_rfl) (by kernel_rfl) (by kernel_rfl) (fun _ _ _ h => h) (Or.inl ⟨by rfl, ?_⟩) (SK.out _ tr) ?_
        · rintro w r0
          go_simp
        simp only [Act.put, List.setIfInBounds_toArray, List.set_cons_zero, List.set_cons_succ]
        refine wpAnyT_take 15 (i := 14) (oi := { dst := some 82, op := Op.fieldAddr 49 (Operand.tmp 81) 1, type := 0, pos := "ref.go:47", after := #[{ on := 13, ground := Ground.data }], guard := none }) (v := .pointer (some ⟨r, 1, none⟩)) rfl (by kernel_rfl) (by kernel_rfl) (by kernel_rfl) (by kernel_rfl) (fun _ _ _ h => h) (Or.inl ⟨by rfl, ?_⟩) (SK.out _ tr) ?_
        · rintro w r0
          go_simp
        simp only [Act.put, List.setIfInBounds_toArray, List.set_cons_zero, List.set_cons_succ]
        refine wpAnyT_take 17 (i := 15) (oi := { dst := some 83, op := Op.load 47 (Operand.tmp 82), type := 47, pos := "ref.go:47", after := #[{ on := 14, ground := Ground.data }], guard := none }) (v := .slice Ha l.length Hc) rfl (by kernel_rfl) (by kernel_rfl) (by kernel_rfl) (by kernel_rfl) (fun _ _ _ h => h) (Or.inl ⟨by rfl, ?_⟩) (SK.out _ tr) ?_
        · rintro w r0
          go_simp
        simp only [Act.put, List.setIfInBounds_toArray, List.set_cons_zero, List.set_cons_succ]
        refine wpAnyT_take 17 (i := 16) (oi := { dst := some 84, op := Op.move (Operand.tmp 8), type := 3, pos := "ref.go:47", after := #[], guard := none }) (v := .int .i64 (i : Nat)) rfl (by kernel_rfl) (by kernel_rfl) (by kernel_rfl) (by kernel_rfl) (fun _ _ _ h => h) (Or.inl ⟨by rfl, ?_⟩) (SK.out _ tr) ?_
        · rintro w r0
          go_simp
        simp only [Act.put, List.setIfInBounds_toArray, List.set_cons_zero, List.set_cons_succ]
        refine wpAnyT_take 18 (i := 17) (oi := { dst := some 85, op := Op.slice 47 (Operand.tmp 83) (some (Operand.tmp 84)) none none, type := 47, pos := "ref.go:47", after := #[{ on := 15, ground := Ground.data }, { on := 16, ground := Ground.data }], guard := none }) (v := dropH Ha l.length Hc i) rfl (by kernel_rfl) (by kernel_rfl) (by kernel_rfl) (by kernel_rfl) (fun _ _ _ h => h) (Or.inl ⟨by rfl, ?_⟩) (SK.out _ tr) ?_
        · rintro w r0
          unfold dropH
          go_simp
        simp only [Act.put, List.setIfInBounds_toArray, List.set_cons_zero, List.set_cons_succ]
        refine wpAnyT_ready (rs := [1, 10]) (by kernel_rfl) (by simp) ?_
        refine AllReadyT.cons rfl (fun K hK => ?_) (AllReadyT.cons rfl (fun K hK => ?_) AllReadyT.nil)
        · skip
          go_simp
          refine hK.out _ _ (SK.out _ TE.out) (fun _ => ?_)
          clear hK K
          refine wpAnyT_ready (rs := [8, 10]) (by kernel_rfl) (by simp) ?_
          refine AllReadyT.cons rfl (fun K hK => ?_) (AllReadyT.cons rfl (fun K hK => ?_) AllReadyT.nil)
          · skip
            refine step_append_run rfl (.tmp 69) (.tmp 75) 47 rfl _ _ rfl rfl _ _ (qX1 _) 76 rfl ?_
            simp only [Act.put, List.setIfInBounds_toArray, List.set_cons_zero, List.set_cons_succ]
            refine hK.out _ _ (SK.out _ TX1.out) (fun _ => ?_)
            clear hK K
            refine wpAnyT_ready (rs := [10]) (by kernel_rfl) (by simp) ?_
            refine AllReadyT.cons rfl (fun K hK => ?_) AllReadyT.nil
            go_simp
            refine hK.out _ _ (SK.out _ TX1S.out) (fun _ => ?_)
            clear hK K
            refine wpAnyT_ready (rs := [11]) (by kernel_rfl) (by simp) ?_
            refine AllReadyT.cons rfl (fun K hK => ?_) AllReadyT.nil
            refine step_append_run rfl (.tmp 76) (.tmp 78) 47 rfl _ _ rfl rfl _ _ (qX2 _) 79 rfl ?_
            simp only [Act.put, List.setIfInBounds_toArray, List.set_cons_zero, List.set_cons_succ]
            refine hK.out _ _ (SK.out _ TX2.out) (fun _ => ?_)
            clear hK K
            refine wpAnyT_ready (rs := [18]) (by kernel_rfl) (by simp) ?_
            refine AllReadyT.cons rfl (fun K hK => ?_) AllReadyT.nil
            refine step_append_run rfl (.tmp 79) (.tmp 85) 47 rfl _ _ rfl rfl _ _ (qX3 _) 86 rfl ?_
            simp only [Act.put, List.setIfInBounds_toArray, List.set_cons_zero, List.set_cons_succ]
            refine hK.out _ _ (SK.out _ TX3.out) (fun _ => ?_)
            clear hK K
            refine wpAnyT_take 20 (i := 19) (oi := { dst := some 87, op := Op.nilCheck (Operand.tmp 68), type := 0, pos := "ref.go:47", after := #[{ on := 0, ground := Ground.data }, { on := 0, ground := Ground.phase }, { on := 1, ground := Ground.phase }, { on := 2, ground := Ground.phase }, { on := 3, ground := Ground.phase }, { on := 4, ground := Ground.phase }, { on := 5, ground := Ground.phase }, { on := 6, ground := Ground.phase }, { on := 7, ground := Ground.phase }, { on := 8, ground := Ground.phase }, { on := 9, ground := Ground.phase }, { on := 10, ground := Ground.phase }, { on := 11, ground := Ground.phase }, { on := 12, ground := Ground.phase }, { on := 13, ground := Ground.phase }, { on := 14, ground := Ground.phase }, { on := 15, ground := Ground.phase }, { on := 16, ground := Ground.phase }, { on := 17, ground := Ground.phase }, { on := 18, ground := Ground.phase }], guard := none }) (v := .pointer (some ⟨r, 0, none⟩)) rfl (by kernel_rfl) (by kernel_rfl) (by kernel_rfl) (by kernel_rfl) (fun _ _ _ h => h) (Or.inl ⟨by rfl, ?_⟩) (SK.out _ TX3.out) ?_
            · rintro w r0
              go_simp
            simp only [Act.put, List.setIfInBounds_toArray, List.set_cons_zero, List.set_cons_succ]
            refine wpAnyT_take 21 (i := 20) (oi := { dst := some 88, op := Op.fieldAddr 49 (Operand.tmp 87) 1, type := 0, pos := "ref.go:47", after := #[{ on := 19, ground := Ground.data }, { on := 0, ground := Ground.phase }, { on := 1, ground := Ground.phase }, { on := 2, ground := Ground.phase }, { on := 3, ground := Ground.phase }, { on := 4, ground := Ground.phase }, { on := 5, ground := Ground.phase }, { on := 6, ground := Ground.phase }, { on := 7, ground := Ground.phase }, { on := 8, ground := Ground.phase }, { on := 9, ground := Ground.phase }, { on := 10, ground := Ground.phase }, { on := 11, ground := Ground.phase }, { on := 12, ground := Ground.phase }, { on := 13, ground := Ground.phase }, { on := 14, ground := Ground.phase }, { on := 15, ground := Ground.phase }, { on := 16, ground := Ground.phase }, { on := 17, ground := Ground.phase }, { on := 18, ground := Ground.phase }], guard := none }) (v := .pointer (some ⟨r, 1, none⟩)) rfl (by kernel_rfl) (by kernel_rfl) (by kernel_rfl) (by kernel_rfl) (fun _ _ _ h => h) (Or.inl ⟨by rfl, ?_⟩) (SK.out _ TX3.out) ?_
            · rintro w r0
              go_simp
            simp only [Act.put, List.setIfInBounds_toArray, List.set_cons_zero, List.set_cons_succ]
            refine wpAnyT_ready (rs := [21]) (by kernel_rfl) (by simp) ?_
            refine AllReadyT.last rfl (by kernel_rfl) (by kernel_rfl) (fun K hK => ?_)
            have hbr := TX3.out.heap HBR.out hrB
            have q0 := cell_of_row _ r 1 _ 49 (0, 0) hbr
            have f0 := frozen_of_row _ r 1 _ 49 hbr
            have MM := hide (meet11 TX3.out hbr ROWX.out hgX hcX hrl)
            clear hbr
            go_simp
            refine hK.out _ _ ?_
            clear hK K
            go_wp2_with fail
            go_meet
            exact MM.out
          · skip
            go_simp
            refine hK.out _ _ (SK.out _ TES.out) (fun _ => ?_)
            clear hK K
            refine wpAnyT_ready (rs := [8]) (by kernel_rfl) (by simp) ?_
            refine AllReadyT.cons rfl (fun K hK => ?_) AllReadyT.nil
            refine step_append_run rfl (.tmp 69) (.tmp 75) 47 rfl _ _ rfl rfl _ _ (qY1 _) 76 rfl ?_
            simp only [Act.put, List.setIfInBounds_toArray, List.set_cons_zero, List.set_cons_succ]
            refine hK.out _ _ (SK.out _ TY1.out) (fun _ => ?_)
            clear hK K
            refine wpAnyT_ready (rs := [11]) (by kernel_rfl) (by simp) ?_
            refine AllReadyT.cons rfl (fun K hK => ?_) AllReadyT.nil
            refine step_append_run rfl (.tmp 76) (.tmp 78) 47 rfl _ _ rfl rfl _ _ (qY2 _) 79 rfl ?_
            simp only [Act.put, List.setIfInBounds_toArray, List.set_cons_zero, List.set_cons_succ]
            refine hK.out _ _ (SK.out _ TY2.out) (fun _ => ?_)
            clear hK K
            refine wpAnyT_ready (rs := [18]) (by kernel_rfl) (by simp) ?_
            refine AllReadyT.cons rfl (fun K hK => ?_) AllReadyT.nil
            refine step_append_run rfl (.tmp 79) (.tmp 85) 47 rfl _ _ rfl rfl _ _ (qY3 _) 86 rfl ?_
            simp only [Act.put, List.setIfInBounds_toArray, List.set_cons_zero, List.set_cons_succ]
            refine hK.out _ _ (SK.out _ TY3.out) (fun _ => ?_)
            clear hK K
            refine wpAnyT_take 20 (i := 19) (oi := { dst := some 87, op := Op.nilCheck (Operand.tmp 68), type := 0, pos := "ref.go:47", after := #[{ on := 0, ground := Ground.data }, { on := 0, ground := Ground.phase }, { on := 1, ground := Ground.phase }, { on := 2, ground := Ground.phase }, { on := 3, ground := Ground.phase }, { on := 4, ground := Ground.phase }, { on := 5, ground := Ground.phase }, { on := 6, ground := Ground.phase }, { on := 7, ground := Ground.phase }, { on := 8, ground := Ground.phase }, { on := 9, ground := Ground.phase }, { on := 10, ground := Ground.phase }, { on := 11, ground := Ground.phase }, { on := 12, ground := Ground.phase }, { on := 13, ground := Ground.phase }, { on := 14, ground := Ground.phase }, { on := 15, ground := Ground.phase }, { on := 16, ground := Ground.phase }, { on := 17, ground := Ground.phase }, { on := 18, ground := Ground.phase }], guard := none }) (v := .pointer (some ⟨r, 0, none⟩)) rfl (by kernel_rfl) (by kernel_rfl) (by kernel_rfl) (by kernel_rfl) (fun _ _ _ h => h) (Or.inl ⟨by rfl, ?_⟩) (SK.out _ TY3.out) ?_
            · rintro w r0
              go_simp
            simp only [Act.put, List.setIfInBounds_toArray, List.set_cons_zero, List.set_cons_succ]
            refine wpAnyT_take 21 (i := 20) (oi := { dst := some 88, op := Op.fieldAddr 49 (Operand.tmp 87) 1, type := 0, pos := "ref.go:47", after := #[{ on := 19, ground := Ground.data }, { on := 0, ground := Ground.phase }, { on := 1, ground := Ground.phase }, { on := 2, ground := Ground.phase }, { on := 3, ground := Ground.phase }, { on := 4, ground := Ground.phase }, { on := 5, ground := Ground.phase }, { on := 6, ground := Ground.phase }, { on := 7, ground := Ground.phase }, { on := 8, ground := Ground.phase }, { on := 9, ground := Ground.phase }, { on := 10, ground := Ground.phase }, { on := 11, ground := Ground.phase }, { on := 12, ground := Ground.phase }, { on := 13, ground := Ground.phase }, { on := 14, ground := Ground.phase }, { on := 15, ground := Ground.phase }, { on := 16, ground := Ground.phase }, { on := 17, ground := Ground.phase }, { on := 18, ground := Ground.phase }], guard := none }) (v := .pointer (some ⟨r, 1, none⟩)) rfl (by kernel_rfl) (by kernel_rfl) (by kernel_rfl) (by kernel_rfl) (fun _ _ _ h => h) (Or.inl ⟨by rfl, ?_⟩) (SK.out _ TY3.out) ?_
            · rintro w r0
              go_simp
            simp only [Act.put, List.setIfInBounds_toArray, List.set_cons_zero, List.set_cons_succ]
            refine wpAnyT_ready (rs := [21]) (by kernel_rfl) (by simp) ?_
            refine AllReadyT.last rfl (by kernel_rfl) (by kernel_rfl) (fun K hK => ?_)
            have hbr := TY3.out.heap HBR.out hrB
            have q0 := cell_of_row _ r 1 _ 49 (0, 0) hbr
            have f0 := frozen_of_row _ r 1 _ 49 hbr
            have MM := hide (meet11 TY3.out hbr ROWY.out hgY hcY hrl)
            clear hbr
            go_simp
            refine hK.out _ _ ?_
            clear hK K
            go_wp2_with fail
            go_meet
            exact MM.out
        · skip
          go_simp
          refine hK.out _ _ (SK.out _ TS.out) (fun _ => ?_)
          clear hK K
          refine wpAnyT_ready (rs := [1]) (by kernel_rfl) (by simp) ?_
          refine AllReadyT.cons rfl (fun K hK => ?_) AllReadyT.nil
          go_simp
          refine hK.out _ _ (SK.out _ TSE.out) (fun _ => ?_)
          clear hK K
          refine wpAnyT_ready (rs := [8]) (by kernel_rfl) (by simp) ?_
          refine AllReadyT.cons rfl (fun K hK => ?_) AllReadyT.nil
          refine step_append_run rfl (.tmp 69) (.tmp 75) 47 rfl _ _ rfl rfl _ _ (qZ1 _) 76 rfl ?_
          simp only [Act.put, List.setIfInBounds_toArray, List.set_cons_zero, List.set_cons_succ]
          refine hK.out _ _ (SK.out _ TZ1.out) (fun _ => ?_)
          clear hK K
          refine wpAnyT_ready (rs := [11]) (by kernel_rfl) (by simp) ?_
          refine AllReadyT.cons rfl (fun K hK => ?_) AllReadyT.nil
          refine step_append_run rfl (.tmp 76) (.tmp 78) 47 rfl _ _ rfl rfl _ _ (qZ2 _) 79 rfl ?_
          simp only [Act.put, List.setIfInBounds_toArray, List.set_cons_zero, List.set_cons_succ]
          refine hK.out _ _ (SK.out _ TZ2.out) (fun _ => ?_)
          clear hK K
          refine wpAnyT_ready (rs := [18]) (by kernel_rfl) (by simp) ?_
          refine AllReadyT.cons rfl (fun K hK => ?_) AllReadyT.nil
          refine step_append_run rfl (.tmp 79) (.tmp 85) 47 rfl _ _ rfl rfl _ _ (qZ3 _) 86 rfl ?_
          simp only [Act.put, List.setIfInBounds_toArray, List.set_cons_zero, List.set_cons_succ]
          refine hK.out _ _ (SK.out _ TZ3.out) (fun _ => ?_)
          clear hK K
          refine wpAnyT_take 20 (i := 19) (oi := { dst := some 87, op := Op.nilCheck (Operand.tmp 68), type := 0, pos := "ref.go:47", after := #[{ on := 0, ground := Ground.data }, { on := 0, ground := Ground.phase }, { on := 1, ground := Ground.phase }, { on := 2, ground := Ground.phase }, { on := 3, ground := Ground.phase }, { on := 4, ground := Ground.phase }, { on := 5, ground := Ground.phase }, { on := 6, ground := Ground.phase }, { on := 7, ground := Ground.phase }, { on := 8, ground := Ground.phase }, { on := 9, ground := Ground.phase }, { on := 10, ground := Ground.phase }, { on := 11, ground := Ground.phase }, { on := 12, ground := Ground.phase }, { on := 13, ground := Ground.phase }, { on := 14, ground := Ground.phase }, { on := 15, ground := Ground.phase }, { on := 16, ground := Ground.phase }, { on := 17, ground := Ground.phase }, { on := 18, ground := Ground.phase }], guard := none }) (v := .pointer (some ⟨r, 0, none⟩)) rfl (by kernel_rfl) (by kernel_rfl) (by kernel_rfl) (by kernel_rfl) (fun _ _ _ h => h) (Or.inl ⟨by rfl, ?_⟩) (SK.out _ TZ3.out) ?_
          · rintro w r0
            go_simp
          simp only [Act.put, List.setIfInBounds_toArray, List.set_cons_zero, List.set_cons_succ]
          refine wpAnyT_take 21 (i := 20) (oi := { dst := some 88, op := Op.fieldAddr 49 (Operand.tmp 87) 1, type := 0, pos := "ref.go:47", after := #[{ on := 19, ground := Ground.data }, { on := 0, ground := Ground.phase }, { on := 1, ground := Ground.phase }, { on := 2, ground := Ground.phase }, { on := 3, ground := Ground.phase }, { on := 4, ground := Ground.phase }, { on := 5, ground := Ground.phase }, { on := 6, ground := Ground.phase }, { on := 7, ground := Ground.phase }, { on := 8, ground := Ground.phase }, { on := 9, ground := Ground.phase }, { on := 10, ground := Ground.phase }, { on := 11, ground := Ground.phase }, { on := 12, ground := Ground.phase }, { on := 13, ground := Ground.phase }, { on := 14, ground := Ground.phase }, { on := 15, ground := Ground.phase }, { on := 16, ground := Ground.phase }, { on := 17, ground := Ground.phase }, { on := 18, ground := Ground.phase }], guard := none }) (v := .pointer (some ⟨r, 1, none⟩)) rfl (by kernel_rfl) (by kernel_rfl) (by kernel_rfl) (by kernel_rfl) (fun _ _ _ h => h) (Or.inl ⟨by rfl, ?_⟩) (SK.out _ TZ3.out) ?_
          · rintro w r0
            go_simp
          simp only [Act.put, List.setIfInBounds_toArray, List.set_cons_zero, List.set_cons_succ]
          refine wpAnyT_ready (rs := [21]) (by kernel_rfl) (by simp) ?_
          refine AllReadyT.last rfl (by kernel_rfl) (by kernel_rfl) (fun K hK => ?_)
          have hbr := TZ3.out.heap HBR.out hrB
          have q0 := cell_of_row _ r 1 _ 49 (0, 0) hbr
          have f0 := frozen_of_row _ r 1 _ 49 hbr
          have MM := hide (meet11 TZ3.out hbr ROWZ.out hgZ hcZ hrl)
          clear hbr
          go_simp
          refine hK.out _ _ ?_
          clear hK K
          go_wp2_with fail
          go_meet
          exact MM.out
      case rest =>
        have hB : ∀ y, y ∈ l → Bytes w4 y.kv y.e.key ∧ Bytes w4 y.vv y.e.val := HEN.out
        have hw4 : w.heap.size ≤ w4.heap.size := by
          have h1 := HSZ3.out
          have h2 := T4.out.size
          omega
        obtain ⟨hRO, hT6⟩ := ro_done (Q := Q) (w := w) rfl HIPL.out hw4 HBR4.out hB ⟨HX1.out, HX2.out⟩ (fun q hq => by have := HBI.out q hq; have := HSZ3.out; omega) HQ.out.1 HQ.out.2 HBR.out hg3 hc3 HROW.out T5.out hcut
        have FIN := hide (show Go.Proofs.Ytkeglaplckfllaa.RO _ _ _ _ ∧ Turns (fun k => k = r) w wc from ⟨hRO, (T03.out.mono (fun _ _ x => x.elim)).trans ((T4.out.mono (fun _ _ x => x.elim)).trans hT6)⟩)
        clear hRO hT6 hB
        go_wp2_with fail
        go_ret
        exact ⟨rfl, ⟨xb, xa, xc, xv, xvc, e, xh⟩, rfl, rfl, by rw [HPI.out]; exact FIN.out.1, FIN.out.2⟩
end Go.Proofs.Ytkeglaplckfllaa
