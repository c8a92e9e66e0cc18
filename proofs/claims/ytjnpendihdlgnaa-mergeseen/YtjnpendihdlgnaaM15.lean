import Derived.Test.YtjnpendihdlgnaaM14
import Derived.Test.YtjnpendihdlgnaaM03
import Derived.Deep.RegionHeld
import Derived.Deep.Light
/-
  Entries in memory of their own.
-/
namespace Go.Proofs.Ytjnpendihdlgnaa
open Go.RowKit
set_option maxRecDepth 100000
set_option maxHeartbeats 4000000
/-- Each key lies in a row of its own. -/
def Keyed (w : World) (R : List Tow) : Prop := ∀ x, x ∈ R → ∃ g, x.ka = some ⟨g, 0, none⟩ ∧ RowB w g x.kc x.e.key
theorem Keyed.keep {S : Nat → Prop} {w w' : World} {R : List Tow} (h : Keyed w R) (t : Turns S w w') (hS : ∀ x, x ∈ R → ∀ q, x.bytesIn q → ¬ S q) : Keyed w' R := fun x hx => by
  obtain ⟨g, h1, h2⟩ := h x hx
  exact ⟨g, h1, h2.turns t (hS x hx g (.inl ⟨_, h1, rfl⟩))⟩
theorem ownEntries_any (a : Option Addr) (n c : Nat) (l : List Tow) (w : World) (h : Ents w a l) (hn : n = l.length) (hl : l.length ≤ 100000) (hf : ∀ x, x ∈ l → x.e.key.length ≤ 1000000 ∧ x.e.val.length ≤ 1000000) :
    Calls Try.prog 35 #[.slice a n c] w fun o w' => ∃ v, o = .returned v ∧ ∃ R, ERow w' w.heap.size v R ∧ Shown w' w.heap.size R ∧ R.map (·.e) = l.map (·.e) ∧ Keyed w' R ∧ Below w.heap.size w w' := by
  have HE := hide h
  have HF := hide hf
  have HN := hide hn
  clear h hf hn
  go_enter Try.func35, Try.ntmps35
  go_wp2_with fail
  go_loopw [3, 4] (fun ov iv wr => ∃ (k : Nat) (R : List Tow), iv = .int .i64 (k : Nat) ∧ k ≤ l.length ∧ ERow wr w.heap.size ov R ∧ Shown wr w.heap.size R ∧ R.map (·.e) = (l.take k).map (·.e) ∧ Below w.heap.size w wr ∧ (∀ x, x ∈ R → ∀ q, x.bytesIn q → ¬ inRow ov q) ∧ Keyed wr R) (fun _ iv _ => l.length - (intOf iv).toNat)
  case atStart => exact ⟨0, [], rfl, Nat.zero_le _, .inl ⟨rfl, rfl⟩, fun x hx => (by cases hx), rfl, Below.refl _ _, fun x hx => (by cases hx), fun x hx => (by cases hx)⟩
  case round =>
    obtain ⟨k, R, rfl, hkl, hrow, hsh, hm, hbw, hap, hky⟩ := hrel
    have HAP := hide hap
    have HKY := hide hky
    clear hap hky
    obtain ⟨oa, oc, rfl⟩ := hrow.len
    have hRl : R.length = k := by
      have := congrArg List.length hm
      simp only [List.length_map, List.length_take] at this
      omega
    have HROW := hide hrow
    have HSH := hide hsh
    have HM := hide hm
    have BW := hide hbw
    have HRL := hide hRl
    have hsz := hbw.size
    clear hrow hsh hm hbw hRl
    by_cases h1 : k < l.length
    · have i1 : (k : Int) < (n : Nat) := by have := HN.out; omega
      have i0 : (0 : Int) ≤ (k : Int) := by omega
      obtain ⟨y, hy⟩ : ∃ y, l[k]? = some y := ⟨_, List.getElem?_eq_getElem h1⟩
      obtain ⟨⟨b, off, rfl, hc⟩, k1, k2⟩ := (HE.out.quiet (Turns.of_below BW.out _)) k y hy
      have hyk := HF.out y (List.mem_of_getElem? hy)
      have HTK : Hid ((l.take (k + 1)).map (·.e) = (l.take k).map (·.e) ++ [y.e]) := hide (by rw [List.take_add_one, hy, List.map_append]; rfl)
      obtain ⟨xa, xc, xv, xvc, e⟩ := y
      have c0 : wr.cell? ⟨b, off + k * 4, none⟩ = some (.slice xa e.key.length xc) := hc 0 _ rfl
      have c1 : wr.cell? ⟨b, off + k * 4 + 1, none⟩ = some (.int .u64 (e.seq : Nat)) := hc 1 _ rfl
      have c2 : wr.cell? ⟨b, off + k * 4 + 2, none⟩ = some (.int .i64 e.kind) := hc 2 _ rfl
      have c3 : wr.cell? ⟨b, off + k * 4 + 3, none⟩ = some (.slice xv e.val.length xvc) := hc 3 _ rfl
      have K1 := hide (show Bytes wr (.slice xa e.key.length xc) e.key from k1)
      have K2 := hide (show Bytes wr (.slice xv e.val.length xvc) e.val from k2)
      clear hc k1 k2 hy
      obtain ⟨hkn, hvn⟩ := hyk
      change e.key.length ≤ 1000000 at hkn
      change e.val.length ≤ 1000000 at hvn
      go_upto_region 6 with (fail)
      have HX0 := hide (heap_alloc_new wr (.cells #[.slice xa e.key.length xc, .int .u64 (e.seq : Nat), .int .i64 e.kind, .slice xv e.val.length xvc] 25))
      have T0 := hide ((Turns.refl (fun _ => False) wr).alloc (.cells #[.slice xa e.key.length xc, .int .u64 (e.seq : Nat), .int .i64 e.kind, .slice xv e.val.length xvc] 25))
      have K1 := hide (K1.out.quiet T0.out)
      have K2 := hide (K2.out.quiet T0.out)
      have hgl : wr.heap.size < (wr.alloc (.cells #[.slice xa e.key.length xc, .int .u64 (e.seq : Nat), .int .i64 e.kind, .slice xv e.val.length xvc] 25)).heap.size := by simp
      clear c0 c1 c2 c3
      generalize wr.alloc (.cells #[.slice xa e.key.length xc, .int .u64 (e.seq : Nat), .int .i64 e.kind, .slice xv e.val.length xvc] 25) = wa at *
      generalize hGE : wr.heap.size = g at HX0 hgl ⊢
      have HGE := hide hGE
      clear hGE
      go_cut [16] from 17 to 27 (fun _ wx => ∃ (g1 c1 g2 c2 : Nat), wx.heap[g]? = some (.cells #[.slice (some ⟨g1, 0, none⟩) e.key.length c1, .int .u64 (e.seq : Nat), .int .i64 e.kind, .slice (some ⟨g2, 0, none⟩) e.val.length c2] 25 (0, 0)) ∧ RowB wx g1 c1 e.key ∧ RowB wx g2 c2 e.val ∧ wa.heap.size ≤ g1 ∧ wa.heap.size ≤ g2 ∧ Turns (fun k => k = g) wa wx)
      case first =>
        rename_i kk rest jj kk' m1 m2
        clear rest
        have tV : Turns (fun _ => False) wa wa.drew := (Turns.refl _ _).drew
        have HX := hide HX0.out
        have HK := hide (fun u (t : Turns (fun _ => False) wa u) => K1.out.quiet t)
        have HV := hide (fun u (t : Turns (fun _ => False) wa u) => K2.out.quiet t)
        have SK := hide (fun u (t : Turns (fun _ => False) wa u) => show u.cell? ⟨g, 0, none⟩ = some (.slice xa e.key.length xc) ∧ u.cell? ⟨g, 3, none⟩ = some (.slice xv e.val.length xvc) from ⟨cell_of_row u g 0 _ 25 (0, 0) (t.heap HX0.out (fun x => x)), cell_of_row u g 3 _ 25 (0, 0) (t.heap HX0.out (fun x => x))⟩)
        refine wp_region_x_drew [6, 7, 8, 9] (S := fun w' => w'.cell? ⟨g, 0, none⟩ = some (.slice xa e.key.length xc) ∧ w'.cell? ⟨g, 3, none⟩ = some (.slice xv e.val.length xvc)) (by kernel_rfl) (SK.out _ tV) (fun _ => ?_)
        change wpAnyX _ _ _ _ _ _ 10 (Array.replicate 10 false) _ _
        refine wpAnyX_take (i := 0) (oi := { dst := some 16, op := Op.fieldAddr 25 (Operand.tmp 5) 0, type := 0, pos := "kit.go:54", after := #[], guard := none }) (v := .pointer (some ⟨g, 0, none⟩)) rfl (by kernel_rfl) (by kernel_rfl) (by kernel_rfl) (by kernel_rfl) (by kernel_rfl) (fun _ _ _ h => h) (Or.inl ⟨by rfl, ?_⟩) (SK.out _ tV) ?_
        · rintro w ⟨d0, d3⟩
          go_simp
        simp only [Act.put, List.setIfInBounds_toArray, List.set_cons_zero, List.set_cons_succ]
        refine wpAnyX_take (i := 1) (oi := { dst := some 17, op := Op.load 22 (Operand.tmp 16), type := 22, pos := "kit.go:54", after := #[{ on := 0, ground := Ground.data }], guard := none }) (v := .slice xa e.key.length xc) rfl (by kernel_rfl) (by kernel_rfl) (by kernel_rfl) (by kernel_rfl) (by kernel_rfl) (fun _ _ _ h => h) (Or.inl ⟨by rfl, ?_⟩) (SK.out _ tV) ?_
        · rintro w ⟨d0, d3⟩
          go_simp
        simp only [Act.put, List.setIfInBounds_toArray, List.set_cons_zero, List.set_cons_succ]
        refine wpAnyX_take (i := 3) (oi := { dst := some 19, op := Op.fieldAddr 25 (Operand.tmp 5) 3, type := 0, pos := "kit.go:54", after := #[], guard := none }) (v := .pointer (some ⟨g, 3, none⟩)) rfl (by kernel_rfl) (by kernel_rfl) (by kernel_rfl) (by kernel_rfl) (by kernel_rfl) (fun _ _ _ h => h) (Or.inl ⟨by rfl, ?_⟩) (SK.out _ tV) ?_
        · rintro w ⟨d0, d3⟩
          go_simp
        simp only [Act.put, List.setIfInBounds_toArray, List.set_cons_zero, List.set_cons_succ]
        refine wpAnyX_take (i := 4) (oi := { dst := some 20, op := Op.load 22 (Operand.tmp 19), type := 22, pos := "kit.go:54", after := #[{ on := 3, ground := Ground.data }], guard := none }) (v := .slice xv e.val.length xvc) rfl (by kernel_rfl) (by kernel_rfl) (by kernel_rfl) (by kernel_rfl) (by kernel_rfl) (fun _ _ _ h => h) (Or.inl ⟨by rfl, ?_⟩) (SK.out _ tV) ?_
        · rintro w ⟨d0, d3⟩
          go_simp
        simp only [Act.put, List.setIfInBounds_toArray, List.set_cons_zero, List.set_cons_succ]
        refine wpAnyX_ready (rs := [2]) (by kernel_rfl) (by simp) ?_
        refine AllReadyX.cons rfl (fun K hK => ?_) AllReadyX.nil
        go_simp
        refine (own_any xa e.key.length xc e.key _ (HK.out _ tV) hkn).mono ?_
        rintro o w1 ⟨g1, c1, rfl, hg1, hc1, hrow1, b1⟩
        have tV1 := tV.trans (Turns.of_below b1 (fun _ => False))
        have R1 := hide hrow1
        have HG1 := hide hg1
        clear hrow1 hg1 b1
        go_simp
        refine hK.out _ _ (SK.out _ tV1) (fun _ => ?_)
        clear hK K
        refine wpAnyX_late (i := 6) (oi := { dst := some 22, op := Op.fieldAddr 25 (Operand.tmp 5) 0, type := 0, pos := "kit.go:54", after := #[{ on := 0, ground := Ground.phase }, { on := 1, ground := Ground.phase }, { on := 2, ground := Ground.phase }, { on := 3, ground := Ground.phase }, { on := 4, ground := Ground.phase }, { on := 5, ground := Ground.textOnly Departure.lateStoresUnsure }], guard := none }) (v := .pointer (some ⟨g, 0, none⟩)) rfl (by kernel_rfl) (by kernel_rfl) (by kernel_rfl) (by kernel_rfl) (fun _ _ _ h => h) (Or.inl ⟨by rfl, ?_⟩) ?_
        · rintro w -
          go_simp
        simp only [Act.put, List.setIfInBounds_toArray, List.set_cons_zero, List.set_cons_succ]
        refine wpAnyX_ready (rs := [5]) (by kernel_rfl) (by simp) ?_
        refine AllReadyX.cons rfl (fun K hK => ?_) AllReadyX.nil
        go_simp
        refine (own_any xv e.val.length xvc e.val _ (HV.out _ tV1) hvn).mono ?_
        rintro o w2 ⟨g2, c2, rfl, hg2, hc2, hrow2, b2⟩
        have tV2 := tV1.trans (Turns.of_below b2 (fun _ => False))
        have R1 := hide (R1.out.below b2)
        have R2 := hide hrow2
        have HG2 := hide hg2
        have HB2 := hide b2.size
        clear hrow2 hg2 b2
        go_simp
        refine hK.out _ _ (SK.out _ tV2) (fun _ => ?_)
        clear hK K
        have hbx := tV2.heap HX.out (fun x => x)
        have T1 := hide ((Tick.refl hbx).set 0 (.slice (some ⟨g1, 0, none⟩) e.key.length c1))
        have q0 := cell_of_row _ g 0 _ 25 (0, 0) hbx
        have f0 := frozen_of_row _ g 0 _ 25 hbx
        refine wpAnyX_ready (rs := [7]) (by kernel_rfl) (by simp) ?_
        refine AllReadyX.free rfl (by kernel_rfl) (fun K hK => ?_) AllReadyX.nil
        go_simp
        refine hK.out _ _ ?_
        clear hK K hbx q0 f0
        have T2 := hide (T1.out.set 3 (.slice (some ⟨g2, 0, none⟩) e.val.length c2))
        have q3 := T1.out.cell 3
        have f3 := T1.out.frozen 3
        clear T1
        simp at q3
        generalize w2.setCell ⟨g, 0, none⟩ (.slice (some ⟨g1, 0, none⟩) e.key.length c1) = w3 at *
        refine wpAnyX_late (i := 8) (oi := { dst := some 23, op := Op.fieldAddr 25 (Operand.tmp 5) 3, type := 0, pos := "kit.go:54", after := #[{ on := 0, ground := Ground.phase }, { on := 1, ground := Ground.phase }, { on := 2, ground := Ground.phase }, { on := 3, ground := Ground.phase }, { on := 4, ground := Ground.phase }, { on := 5, ground := Ground.phase }, { on := 6, ground := Ground.phase }, { on := 7, ground := Ground.phase }], guard := none }) (v := .pointer (some ⟨g, 3, none⟩)) rfl (by kernel_rfl) (by kernel_rfl) (by kernel_rfl) (by kernel_rfl) (fun _ _ _ h => h) (Or.inl ⟨by rfl, ?_⟩) ?_
        · rintro w -
          go_simp
        simp only [Act.put, List.setIfInBounds_toArray, List.set_cons_zero, List.set_cons_succ]
        refine wpAnyX_ready (rs := [9]) (by kernel_rfl) (by simp) ?_
        refine AllReadyX.free rfl (by kernel_rfl) (fun K hK => ?_) AllReadyX.nil
        go_simp
        refine hK.out _ _ ?_
        clear hK K q3 f3
        generalize w3.setCell ⟨g, 3, none⟩ (.slice (some ⟨g2, 0, none⟩) e.val.length c2) = w4 at *
        refine wpAnyX_done (by kernel_rfl) ?_ _
        go_wp2_with fail
        go_meet
        have t2 := tV2.size
        have t1 := tV1.size
        have e1 := HG1.out
        have e2 := HG2.out
        have hwd : wa.drew.heap.size = wa.heap.size := rfl
        exact ⟨g1, c1, g2, c2, T2.out.1, R1.out.turns (Turns.of_tick T2.out) (show ¬ g1 = g by omega), R2.out.turns (Turns.of_tick T2.out) (show ¬ g2 = g by omega), by omega, by omega, (tV2.mono fun _ _ x => x.elim).trans (Turns.of_tick T2.out)⟩
      case rest =>
        obtain ⟨g1, c1, g2, c2, hbx, hr1, hr2, hg1, hg2, hT⟩ := hcut
        have d0 := cell_of_row wc g 0 _ 25 (0, 0) hbx
        have d1 := cell_of_row wc g 1 _ 25 (0, 0) hbx
        have d2 := cell_of_row wc g 2 _ 25 (0, 0) hbx
        have d3 := cell_of_row wc g 3 _ 25 (0, 0) hbx
        simp at d0 d1 d2 d3
        have R1 := hide hr1
        have R2 := hide hr2
        have tc : Turns (fun _ => False) wr wc := ⟨hT.os.trans T0.out.os, hT.tape.trans T0.out.tape, hT.output.trans T0.out.output, Nat.le_trans T0.out.size hT.size, fun k hk _ => (hT.block k (Nat.lt_of_lt_of_le hk T0.out.size) (by have := HGE.out; omega)).trans (T0.out.block k hk (fun x => x))⟩
        have ta : Turns (fun _ => False) wr (wc.alloc (.cells #[.slice (some ⟨g1, 0, none⟩) e.key.length c1, .int .u64 (e.seq : Nat), .int .i64 e.kind, .slice (some ⟨g2, 0, none⟩) e.val.length c2] 25)) := tc.alloc _
        obtain ⟨g', n', c', w8, hr8, hrow8, t8, b8, hin8⟩ := append_ent _ w.heap.size (.slice oa R.length oc) R (HROW.out.keep ta (fun _ _ x => x)) (by have := ta.size; omega) (by have := HRL.out; omega) ⟨some ⟨g1, 0, none⟩, c1, some ⟨g2, 0, none⟩, c2, e⟩ wc.heap.size 1 (heap_alloc_new wc _)
        have hq := hr8 27
        have tA := (Turns.refl (fun _ => False) wc).alloc (.cells #[.slice (some ⟨g1, 0, none⟩) e.key.length c1, .int .u64 (e.seq : Nat), .int .i64 e.kind, .slice (some ⟨g2, 0, none⟩) e.val.length c2] 25)
        have hRow : ∀ k, inRow (.slice oa R.length oc) k → w.heap.size ≤ k ∧ k < wr.heap.size := fun k hk => HROW.out.row hk
        have hs8 := t8.size
        have hsA := tA.size
        have l1 : g1 < wc.heap.size := by obtain ⟨cs, h1, _⟩ := R1.out; exact lt_of_heap h1
        have l2 : g2 < wc.heap.size := by obtain ⟨cs, h1, _⟩ := R2.out; exact lt_of_heap h1
        have l3 := T0.out.size
        have l4 := tc.size
        have l5 := HGE.out
        have hnot : ∀ q, wa.heap.size ≤ q → ¬ inRow (.slice oa R.length oc) q := fun q hq hk => by have := (hRow q hk).2; omega
        have hA8 : (wc.alloc (.cells #[.slice (some ⟨g1, 0, none⟩) e.key.length c1, .int .u64 (e.seq : Nat), .int .i64 e.kind, .slice (some ⟨g2, 0, none⟩) e.val.length c2] 25)).heap.size = wc.heap.size + 1 := by simp
        have HS8 := hide (show Shown w8 w.heap.size (R ++ [⟨some ⟨g1, 0, none⟩, c1, some ⟨g2, 0, none⟩, c2, e⟩]) from fun x hx => by
          rcases List.mem_append.1 hx with hx | hx
          · exact ((HSH.out.keep ta (fun _ _ _ _ x => x)).keep t8 (fun y hy q hq => HAP.out y hy q hq)) x hx
          · obtain rfl := List.mem_singleton.1 hx
            refine ⟨((RowB.bytes (c' := c1) R1.out rfl).quiet tA).turns t8 (fun a n c ee => by cases ee; exact hnot g1 hg1), ((RowB.bytes (c' := c2) R2.out rfl).quiet tA).turns t8 (fun a n c ee => by cases ee; exact hnot g2 hg2), fun q hq => ?_⟩
            rcases hq with ⟨a, ee, rfl⟩ | ⟨a, ee, rfl⟩
            · cases ee; exact ⟨by show w.heap.size ≤ g1; omega, by show g1 < w8.heap.size; omega⟩
            · cases ee; exact ⟨by show w.heap.size ≤ g2; omega, by show g2 < w8.heap.size; omega⟩)
        have HAP8 := hide (show ∀ x, x ∈ R ++ [⟨some ⟨g1, 0, none⟩, c1, some ⟨g2, 0, none⟩, c2, e⟩] → ∀ q, x.bytesIn q → ¬ inRow (.slice (some ⟨g', 0, none⟩) n' c') q from fun x hx q hq ⟨n2, c2', ee⟩ => by
          obtain rfl : g' = q := by cases ee; rfl
          rcases List.mem_append.1 hx with hx | hx
          · rcases hin8 with h | h
            · exact HAP.out x hx _ hq h
            · have := ((HSH.out x hx).2.2 _ hq).2
              omega
          · obtain rfl := List.mem_singleton.1 hx
            have hq2 : g' = g1 ∨ g' = g2 := by
              rcases hq with ⟨a, ee, hb⟩ | ⟨a, ee, hb⟩
              · cases ee; exact .inl hb.symm
              · cases ee; exact .inr hb.symm
            rcases hin8 with h | h
            · rcases hq2 with e1 | e1
              · exact hnot _ (by omega) h
              · exact hnot _ (by omega) h
            · omega)
        have HKY8 := hide (show Keyed w8 (R ++ [⟨some ⟨g1, 0, none⟩, c1, some ⟨g2, 0, none⟩, c2, e⟩]) from fun x hx => by
          rcases List.mem_append.1 hx with hx | hx
          · exact ((HKY.out.keep ta (fun _ _ _ _ x => x)).keep t8 (fun y hy q hq => HAP.out y hy q hq)) x hx
          · obtain rfl := List.mem_singleton.1 hx
            exact ⟨g1, rfl, (R1.out.turns tA (fun x => x)).turns t8 (hnot g1 hg1)⟩)
        have HR8 := hide hrow8
        have HM8 := hide (show (R ++ [(⟨some ⟨g1, 0, none⟩, c1, some ⟨g2, 0, none⟩, c2, e⟩ : Tow)]).map (·.e) = (l.take (k + 1)).map (·.e) by rw [HTK.out, List.map_append, HM.out]; rfl)
        have B8 := hide (BW.out.trans ((ta.below hsz (fun _ x => x.elim)).trans b8))
        clear hrow8 t8 b8 hin8 hr8 tA hRow hs8 hsA l1 l2 l3 l4 l5 hnot hA8 ta tc hT hr1 hr2 hbx
        go_wp2_with (at_builtin; refine wpList_append_run rfl _ _ 27 rfl _ _ rfl rfl _ _ hq ?_)
        go_roundw
        case rel =>
          exact ⟨k + 1, _, by go_num, by omega, HR8.out, HS8.out, HM8.out, B8.out, HAP8.out, HKY8.out⟩
        case measure => simp [intOf]; omega
    · have i1 : ¬ (k : Int) < (n : Nat) := by have := HN.out; omega
      go_wp2_with fail
      go_ret
      have hk : k = l.length := by omega
      subst hk
      exact ⟨_, rfl, R, HROW.out, HSH.out, by rw [HM.out, List.take_length], HKY.out, BW.out⟩
end Go.Proofs.Ytjnpendihdlgnaa

/-
  own: rows in memory of their own.
-/
namespace Go.Proofs.Ytjnpendihdlgnaa
open Go.RowKit
set_option maxRecDepth 100000
set_option maxHeartbeats 4000000
def rwCells (ps : List Rw) : List Value := ps.map Rw.v
/-- A row of rows, of one's own. -/
def RRow (w : World) (B : Nat) (v : Value) (ps : List Rw) : Prop :=
  (ps = [] ∧ v = .slice none 0 0) ∨ ∃ g c n : Nat, v = .slice (some ⟨g, 0, none⟩) n c ∧ n = ps.length ∧ n ≤ c ∧ B ≤ g ∧ RowC w g 27 c (rwCells ps)
theorem RRow.row {w : World} {B : Nat} {v : Value} {R : List Rw} (h : RRow w B v R) {k : Nat} (hk : inRow v k) : B ≤ k ∧ k < w.heap.size := by
  obtain ⟨n', c', e⟩ := hk
  rcases h with ⟨_, rfl⟩ | ⟨g, c, n, rfl, _, _, hB, cs, h1, _⟩
  · cases e
  · cases e; exact ⟨hB, lt_of_heap h1⟩
theorem RRow.keep {S : Nat → Prop} {w w' : World} {B : Nat} {v : Value} {R : List Rw} (h : RRow w B v R) (t : Turns S w w') (hn : ∀ k, inRow v k → ¬ S k) : RRow w' B v R := by
  rcases h with h | ⟨g, c, n, h1, h2, h3, h4, cs, h5, h6, h7⟩
  · exact .inl h
  · exact .inr ⟨g, c, n, h1, h2, h3, h4, cs, t.heap h5 (hn g ⟨n, c, h1⟩), h6, h7⟩
theorem RRow.len {w : World} {B : Nat} {v : Value} {R : List Rw} (h : RRow w B v R) : ∃ a c, v = .slice a R.length c := by
  rcases h with ⟨rfl, rfl⟩ | ⟨g, c, n, rfl, rfl, _⟩
  · exact ⟨none, 0, rfl⟩
  · exact ⟨_, _, rfl⟩
theorem append_rw (w : World) (B : Nat) (v : Value) (R : List Rw) (h : RRow w B v R) (hB : B ≤ w.heap.size) (hlen : R.length ≤ 1000000000) (x : Rw) (g c : Nat) (hg : w.heap[g]? = some (.cells #[x.v] 27 (0, 0))) :
    ∃ (g' n' c' : Nat) (w' : World), (∀ ty, (Builtin.append_ #[28, 28] ty #[v, .slice (some ⟨g, 0, none⟩) 1 c]).run Try.prog w = .ok (.slice (some ⟨g', 0, none⟩) n' c') w') ∧ RRow w' B (.slice (some ⟨g', 0, none⟩) n' c') (R ++ [x]) ∧ Turns (inRow v) w w' ∧ Below B w w' ∧ (inRow v g' ∨ g' = w.heap.size) := by
  have hcell : ∀ j, w.cell? ⟨g, j, none⟩ = (#[x.v] : Array Value)[j]? := fun j => cell_of_row w g j _ 27 (0, 0) hg
  have hsrc : Src Try.prog Try.t27.size 28 (.slice (some ⟨g, 0, none⟩) 1 c) 1 [x.v] w := Src.ofSlice w Try.underlying28 ⟨g, 0, none⟩ 1 c _ (by rw [t27_size]; rfl) (fun j u hu => by
    rw [Go.WideShapes.add_plain, Nat.zero_add, hcell j]
    simpa using hu) (fun u hu => by
    simp only [List.mem_cons, List.not_mem_nil, or_false] at hu
    subst hu
    rfl)
  obtain ⟨base, sLen, sCap, rfl, hsl, hbase⟩ : ∃ (base : Option Addr) (sLen sCap : Nat), v = .slice base sLen sCap ∧ sLen = R.length ∧ ((base = none ∧ sLen = 0 ∧ sCap = 0 ∧ 0 < 1) ∨ ∃ g, base = some ⟨g, 0, none⟩ ∧ B ≤ g ∧ sLen ≤ sCap ∧ RowC w g 27 (sCap * Try.t27.size) (rwCells R)) := by
    rcases h with ⟨rfl, rfl⟩ | ⟨g, c, n, rfl, rfl, h3, h4, h5⟩
    · exact ⟨none, 0, 0, rfl, rfl, .inl ⟨rfl, rfl, rfl, by omega⟩⟩
    · exact ⟨_, _, _, rfl, rfl, .inr ⟨g, rfl, h4, h3, by rw [t27_size, Nat.mul_one]; exact h5⟩⟩
  obtain ⟨g', cp, w', hr, hg', hrow, hb, hcp, hin, hnew, hkeep⟩ := append_gen2 (P := Try.prog) w B 28 27 Try.t27 _ Try.underlying28 t27_info t27_zero rfl base sLen sCap (rwCells R) (by rw [t27_size, hsl, Nat.mul_one]; simp [rwCells]) _ 1 _ hsrc hB hbase (by rw [t27_bytes]; omega) (by omega)
  refine ⟨g', _, cp, w', hr, .inr ⟨g', cp, _, rfl, by simp [hsl], hcp, hg', ?_⟩, ⟨hb.os, hb.tape, hb.output, hb.size, fun k hk hn => hkeep k hk fun e => hn ⟨sLen, sCap, by rw [e]⟩⟩, hb, ?_⟩
  · rw [t27_size, Nat.mul_one] at hrow
    have e : rwCells (R ++ [x]) = rwCells R ++ [x.v] := by simp [rwCells]
    rw [e]
    exact hrow
  · rcases Nat.lt_or_ge sCap (sLen + 1) with h1 | h1
    · exact .inr (hnew h1)
    · exact .inl ⟨sLen, sCap, by rw [(hin h1).1]⟩
/-- Entries of one's own lie there. -/
theorem ents_of {w : World} {B : Nat} {v : Value} {R : List Tow} (h : ERow w B v R) (hs : Shown w B R) : ∃ a c, v = .slice a R.length c ∧ Ents w a R ∧ R.length ≤ c ∧ (a = none → c = 0) := by
  by_cases hne : R = []
  · subst hne
    rcases h with ⟨_, rfl⟩ | ⟨g, c, n, rfl, rfl, h3, _⟩
    · exact ⟨none, 0, rfl, fun k x hx => by simp at hx, by simp, fun _ => rfl⟩
    · exact ⟨_, _, rfl, fun k x hx => by simp at hx, h3, fun e => by cases e⟩
  · obtain ⟨g, c, rfl, hc⟩ := h.at hne
    have hcap : R.length ≤ c := by
      rcases h with ⟨e, _⟩ | ⟨g', c', n', e, rfl, h3, _⟩
      · exact absurd e hne
      · cases e; exact h3
    refine ⟨_, c, rfl, fun k x hx => ⟨⟨g, 0, rfl, fun j u hu => ?_⟩, (hs x (List.mem_of_getElem? hx)).1, (hs x (List.mem_of_getElem? hx)).2.1⟩, hcap, fun e => by cases e⟩
    obtain ⟨c0, c1, c2, c3⟩ := hc k x hx
    rw [Nat.zero_add]
    match j, hu with
    | 0, hu => obtain rfl : x.kv = u := by simpa using hu
               exact c0
    | 1, hu => obtain rfl : Value.int .u64 (x.e.seq : Nat) = u := by simpa using hu
               exact c1
    | 2, hu => obtain rfl : Value.int .i64 x.e.kind = u := by simpa using hu
               exact c2
    | 3, hu => obtain rfl : x.vv = u := by simpa using hu
               exact c3
    | j + 4, hu => simp at hu
/-- Rows of one's own, apart from the row v. -/
def Owned (w : World) (B : Nat) (v : Value) (ps : List Rw) : Prop := ∀ x, x ∈ ps → ERow w B x.v x.R ∧ Shown w B x.R ∧ (x.a = none → x.c = 0) ∧ x.R.length ≤ x.c ∧ (∀ k, inRow x.v k → ¬ inRow v k) ∧ ∀ t, t ∈ x.R → ∀ q, t.bytesIn q → ¬ inRow v q
def entR (rs : List Rw) : List (List Ent) := rs.map fun x => x.R.map (·.e)
theorem entR_sum (rs : List Rw) : sumR rs = ((entR rs).map List.length).sum := by simp [sumR, entR, Function.comp_def]
theorem Owned.rows {w : World} {B : Nat} {v : Value} {ps : List Rw} (h : RRow w B v ps) (ho : Owned w B v ps) (hs : ∀ x, x ∈ ps → x.R.length ≤ 1000000) : ∃ a c, v = .slice a ps.length c ∧ RowsIn w a ps := by
  have hok : ∀ x, x ∈ ps → RwOk w x := fun x hx => by
    obtain ⟨h1, h2, _, h4, _⟩ := ho x hx
    obtain ⟨a, c, e, h5, _⟩ := ents_of h1 h2
    cases e
    exact ⟨h5, h4, hs x hx⟩
  rcases h with ⟨rfl, rfl⟩ | ⟨g, c, n, rfl, rfl, h3, h4, cs, h5, h6, h7⟩
  · exact ⟨none, 0, rfl, fun k x hx => by simp at hx⟩
  · refine ⟨_, c, rfl, fun k x hx => ⟨⟨g, 0, rfl, ?_⟩, hok x (List.mem_of_getElem? hx)⟩⟩
    have hk := (List.getElem?_eq_some_iff.1 hx).1
    rw [Nat.zero_add, cell_of_row w g k cs 27 (0, 0) h5, h7 k (by simpa [rwCells] using hk)]
    simp only [rwCells, List.getElem?_map, hx, Option.map_some]
    rfl
theorem le_sum : ∀ {l : List Nat} {x : Nat}, x ∈ l → x ≤ l.sum
  | y :: r, x, h => by
    rw [List.sum_cons]
    rcases List.mem_cons.1 h with rfl | h
    · omega
    · have := le_sum h
      omega
/-- Rows of which not too much is asked. -/
structure Few (rs : List Rw) : Prop where
  rows : rs.length ≤ 20
  all : sumR rs ≤ 150
  bytes : wAll rs ≤ 15000
theorem Few.each {rs : List Rw} (h : Few rs) : ∀ x, x ∈ rs → x.R.length ≤ 150 ∧ ∀ y, y ∈ x.R → y.e.key.length ≤ 15000 ∧ y.e.val.length ≤ 15000 := fun x hx => by
  have h1 : x.R.length ≤ sumR rs := le_sum (List.mem_map.2 ⟨x, hx, rfl⟩)
  have h2 : weigh x.R ≤ wAll rs := le_sum (List.mem_map.2 ⟨x, hx, rfl⟩)
  have := h.all
  have := h.bytes
  refine ⟨by omega, fun y hy => ?_⟩
  have := weigh_mem hy
  omega
theorem ownRows_any (a : Option Addr) (n c : Nat) (rs : List Rw) (w : World) (h : ∀ (k : Nat) (x : Rw), rs[k]? = some x → (∃ b off, a = some ⟨b, off, none⟩ ∧ w.cell? ⟨b, off + k, none⟩ = some (.slice x.a x.R.length x.c)) ∧ Ents w x.a x.R) (hn : n = rs.length) (hf : Few rs) :
    Calls Try.prog 14 #[.slice a n c] w fun e w' => ∃ v ps, e = .returned v ∧ RRow w' w.heap.size v ps ∧ Owned w' w.heap.size v ps ∧ entR ps = entR rs ∧ Below w.heap.size w w' := by
  have H0 := hide h
  have HN := hide hn
  have HF := hide hf
  have hmi : (n : Int) ≤ 20 := by have := hf.rows; omega
  clear h hn hf
  go_enter Try.func14, Try.ntmps14
  go_wp2_with fail
  go_loopw [3, 4] (fun ov iv wr => ∃ (k : Nat) (ps : List Rw), iv = .int .i64 (k : Nat) ∧ k ≤ n ∧ ps.length = k ∧ RRow wr w.heap.size ov ps ∧ Owned wr w.heap.size ov ps ∧ entR ps = entR (rs.take k) ∧ Below w.heap.size w wr) (fun _ iv _ => n - (intOf iv).toNat)
  case atStart => exact ⟨0, [], rfl, Nat.zero_le _, rfl, .inl ⟨rfl, rfl⟩, fun x hx => (by cases hx), rfl, Below.refl _ _⟩
  case round =>
    obtain ⟨k, ps, rfl, hk, hpl, hR, hO, hE, hb⟩ := hrel
    obtain ⟨oa, oc, rfl⟩ := hR.len
    have HR := hide hR
    have HO := hide hO
    have HE := hide hE
    have BW := hide hb
    have HPL := hide hpl
    have hsz := hb.size
    have TW := hide (Turns.of_below hb (fun _ => False))
    clear hR hO hE hb hpl
    by_cases hk2 : k < n
    · have i1 : (k : Int) < n := by omega
      have i0 : (0 : Int) ≤ (k : Int) := by omega
      obtain ⟨x, hx⟩ : ∃ x, rs[k]? = some x := ⟨_, List.getElem?_eq_getElem (by have := HN.out; omega)⟩
      obtain ⟨⟨b, off, rfl, hc⟩, hen⟩ := H0.out k x hx
      have hc1 := TW.out.cell hc (fun x => x)
      have hfe := HF.out.each x (List.mem_of_getElem? hx)
      have HT := hide (show entR (rs.take (k + 1)) = entR (rs.take k) ++ [x.R.map (·.e)] by rw [List.take_add_one, hx]; simp [entR])
      have OE := hide (ownEntries_any x.a x.R.length x.c x.R wr (hen.quiet TW.out) rfl (by omega) (fun y hy => by have := hfe.2 y hy; omega))
      clear hc hx hen hfe
      obtain ⟨xa, xc, xR⟩ := x
      simp only at *
      generalize hxl : xR.length = xl at hc1 OE
      clear hxl
      generalize hpn : ps.length = pl at HR HO
      have HPN := hide hpn
      clear hpn
      go_wp2_with fail
      refine OE.out.mono ?_
      rintro e w2 ⟨v2, rfl, R2, hE2, hS2, hm2, _, b2⟩
      obtain ⟨a2, c2, rfl, hen2, hcap2, hnil2⟩ := ents_of hE2 hS2
      have t2 := Turns.of_below b2 (fun _ => False)
      have ta : Turns (fun _ => False) wr (w2.alloc (.cells #[.slice a2 R2.length c2] 27)) := t2.alloc _
      have tal : Turns (fun _ => False) w2 (w2.alloc (.cells #[.slice a2 R2.length c2] 27)) := (Turns.refl _ w2).alloc _
      have hal : (w2.alloc (.cells #[.slice a2 R2.length c2] 27)).heap.size = w2.heap.size + 1 := by simp
      obtain ⟨g', n', c', w3, hr3, hrow3, t3, b3, hin3⟩ := append_rw (w2.alloc (.cells #[.slice a2 R2.length c2] 27)) w.heap.size (.slice oa pl oc) ps (HR.out.keep ta (fun _ _ x => x)) (by have := ta.size; omega) (by have := HPL.out; omega) ⟨a2, c2, R2⟩ w2.heap.size 1 (heap_alloc_new w2 _)
      have hq := hr3 28
      have hrowlt : ∀ q, inRow (.slice oa pl oc) q → q < wr.heap.size := fun q hq => (HR.out.row hq).2
      have hnew : ∀ {q : Nat}, inRow (.slice (some ⟨g', 0, none⟩) n' c') q → inRow (.slice oa pl oc) q ∨ w2.heap.size < q := fun {q} ⟨n2, c2', ee⟩ => by
        have : g' = q := by cases ee; rfl
        subst this
        rcases hin3 with h | h
        · exact .inl h
        · exact .inr (by omega)
      have OWN := hide (show Owned w3 w.heap.size (.slice (some ⟨g', 0, none⟩) n' c') (ps ++ [⟨a2, c2, R2⟩]) from fun y hy => by
        rcases List.mem_append.1 hy with hy | hy
        · obtain ⟨h1, h2, h3, h4, h5, h6⟩ := HO.out y hy
          refine ⟨(h1.keep ta (fun _ _ x => x)).keep t3 h5, (h2.keep ta (fun _ _ _ _ x => x)).keep t3 h6, h3, h4, fun q hq hr => ?_, fun t ht q hq hr => ?_⟩
          · rcases hnew hr with h | h
            · exact h5 q hq h
            · have := (h1.row hq).2; have := t2.size; omega
          · rcases hnew hr with h | h
            · exact h6 t ht q hq h
            · have := ((h2 t ht).2.2 q hq).2; have := t2.size; omega
        · obtain rfl := List.mem_singleton.1 hy
          have hE3 : ERow w2 wr.heap.size (.slice a2 R2.length c2) R2 := hE2
          have hno : ∀ q, inRow (.slice a2 R2.length c2) q → wr.heap.size ≤ q ∧ q < w2.heap.size := fun q hq => hE3.row hq
          refine ⟨((hE3.keep tal (fun _ _ x => x)).keep t3 fun q hq hr => ?_).le hsz, ((hS2.keep tal (fun _ _ _ _ x => x)).keep t3 fun t ht q hq hr => ?_).le hsz, hnil2, hcap2, fun q hq hr => ?_, fun t ht q hq hr => ?_⟩
          · have := (hno q hq).1; have := hrowlt q hr; omega
          · have := ((hS2 t ht).2.2 q hq).1; have := hrowlt q hr; omega
          · rcases hnew hr with h | h
            · have := (hno q hq).1; have := hrowlt q h; omega
            · have := (hno q hq).2; omega
          · rcases hnew hr with h | h
            · have := ((hS2 t ht).2.2 q hq).1; have := hrowlt q h; omega
            · have := ((hS2 t ht).2.2 q hq).2; omega)
      have HR3 := hide hrow3
      have HE3 := hide (show entR (ps ++ [⟨a2, c2, R2⟩]) = entR (rs.take (k + 1)) by rw [HT.out, ← HE.out]; simp [entR, hm2])
      have B3 := hide (BW.out.trans ((ta.below hsz (fun _ x => x.elim)).trans b3))
      clear hE2 hS2 hm2 b2 hen2 hcap2 hnil2 t2 ta tal hal hr3 hrow3 t3 b3 hin3 hrowlt hnew OE
      generalize R2.length = rl2 at *
      go_wp2_with (at_builtin; refine wpList_append_run rfl _ _ 28 rfl _ _ rfl rfl _ _ hq ?_)
      go_roundw
      case rel => exact ⟨k + 1, _, by go_num, by omega, by rw [List.length_append, HPN.out, ← HPN.out, HPL.out]; rfl, HR3.out, OWN.out, HE3.out, B3.out⟩
      case measure => simp [intOf]; omega
    · have i1 : ¬ (k : Int) < n := by omega
      obtain rfl : k = n := by omega
      have X := hide (show entR ps = entR rs by have := HE.out; rw [HN.out, List.take_length] at this; exact this)
      go_wp2_with fail
      go_ret
      exact ⟨_, rfl, ps, HR.out, HO.out, X.out, BW.out⟩
end Go.Proofs.Ytjnpendihdlgnaa

/-
  The document's Check, check, two and All.
-/
namespace Go.Proofs.Ytjnpendihdlgnaa
open Go.RowKit
set_option maxRecDepth 100000
set_option maxHeartbeats 4000000
theorem rCheck_any (a : Option Addr) (n c : Nat) (l : List Tow) (w : World) (h : Ents w a l) (hn : n = l.length) (hmx : n ≤ 1000000) (hkb : ∀ x, x ∈ l → x.e.key.length ≤ 1000000) :
    Calls Try.prog 20 #[.slice a n c] w fun e w' => e = .returned (.int .i64 (ordE (inOrd (ents l)))) ∧ Below w.heap.size w w' := by
  have RR := hide (rrow_any a n c l w h hn hmx hkb)
  clear h hn hkb
  cases ho : inOrd (ents l) with
  | true =>
    rw [ho] at RR
    clear ho
    go_enter Try.func20, Try.ntmps20
    go_wp2_with fail
    refine RR.out.mono ?_
    rintro e w1 ⟨rfl, b1⟩
    go_wp2_with fail
    go_ret
    exact ⟨rfl, b1⟩
  | false =>
    rw [ho] at RR
    clear ho
    go_enter Try.func20, Try.ntmps20
    go_wp2_with fail
    refine RR.out.mono ?_
    rintro e w1 ⟨rfl, b1⟩
    go_wp2_with fail
    go_ret
    exact ⟨rfl, b1⟩
/-- Rows as the document's functions read them. -/
def RowsR (w : World) (a : Option Addr) (rs : List Rw) : Prop := ∀ (k : Nat) (x : Rw), rs[k]? = some x → (∃ b off, a = some ⟨b, off, none⟩ ∧ w.cell? ⟨b, off + k, none⟩ = some (.slice x.a x.R.length x.c)) ∧ Ents w x.a x.R
theorem RowsR.quiet {w w' : World} {a : Option Addr} {rs : List Rw} (h : RowsR w a rs) (t : Turns (fun _ => False) w w') : RowsR w' a rs := fun k x hx => by
  obtain ⟨⟨b, off, e, hc⟩, ho⟩ := h k x hx
  exact ⟨⟨b, off, e, t.cell hc (fun x => x)⟩, ho.quiet t⟩
theorem rcheck_any (a : Option Addr) (n c : Nat) (rs : List Rw) (w : World) (h : RowsR w a rs) (hn : n = rs.length) (hf : Few rs) :
    Calls Try.prog 36 #[.slice a n c] w fun e w' => e = .returned (.int .i64 (ordE (eachOrd rs))) ∧ Below w.heap.size w w' := by
  have H0 := hide h
  have HN := hide hn
  have HF := hide hf
  have hmi : (n : Int) ≤ 20 := by have := hf.rows; omega
  clear h hn hf
  go_enter Try.func36, Try.ntmps36
  go_wp2_with fail
  go_loopw [3] (fun v8 wr => ∃ i : Nat, v8 = .int .i64 (i : Nat) ∧ i ≤ n ∧ (∀ j x, j < i → rs[j]? = some x → inOrd (ents x.R) = true) ∧ Below w.heap.size w wr) (fun v8 _ => n - (intOf v8).toNat)
  case atStart => exact ⟨0, rfl, Nat.zero_le _, fun j x hj => by omega, Below.refl _ _⟩
  case round =>
    obtain ⟨i, rfl, hi, hO, hb⟩ := hrel
    have HO := hide hO
    have BW := hide hb
    have TW := hide (Turns.of_below hb (fun _ => False))
    clear hO hb
    by_cases hin : i < n
    · obtain ⟨x, hx⟩ : ∃ x, rs[i]? = some x := ⟨_, List.getElem?_eq_getElem (by have := HN.out; omega)⟩
      obtain ⟨⟨b, off, rfl, hc⟩, hok⟩ := H0.out i x hx
      have hc1 := TW.out.cell hc (fun x => x)
      have i1 : (i : Int) < n := by omega
      have i0 : (0 : Int) ≤ i := by omega
      have HX := hide hx
      have hfe := HF.out.each x (List.mem_of_getElem? hx)
      have HCK := hide (rCheck_any x.a x.R.length x.c x.R wr (hok.quiet TW.out) rfl (by omega) (fun y hy => by have := hfe.2 y hy; omega))
      clear hx hok hc hfe
      obtain ⟨xa, xc, xR⟩ := x
      simp only at *
      generalize hxl : xR.length = xl at hc1 HCK
      clear hxl
      cases ho : inOrd (ents xR) with
      | true =>
        rw [ho] at HCK
        have HOX := hide ho
        clear ho
        go_wp2_with fail
        refine HCK.out.mono ?_
        rintro e w2 ⟨rfl, hb2⟩
        have B2 := hide (then_below BW.out hb2 (Nat.le_refl _))
        clear hb2
        rw [show ordE true = 0 from rfl]
        go_wp2_with fail
        go_roundw
        case rel => exact ⟨i + 1, by go_num, by omega, fun j x hj hx => by
          by_cases e : j = i
          · subst e
            have := HX.out
            rw [hx] at this
            cases this
            exact HOX.out
          · exact HO.out j x (by omega) hx, B2.out⟩
        case measure => simp [intOf]; omega
      | false =>
        rw [ho] at HCK
        have HOX := hide ho
        clear ho
        go_wp2_with fail
        refine HCK.out.mono ?_
        rintro e w2 ⟨rfl, hb2⟩
        have B2 := hide (then_below BW.out hb2 (Nat.le_refl _))
        clear hb2
        rw [show ordE false = 2 from rfl]
        have FIN := hide (show ordE (eachOrd rs) = 2 by
          have : eachOrd rs = false := by
            refine Bool.eq_false_iff.2 fun q => ?_
            have := List.all_eq_true.1 q _ (List.mem_of_getElem? HX.out)
            rw [HOX.out] at this
            cases this
          rw [this]; rfl)
        go_wp2_with fail
        go_ret
        exact ⟨by rw [FIN.out]; rfl, B2.out⟩
    · obtain rfl : i = n := by omega
      have FIN := hide (show ordE (eachOrd rs) = 0 by
        have : eachOrd rs = true := List.all_eq_true.2 fun x hx => by
          obtain ⟨j, hj⟩ := List.getElem?_of_mem hx
          exact HO.out j x (by have := (List.getElem?_eq_some_iff.1 hj).1; have := HN.out; omega) hj
        rw [this]; rfl)
      go_wp2_with fail
      go_ret
      exact ⟨by rw [FIN.out]; rfl, BW.out⟩
def Fc (u : World) (b o : Nat) (x : Tow) : Prop := u.cell? ⟨b, o, none⟩ = some (.slice x.ka x.e.key.length x.kc) ∧ u.cell? ⟨b, o + 1, none⟩ = some (.int .u64 (x.e.seq : Nat)) ∧ u.cell? ⟨b, o + 2, none⟩ = some (.int .i64 x.e.kind) ∧ u.cell? ⟨b, o + 3, none⟩ = some (.slice x.va x.e.val.length x.vc)
def F37 (u : World) (b o : Nat) (x : Tow) (b' o' : Nat) (y : Tow) : Prop := Fc u b o x ∧ Fc u b' o' y
theorem fc_of {w : World} {a : Option Addr} {l : List Tow} (h : Ents w a l) {i : Nat} {x : Tow} (hx : l[i]? = some x) : ∃ b off, a = some ⟨b, off, none⟩ ∧ Fc w b (off + i * 4) x ∧ Bytes w (.slice x.ka x.e.key.length x.kc) x.e.key := by
  obtain ⟨⟨b, off, e, hc⟩, h1, _⟩ := h i x hx
  exact ⟨b, off, e, ⟨hc 0 _ rfl, hc 1 _ rfl, hc 2 _ rfl, hc 3 _ rfl⟩, h1⟩
theorem Fc.quiet {w w' : World} {b o : Nat} {x : Tow} (h : Fc w b o x) (t : Turns (fun _ => False) w w') : Fc w' b o x := ⟨t.cell h.1 (fun x => x), t.cell h.2.1 (fun x => x), t.cell h.2.2.1 (fun x => x), t.cell h.2.2.2 (fun x => x)⟩
theorem drop_at {l : List Tow} {i : Nat} {x : Tow} (h : l[i]? = some x) : l.drop i = x :: l.drop (i + 1) := by
  obtain ⟨h1, rfl⟩ := List.getElem?_eq_some_iff.1 h
  exact List.drop_eq_getElem_cons h1
theorem mg2_lt {a b : Tow} (r t : List Tow) (h : cmpE a.e.en b.e.en < 0) : mg2 (a :: r) (b :: t) = a :: mg2 r (b :: t) := by rw [mg2.eq_def]; simp only [h, if_true]
theorem mg2_eq {a b : Tow} (r t : List Tow) (h : cmpE a.e.en b.e.en = 0) : mg2 (a :: r) (b :: t) = a :: mg2 r t := by rw [mg2.eq_def]; simp only [h, if_true]; rw [if_neg (by omega)]
theorem mg2_gt {a b : Tow} (r t : List Tow) (h : 0 < cmpE a.e.en b.e.en) : mg2 (a :: r) (b :: t) = b :: mg2 (a :: r) t := by rw [mg2.eq_def]; simp only; rw [if_neg (by omega), if_neg (by omega)]
theorem two_any (aa ba : Option Addr) (n ac m bc : Nat) (A B : List Tow) (w : World) (ha : Ents w aa A) (hb : Ents w ba B) (hn : n = A.length) (hm : m = B.length) (hnm : n + m ≤ 100000) (hka : ∀ x, x ∈ A → x.e.key.length ≤ 1000000) (hkb : ∀ x, x ∈ B → x.e.key.length ≤ 1000000) :
    Calls Try.prog 37 #[.slice aa n ac, .slice ba m bc] w fun e w' => ∃ v R, e = .returned v ∧ ERow w' w.heap.size v R ∧ R = mg2 A B ∧ Below w.heap.size w w' := by
  have HA := hide ha
  have HB := hide hb
  have HN := hide hn
  have HMm := hide hm
  have HKA := hide hka
  have HKB := hide hkb
  have hni : (n : Int) ≤ 100000 := by omega
  have hmi : (m : Int) ≤ 100000 := by omega
  clear ha hb hn hm hka hkb
  go_enter Try.func37, Try.ntmps37
  go_wp2_with fail
  go_loopw [5, 6, 7] (fun ov iv kv wr => ∃ (i k : Nat) (R : List Tow), iv = .int .i64 (i : Nat) ∧ kv = .int .i64 (k : Nat) ∧ i ≤ n ∧ k ≤ m ∧ ERow wr w.heap.size ov R ∧ R ++ mg2 (A.drop i) (B.drop k) = mg2 A B ∧ R.length ≤ i + k ∧ Below w.heap.size w wr) (fun _ iv kv _ => (n - (intOf iv).toNat) + (m - (intOf kv).toNat))
  case atStart => exact ⟨0, 0, [], rfl, rfl, Nat.zero_le _, Nat.zero_le _, .inl ⟨rfl, rfl⟩, rfl, Nat.zero_le _, Below.refl _ _⟩
  case round =>
    obtain ⟨i, k, R, rfl, rfl, hi, hk, hR, hM, hlr, hbw⟩ := hrel
    obtain ⟨oa, oc, rfl⟩ := hR.len
    generalize hrl : R.length = rl at hR
    have HLR := hide (show R.length ≤ 100000 by omega)
    have HLR2 := hide hlr
    have HM := hide hM
    have TW := hide (Turns.of_below hbw (fun _ => False))
    have HR0 := hide hR
    have HB0 := hide hbw
    clear hR hM hlr hbw hrl
    by_cases hin : i < n
    · obtain ⟨xa, hxa⟩ : ∃ x, A[i]? = some x := ⟨_, List.getElem?_eq_getElem (by have := HN.out; omega)⟩
      obtain ⟨ab, ao, rfl, hfa, hya⟩ := fc_of (HA.out.quiet TW.out) hxa
      have HDA := hide (drop_at hxa)
      have hkxa := HKA.out xa (List.mem_of_getElem? hxa)
      have i1 : (i : Int) < n := by omega
      have i0 : (0 : Int) ≤ i := by omega
      have i2 : ¬ (i : Int) = n := by omega
      by_cases hkm : k < m
      · obtain ⟨xb, hxb⟩ : ∃ x, B[k]? = some x := ⟨_, List.getElem?_eq_getElem (by have := HMm.out; omega)⟩
        obtain ⟨bb, bo, rfl, hfb, hyb⟩ := fc_of (HB.out.quiet TW.out) hxb
        have HDB := hide (drop_at hxb)
        have hkxb := HKB.out xb (List.mem_of_getElem? hxb)
        have k1 : (k : Int) < m := by omega
        have k0 : (0 : Int) ≤ k := by omega
        have k2 : ¬ (k : Int) = m := by omega
        have CP := hide (fun (u : World) (t : Turns (fun _ => False) wr u) => rcompare_any xa.ka xb.ka xa.va xb.va xa.e.key.length xa.kc xa.e.val.length xa.vc xb.e.key.length xb.kc xb.e.val.length xb.vc xa.e.kind xb.e.kind xa.e.seq xb.e.seq xa.e.key xb.e.key u (hya.quiet t) (hyb.quiet t) (by omega) (by omega))
        have SK := hide (fun (u : World) (t : Turns (fun _ => False) wr u) => show F37 u ab (ao + i * 4) xa bb (bo + k * 4) xb from ⟨hfa.quiet t, hfb.quiet t⟩)
        generalize hcv : cmpE (xa.e.key, xa.e.seq) (xb.e.key, xb.e.seq) = cv at CP
        have HCV := hide (show cmpE xa.e.en xb.e.en = cv from hcv)
        have FA := hide hfa
        have FB := hide hfb
        clear hxa hxb hya hyb hkxa hkxb hcv hfa hfb
        go_upto_region 5 with (fail)
        have tV : Turns (fun _ => False) wr wr.drew := (Turns.refl _ _).drew
        refine wp_region_held_drew (S := fun u => F37 u ab (ao + i * 4) xa bb (bo + k * 4) xb) (by kernel_rfl) (SK.out _ tV) (fun _ => ?_)
        change wpAnyH _ _ _ _ _ 10 (Array.replicate 10 false) _ _
        refine wpAnyH_take (i := 0) (oi := { dst := some 19, op := Op.move (Operand.tmp 0), type := 27, pos := "ref.go:40", after := #[], guard := none }) (v := .slice (some ⟨ab, ao, none⟩) n ac) rfl (by kernel_rfl) (by kernel_rfl) (by kernel_rfl) (fun _ _ _ h => h) (Or.inl ⟨by rfl, ?_⟩) (SK.out _ tV) ?_
        · rintro w ⟨⟨x0, x1, x2, x3⟩, y0, y1, y2, y3⟩
          go_simp
        simp only [Act.put, List.setIfInBounds_toArray, List.set_cons_zero, List.set_cons_succ]
        refine wpAnyH_take (i := 1) (oi := { dst := some 20, op := Op.move (Operand.tmp 6), type := 3, pos := "ref.go:40", after := #[], guard := none }) (v := .int .i64 (i : Nat)) rfl (by kernel_rfl) (by kernel_rfl) (by kernel_rfl) (fun _ _ _ h => h) (Or.inl ⟨by rfl, ?_⟩) (SK.out _ tV) ?_
        · rintro w ⟨⟨x0, x1, x2, x3⟩, y0, y1, y2, y3⟩
          go_simp
        simp only [Act.put, List.setIfInBounds_toArray, List.set_cons_zero, List.set_cons_succ]
        refine wpAnyH_take (i := 2) (oi := { dst := some 21, op := Op.indexAddr 27 (Operand.tmp 19) (Operand.tmp 20), type := 0, pos := "ref.go:40", after := #[{ on := 0, ground := Ground.data }, { on := 1, ground := Ground.data }], guard := none }) (v := .pointer (some ⟨ab, ao + i * 4, none⟩)) rfl (by kernel_rfl) (by kernel_rfl) (by kernel_rfl) (fun _ _ _ h => h) (Or.inl ⟨by rfl, ?_⟩) (SK.out _ tV) ?_
        · rintro w ⟨⟨x0, x1, x2, x3⟩, y0, y1, y2, y3⟩
          go_simp
        simp only [Act.put, List.setIfInBounds_toArray, List.set_cons_zero, List.set_cons_succ]
        refine wpAnyH_take (i := 3) (oi := { dst := some 22, op := Op.load 25 (Operand.tmp 21), type := 25, pos := "ref.go:40", after := #[{ on := 2, ground := Ground.data }], guard := none }) (v := .agg #[.slice xa.ka xa.e.key.length xa.kc, .int .u64 (xa.e.seq : Nat), .int .i64 xa.e.kind, .slice xa.va xa.e.val.length xa.vc]) rfl (by kernel_rfl) (by kernel_rfl) (by kernel_rfl) (fun _ _ _ h => h) (Or.inl ⟨by rfl, ?_⟩) (SK.out _ tV) ?_
        · rintro w ⟨⟨x0, x1, x2, x3⟩, y0, y1, y2, y3⟩
          go_simp
        simp only [Act.put, List.setIfInBounds_toArray, List.set_cons_zero, List.set_cons_succ]
        refine wpAnyH_take (i := 4) (oi := { dst := some 23, op := Op.move (Operand.tmp 1), type := 27, pos := "ref.go:40", after := #[], guard := none }) (v := .slice (some ⟨bb, bo, none⟩) m bc) rfl (by kernel_rfl) (by kernel_rfl) (by kernel_rfl) (fun _ _ _ h => h) (Or.inl ⟨by rfl, ?_⟩) (SK.out _ tV) ?_
        · rintro w ⟨⟨x0, x1, x2, x3⟩, y0, y1, y2, y3⟩
          go_simp
        simp only [Act.put, List.setIfInBounds_toArray, List.set_cons_zero, List.set_cons_succ]
        refine wpAnyH_take (i := 5) (oi := { dst := some 24, op := Op.move (Operand.tmp 7), type := 3, pos := "ref.go:40", after := #[], guard := none }) (v := .int .i64 (k : Nat)) rfl (by kernel_rfl) (by kernel_rfl) (by kernel_rfl) (fun _ _ _ h => h) (Or.inl ⟨by rfl, ?_⟩) (SK.out _ tV) ?_
        · rintro w ⟨⟨x0, x1, x2, x3⟩, y0, y1, y2, y3⟩
          go_simp
        simp only [Act.put, List.setIfInBounds_toArray, List.set_cons_zero, List.set_cons_succ]
        refine wpAnyH_take (i := 6) (oi := { dst := some 25, op := Op.indexAddr 27 (Operand.tmp 23) (Operand.tmp 24), type := 0, pos := "ref.go:40", after := #[{ on := 4, ground := Ground.data }, { on := 5, ground := Ground.data }], guard := none }) (v := .pointer (some ⟨bb, bo + k * 4, none⟩)) rfl (by kernel_rfl) (by kernel_rfl) (by kernel_rfl) (fun _ _ _ h => h) (Or.inl ⟨by rfl, ?_⟩) (SK.out _ tV) ?_
        · rintro w ⟨⟨x0, x1, x2, x3⟩, y0, y1, y2, y3⟩
          go_simp
        simp only [Act.put, List.setIfInBounds_toArray, List.set_cons_zero, List.set_cons_succ]
        refine wpAnyH_take (i := 7) (oi := { dst := some 26, op := Op.load 25 (Operand.tmp 25), type := 25, pos := "ref.go:40", after := #[{ on := 6, ground := Ground.data }], guard := none }) (v := .agg #[.slice xb.ka xb.e.key.length xb.kc, .int .u64 (xb.e.seq : Nat), .int .i64 xb.e.kind, .slice xb.va xb.e.val.length xb.vc]) rfl (by kernel_rfl) (by kernel_rfl) (by kernel_rfl) (fun _ _ _ h => h) (Or.inl ⟨by rfl, ?_⟩) (SK.out _ tV) ?_
        · rintro w ⟨⟨x0, x1, x2, x3⟩, y0, y1, y2, y3⟩
          go_simp
        simp only [Act.put, List.setIfInBounds_toArray, List.set_cons_zero, List.set_cons_succ]
        refine wpAnyH_ready (rs := [8]) (by kernel_rfl) (by simp) ?_
        refine AllReadyH.cons rfl (fun K hK => ?_) AllReadyH.nil
        go_simp
        refine (CP.out _ tV).mono ?_
        rintro oo Vn ⟨rfl, b2⟩
        have tN := Turns.of_below b2 (fun _ => False)
        have tV := tV.trans tN
        clear b2 CP
        clear tN
        go_simp
        refine hK.out _ _ (SK.out _ tV) (fun _ => ?_)
        clear hK K
        refine wpAnyH_take (i := 9) (oi := { dst := some 8, op := Op.assign (Operand.tmp 27), type := 3, pos := "ref.go:40", after := #[{ on := 8, ground := Ground.data }, { on := 8, ground := Ground.chain }, { on := 0, ground := Ground.phase }, { on := 1, ground := Ground.phase }, { on := 2, ground := Ground.phase }, { on := 3, ground := Ground.phase }, { on := 4, ground := Ground.phase }, { on := 5, ground := Ground.phase }, { on := 6, ground := Ground.phase }, { on := 7, ground := Ground.phase }, { on := 8, ground := Ground.phase }], guard := none }) (v := .int .i64 cv) rfl (by kernel_rfl) (by kernel_rfl) (by kernel_rfl) (fun _ _ _ h => h) (Or.inl ⟨by rfl, ?_⟩) (SK.out _ tV) ?_
        · rintro w ⟨⟨x0, x1, x2, x3⟩, y0, y1, y2, y3⟩
          go_simp
        simp only [Act.put, List.setIfInBounds_toArray, List.set_cons_zero, List.set_cons_succ]
        refine wpAnyH_done (by kernel_rfl) ?_ _
        obtain ⟨x0, x1, x2, x3⟩ := FA.out.quiet tV
        obtain ⟨y0, y1, y2, y3⟩ := FB.out.quiet tV
        have HRW := hide (HR0.out.keep tV (fun _ _ x => x))
        have HBW := hide (HB0.out.trans (tV.below HB0.out.size (fun _ x => x.elim)))
        have HSW := hide (show w.heap.size ≤ Vn.heap.size from Nat.le_trans HB0.out.size tV.size)
        clear tV SK FA FB
        by_cases c1 : cv < 0
        · have c2 : cv ≤ 0 := by omega
          have c3 : ¬ 0 ≤ cv := by omega
          obtain ⟨g', n', c', w3, hr3, hrow3, t3, b3, _⟩ := append_ent (Vn.alloc (.cells #[.slice xa.ka xa.e.key.length xa.kc, .int .u64 (xa.e.seq : Nat), .int .i64 xa.e.kind, .slice xa.va xa.e.val.length xa.vc] 25)) w.heap.size (.slice oa rl oc) R (HRW.out.keep ((Turns.refl (fun _ => False) Vn).alloc _) (fun _ _ x => x)) (by have := HSW.out; simp; omega) (by have := HLR.out; omega) xa Vn.heap.size 1 (heap_alloc_new Vn _)
          have hq := hr3 27
          have HR3 := hide hrow3
          have B3 := hide (HBW.out.trans (((Below.refl w.heap.size Vn).alloc HSW.out _).trans b3))
          clear hr3 hrow3 t3 b3
          go_wp2_with (at_builtin; refine wpList_append_run rfl _ _ 27 rfl (.slice oa rl oc) (.slice (some ⟨Vn.heap.size, 0, none⟩) 1 1) rfl rfl _ _ hq ?_)
          go_roundw
          case rel => exact ⟨i + 1, k, R ++ [xa], by go_num, rfl, by omega, by omega, HR3.out, by rw [← HM.out]; rw [HDA.out, HDB.out, mg2_lt _ _ (by rw [HCV.out]; exact c1), List.append_assoc]; rfl, by rw [List.length_append]; have := HLR2.out; simp; omega, B3.out⟩
          case measure => simp [intOf]; omega
        · by_cases c4 : cv = 0
          · subst c4
            obtain ⟨g', n', c', w3, hr3, hrow3, t3, b3, _⟩ := append_ent (Vn.alloc (.cells #[.slice xa.ka xa.e.key.length xa.kc, .int .u64 (xa.e.seq : Nat), .int .i64 xa.e.kind, .slice xa.va xa.e.val.length xa.vc] 25)) w.heap.size (.slice oa rl oc) R (HRW.out.keep ((Turns.refl (fun _ => False) Vn).alloc _) (fun _ _ x => x)) (by have := HSW.out; simp; omega) (by have := HLR.out; omega) xa Vn.heap.size 1 (heap_alloc_new Vn _)
            have hq := hr3 27
            have HR3 := hide hrow3
            have B3 := hide (HBW.out.trans (((Below.refl w.heap.size Vn).alloc HSW.out _).trans b3))
            clear hr3 hrow3 t3 b3
            go_wp2_with (at_builtin; refine wpList_append_run rfl _ _ 27 rfl (.slice oa rl oc) (.slice (some ⟨Vn.heap.size, 0, none⟩) 1 1) rfl rfl _ _ hq ?_)
            go_roundw
            case rel => exact ⟨i + 1, k + 1, R ++ [xa], by go_num, by go_num, by omega, by omega, HR3.out, by rw [← HM.out]; rw [HDA.out, HDB.out, mg2_eq _ _ HCV.out, List.append_assoc]; rfl, by rw [List.length_append]; have := HLR2.out; simp; omega, B3.out⟩
            case measure => simp [intOf]; omega
          · have c2 : ¬ cv ≤ 0 := by omega
            have c3 : 0 ≤ cv := by omega
            obtain ⟨g', n', c', w3, hr3, hrow3, t3, b3, _⟩ := append_ent (Vn.alloc (.cells #[.slice xb.ka xb.e.key.length xb.kc, .int .u64 (xb.e.seq : Nat), .int .i64 xb.e.kind, .slice xb.va xb.e.val.length xb.vc] 25)) w.heap.size (.slice oa rl oc) R (HRW.out.keep ((Turns.refl (fun _ => False) Vn).alloc _) (fun _ _ x => x)) (by have := HSW.out; simp; omega) (by have := HLR.out; omega) xb Vn.heap.size 1 (heap_alloc_new Vn _)
            have hq := hr3 27
            have HR3 := hide hrow3
            have B3 := hide (HBW.out.trans (((Below.refl w.heap.size Vn).alloc HSW.out _).trans b3))
            clear hr3 hrow3 t3 b3
            go_wp2_with (at_builtin; refine wpList_append_run rfl _ _ 27 rfl (.slice oa rl oc) (.slice (some ⟨Vn.heap.size, 0, none⟩) 1 1) rfl rfl _ _ hq ?_)
            go_roundw
            case rel => exact ⟨i, k + 1, R ++ [xb], rfl, by go_num, by omega, by omega, HR3.out, by rw [← HM.out]; rw [HDA.out, HDB.out, mg2_gt _ _ (by rw [HCV.out]; omega), List.append_assoc]; rfl, by rw [List.length_append]; have := HLR2.out; simp; omega, B3.out⟩
            case measure => simp [intOf]; omega
      · have k2 : ¬ (k : Int) < m := by omega
        obtain rfl : k = m := by omega
        have HDB := hide (show B.drop k = [] from List.drop_eq_nil_of_le (by have := HMm.out; omega))
        obtain ⟨x0, x1, x2, x3⟩ := hfa
        have HRW := HR0
        have HBW := HB0
        have HSW := hide HB0.out.size
        clear hxa hya hkxa
        obtain ⟨g', n', c', w3, hr3, hrow3, t3, b3, _⟩ := append_ent (wr.alloc (.cells #[.slice xa.ka xa.e.key.length xa.kc, .int .u64 (xa.e.seq : Nat), .int .i64 xa.e.kind, .slice xa.va xa.e.val.length xa.vc] 25)) w.heap.size (.slice oa rl oc) R (HRW.out.keep ((Turns.refl (fun _ => False) wr).alloc _) (fun _ _ x => x)) (by have := HSW.out; simp; omega) (by have := HLR.out; omega) xa wr.heap.size 1 (heap_alloc_new wr _)
        have hq := hr3 27
        have HR3 := hide hrow3
        have B3 := hide (HBW.out.trans (((Below.refl w.heap.size wr).alloc HSW.out _).trans b3))
        clear hr3 hrow3 t3 b3
        go_wp2_with (at_builtin; refine wpList_append_run rfl _ _ 27 rfl (.slice oa rl oc) (.slice (some ⟨wr.heap.size, 0, none⟩) 1 1) rfl rfl _ _ hq ?_)
        go_roundw
        case rel => exact ⟨i + 1, k, R ++ [xa], by go_num, rfl, by omega, by omega, HR3.out, by rw [← HM.out]; rw [HDB.out, mg2_nil_right, mg2_nil_right, HDA.out, List.append_assoc]; rfl, by rw [List.length_append]; have := HLR2.out; simp; omega, B3.out⟩
        case measure => simp [intOf]; omega
    · have i1 : ¬ (i : Int) < n := by omega
      obtain rfl : i = n := by omega
      have HDA := hide (show A.drop i = [] from List.drop_eq_nil_of_le (by have := HN.out; omega))
      by_cases hkm : k < m
      · obtain ⟨xb, hxb⟩ : ∃ x, B[k]? = some x := ⟨_, List.getElem?_eq_getElem (by have := HMm.out; omega)⟩
        obtain ⟨bb, bo, rfl, hfb, hyb⟩ := fc_of (HB.out.quiet TW.out) hxb
        have HDB := hide (drop_at hxb)
        have k1 : (k : Int) < m := by omega
        have k0 : (0 : Int) ≤ k := by omega
        obtain ⟨y0, y1, y2, y3⟩ := hfb
        have HRW := HR0
        have HBW := HB0
        have HSW := hide HB0.out.size
        clear hxb hyb
        obtain ⟨g', n', c', w3, hr3, hrow3, t3, b3, _⟩ := append_ent (wr.alloc (.cells #[.slice xb.ka xb.e.key.length xb.kc, .int .u64 (xb.e.seq : Nat), .int .i64 xb.e.kind, .slice xb.va xb.e.val.length xb.vc] 25)) w.heap.size (.slice oa rl oc) R (HRW.out.keep ((Turns.refl (fun _ => False) wr).alloc _) (fun _ _ x => x)) (by have := HSW.out; simp; omega) (by have := HLR.out; omega) xb wr.heap.size 1 (heap_alloc_new wr _)
        have hq := hr3 27
        have HR3 := hide hrow3
        have B3 := hide (HBW.out.trans (((Below.refl w.heap.size wr).alloc HSW.out _).trans b3))
        clear hr3 hrow3 t3 b3
        go_wp2_with (at_builtin; refine wpList_append_run rfl _ _ 27 rfl (.slice oa rl oc) (.slice (some ⟨wr.heap.size, 0, none⟩) 1 1) rfl rfl _ _ hq ?_)
        go_roundw
        case rel => exact ⟨i, k + 1, R ++ [xb], rfl, by go_num, by omega, by omega, HR3.out, by rw [← HM.out]; rw [HDA.out, HDB.out, List.append_assoc]; simp [mg2], by rw [List.length_append]; have := HLR2.out; simp; omega, B3.out⟩
        case measure => simp [intOf]; omega
      · have k1 : ¬ (k : Int) < m := by omega
        obtain rfl : k = m := by omega
        have HDB := hide (show B.drop k = [] from List.drop_eq_nil_of_le (by have := HMm.out; omega))
        have X := hide (show R = mg2 A B by have := HM.out; rw [HDA.out, HDB.out] at this; simpa [mg2] using this)
        go_wp2_with fail
        go_ret
        exact ⟨_, rfl, R, HR0.out, X.out, HB0.out⟩
end Go.Proofs.Ytjnpendihdlgnaa
