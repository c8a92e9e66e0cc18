import Derived.Test.YtmmcikbedegigaaGreatM17
import Derived.Laws.StructEq
/-
  The kit's Edit, of what is the same.
-/
namespace Go.Proofs.YtmmcikbedegigaaGreat
open Go.RowKit
set_option maxRecDepth 100000
set_option maxHeartbeats 4000000
theorem kedit_same (da : Option Addr) (dn dc : Nat) (D : List (Int × Nat)) (aa : Option Addr) (an ac : Nat) (A : List (Int × Tf)) (da' : Option Addr) (dc' : Nat) (aa' : Option Addr) (ac' : Nat) (A' : List (Int × Tf)) (en es el : Nat) (w : World) (h : Drops w da D) (h' : Drops w da' D) (k : Adds w aa A) (k' : Adds w aa' A') (hdn : dn = D.length) (han : an = A.length) (e : fA A = fA A') (hmx : dn ≤ 100000) (hmx2 : an ≤ 100000) (hk : ∀ d ∈ A, d.2.f.least.length ≤ 1000000000 ∧ d.2.f.most.length ≤ 1000000000) :
    Calls Tryz.prog 11 #[edAgg da dn dc aa an ac en es el, edAgg da' dn dc' aa' an ac' en es el] w fun e w' => e = .returned (.bool true) ∧ Turns (fun _ => False) w w' := by
  have H := hide h
  have H' := hide h'
  have HA := hide k
  have HA' := hide k'
  have HDN := hide hdn
  have HAN := hide han
  have HE := hide e
  have HK := hide hk
  have hdi : (dn : Int) ≤ 100000 := by omega
  have hai : (an : Int) ≤ 100000 := by omega
  have TA := hide (((Turns.refl (fun _ => False) w).alloc (.cells #[.slice da dn dc, .slice aa an ac, .int .u64 (en : Nat), .int .u64 (es : Nat), .int .u64 (el : Nat)] 33)).alloc (.cells #[.slice da' dn dc', .slice aa' an ac', .int .u64 (en : Nat), .int .u64 (es : Nat), .int .u64 (el : Nat)] 33))
  have R0 := hide (((Turns.refl (fun _ => False) (w.alloc (.cells #[.slice da dn dc, .slice aa an ac, .int .u64 (en : Nat), .int .u64 (es : Nat), .int .u64 (el : Nat)] 33))).alloc (.cells #[.slice da' dn dc', .slice aa' an ac', .int .u64 (en : Nat), .int .u64 (es : Nat), .int .u64 (el : Nat)] 33)).heap (heap_alloc_new w _) (fun x => x))
  have R1 := hide (heap_alloc_new (w.alloc (.cells #[.slice da dn dc, .slice aa an ac, .int .u64 (en : Nat), .int .u64 (es : Nat), .int .u64 (el : Nat)] 33)) (.cells #[.slice da' dn dc', .slice aa' an ac', .int .u64 (en : Nat), .int .u64 (es : Nat), .int .u64 (el : Nat)] 33))
  simp only [World.size_alloc] at R1
  unfold edAgg
  clear h h' k k' hdn han e hk
  go_enter Tryz.func11, Tryz.ntmps11
  go_wp2_with fail
  generalize (w.alloc (.cells #[.slice da dn dc, .slice aa an ac, .int .u64 (en : Nat), .int .u64 (es : Nat), .int .u64 (el : Nat)] 33)).alloc (.cells #[.slice da' dn dc', .slice aa' an ac', .int .u64 (en : Nat), .int .u64 (es : Nat), .int .u64 (el : Nat)] 33) = w0 at *
  generalize hg : w.heap.size = g at *
  clear hg
  go_loopw [5] (fun i wr => ∃ k : Nat, i = .int .i64 (k : Nat) ∧ k ≤ dn ∧ Turns (fun _ => False) w0 wr) (fun i _ => dn - (intOf i).toNat)
  case atStart => exact ⟨0, rfl, Nat.zero_le _, Turns.refl _ _⟩
  case round =>
    obtain ⟨k, rfl, hk, hb⟩ := hrel
    have HB := hide hb
    have s0 : wr.cell? ⟨g, 0, none⟩ = some (.slice da dn dc) := hb.cell (cell_of_row w0 g 0 _ 33 (0, 0) R0.out) (fun x => x)
    have s1 : wr.cell? ⟨g + 1, 0, none⟩ = some (.slice da' dn dc') := hb.cell (cell_of_row w0 (g + 1) 0 _ 33 (0, 0) R1.out) (fun x => x)
    have s2 : wr.cell? ⟨g, 1, none⟩ = some (.slice aa an ac) := hb.cell (cell_of_row w0 g 1 _ 33 (0, 0) R0.out) (fun x => x)
    clear hb
    by_cases hkn : k < dn
    · obtain ⟨d, hd⟩ : ∃ d, D[k]? = some d := ⟨_, List.getElem?_eq_getElem (by have := HDN.out; omega)⟩
      obtain ⟨_, b, off, ea, y0, y1⟩ := (H.out.quiet (TA.out.trans HB.out)) k d hd
      obtain ⟨_, b', off', ea', z0, z1⟩ := (H'.out.quiet (TA.out.trans HB.out)) k d hd
      subst ea ea'
      obtain ⟨lv, no⟩ := d
      simp only at *
      have i1 : (k : Int) < dn := by omega
      have i0 : (0 : Int) ≤ k := by omega
      clear hd s2
      go_wp2_with fail
      go_region_held (fun w' => (w'.cell? ⟨g, 0, none⟩ = some (.slice (some ⟨b, off, none⟩) dn dc) ∧ w'.cell? ⟨g + 1, 0, none⟩ = some (.slice (some ⟨b', off', none⟩) dn dc')) ∧ w'.cell? ⟨b, off + k * 2, none⟩ = some (.int .i64 lv) ∧ w'.cell? ⟨b, off + k * 2 + 1, none⟩ = some (.int .u64 (no : Nat)) ∧ w'.cell? ⟨b', off' + k * 2, none⟩ = some (.int .i64 lv) ∧ w'.cell? ⟨b', off' + k * 2 + 1, none⟩ = some (.int .u64 (no : Nat))) (first | (simp only [World.cell?_drew]; with_reducible exact ⟨⟨s0, s1⟩, y0, y1, z0, z1⟩)) (fail)
      go_wp2_with fail
      go_roundw
      case rel => exact ⟨k + 1, by go_num, by omega, HB.out.drew⟩
      case measure => simp [intOf]; omega
    · have i1 : ¬ (k : Int) < dn := by omega
      clear s0 s1 s2
      have HB9 := hide HB.out
      generalize hw9 : wr = w9 at *
      clear hw9
      have r2 := HB9.out.cell (cell_of_row w0 g 0 _ 33 (0, 0) R0.out) (fun x => x)
      go_wp2_with fail
      clear r2
      go_loopw [6] (fun i wr => ∃ q : Nat, i = .int .i64 (q : Nat) ∧ q ≤ an ∧ Turns (fun _ => False) w9 wr) (fun i _ => an - (intOf i).toNat)
      case atStart => exact ⟨0, rfl, Nat.zero_le _, Turns.refl _ _⟩
      case round =>
        obtain ⟨q, rfl, hq, hb⟩ := hrel
        have HQB := hide hb
        have TT := hide (HB9.out.trans hb)
        have s2 : wr.cell? ⟨g, 1, none⟩ = some (.slice aa an ac) := TT.out.cell (cell_of_row w0 g 1 _ 33 (0, 0) R0.out) (fun x => x)
        have s3 : wr.cell? ⟨g + 1, 1, none⟩ = some (.slice aa' an ac') := TT.out.cell (cell_of_row w0 (g + 1) 1 _ 33 (0, 0) R1.out) (fun x => x)
        clear hb
        by_cases hqn : q < an
        · have hAl : A'.length = A.length := by have h1 := congrArg List.length HE.out; simp only [fA, List.length_map] at h1; omega
          obtain ⟨d, hd⟩ : ∃ d, A[q]? = some d := ⟨_, List.getElem?_eq_getElem (by have := HAN.out; omega)⟩
          obtain ⟨d', hd'⟩ : ∃ d, A'[q]? = some d := ⟨_, List.getElem?_eq_getElem (by have := HAN.out; omega)⟩
          have hdd : d.1 = d'.1 ∧ d.2.f = d'.2.f := by
            have h1 := congrArg (fun z => z[q]?) HE.out
            simp only [fA, List.getElem?_map, hd, hd', Option.map_some] at h1
            injection h1 with h1
            injection h1 with h2 h3
            exact ⟨h2, h3⟩
          obtain ⟨⟨b, off, ea, y0, h6⟩, hfb⟩ := (HA.out.quiet (TA.out.trans TT.out)) q d hd
          obtain ⟨⟨b', off', ea', z0, h6'⟩, hfb'⟩ := (HA'.out.quiet (TA.out.trans TT.out)) q d' hd'
          have hkk := HK.out d (List.mem_of_getElem? hd)
          subst ea ea'
          have t0 : Turns (fun _ => False) wr wr.drew := (Turns.refl _ _).drew
          have HQ := hide (kfile_same d.2 d'.2 wr.drew (hfb.quiet t0) (hfb'.quiet t0) hdd.2 hkk.1 hkk.2)
          rw [← hdd.1] at z0
          obtain ⟨lv, ⟨la, lc, ma, mc, ⟨no, sz, ls, ms, en', sq⟩⟩⟩ := d
          obtain ⟨lv', ⟨la', lc', ma', mc', ⟨no', sz', ls', ms', en'', sq'⟩⟩⟩ := d'
          obtain ⟨c0, c1, c2, c3, c4, c5⟩ := h6
          obtain ⟨d0, d1, d2, d3, d4, d5⟩ := h6'
          simp only [Nat.add_assoc, Nat.reduceAdd] at c0 c1 c2 c3 c4 c5 d0 d1 d2 d3 d4 d5
          simp only [← Nat.add_assoc] at c0 c1 c2 c3 c4 c5 d0 d1 d2 d3 d4 d5
          unfold Tf.agg at HQ
          simp only at *
          generalize ls.length = L1 at *
          generalize ms.length = L2 at *
          generalize ls'.length = L3 at *
          generalize ms'.length = L4 at *
          have j1 : (q : Int) < an := by omega
          have j0 : (0 : Int) ≤ q := by omega
          clear hd hd' hdd hfb hfb' hkk t0 hAl
          go_wp2_with fail
          go_region_held (fun w' => (w'.cell? ⟨g, 1, none⟩ = some (.slice (some ⟨b, off, none⟩) an ac) ∧ w'.cell? ⟨g + 1, 1, none⟩ = some (.slice (some ⟨b', off', none⟩) an ac') ∧ w'.cell? ⟨b, off + q * 7, none⟩ = some (.int .i64 lv) ∧ w'.cell? ⟨b', off' + q * 7, none⟩ = some (.int .i64 lv)) ∧ (w'.cell? ⟨b, off + q * 7 + 1, none⟩ = some (.int .u64 (no : Nat)) ∧ w'.cell? ⟨b, off + q * 7 + 2, none⟩ = some (.int .i64 sz) ∧ w'.cell? ⟨b, off + q * 7 + 3, none⟩ = some (.slice la L1 lc) ∧ w'.cell? ⟨b, off + q * 7 + 4, none⟩ = some (.slice ma L2 mc) ∧ w'.cell? ⟨b, off + q * 7 + 5, none⟩ = some (.int .i64 en') ∧ w'.cell? ⟨b, off + q * 7 + 6, none⟩ = some (.int .u64 (sq : Nat))) ∧ w'.cell? ⟨b', off' + q * 7 + 1, none⟩ = some (.int .u64 (no' : Nat)) ∧ w'.cell? ⟨b', off' + q * 7 + 2, none⟩ = some (.int .i64 sz') ∧ w'.cell? ⟨b', off' + q * 7 + 3, none⟩ = some (.slice la' L3 lc') ∧ w'.cell? ⟨b', off' + q * 7 + 4, none⟩ = some (.slice ma' L4 mc') ∧ w'.cell? ⟨b', off' + q * 7 + 5, none⟩ = some (.int .i64 en'') ∧ w'.cell? ⟨b', off' + q * 7 + 6, none⟩ = some (.int .u64 (sq' : Nat))) (first | (with_reducible exact ⟨⟨e0, e1, e2, e3⟩, ⟨f0, f1, f2, f3, f4, f5⟩, g0, g1, g2, g3, g4, g5⟩) | (simp only [World.cell?_drew]; with_reducible exact ⟨⟨s2, s3, y0, z0⟩, ⟨c0, c1, c2, c3, c4, c5⟩, d0, d1, d2, d3, d4, d5⟩)) (first
            | (go_at_call 41; refine HQ.out.mono ?_; rintro x w2 ⟨rfl, b2⟩; have t2 := (Turns.refl (fun _ => False) wr).drew.trans b2; have e0 := t2.cell s2 (fun x => x); have e1 := t2.cell s3 (fun x => x); have e2 := t2.cell y0 (fun x => x); have e3 := t2.cell z0 (fun x => x); have f0 := t2.cell c0 (fun x => x); have f1 := t2.cell c1 (fun x => x); have f2 := t2.cell c2 (fun x => x); have f3 := t2.cell c3 (fun x => x); have f4 := t2.cell c4 (fun x => x); have f5 := t2.cell c5 (fun x => x); have g0 := t2.cell d0 (fun x => x); have g1 := t2.cell d1 (fun x => x); have g2 := t2.cell d2 (fun x => x); have g3 := t2.cell d3 (fun x => x); have g4 := t2.cell d4 (fun x => x); have g5 := t2.cell d5 (fun x => x); have T2 := hide t2; clear t2 b2))
          clear e0 e1 e2 e3 f0 f1 f2 f3 f4 f5 g0 g1 g2 g3 g4 g5
          go_wp2_with fail
          go_roundw
          case rel => exact ⟨q + 1, by go_num, by omega, HQB.out.trans T2.out⟩
          case measure => simp [intOf]; omega
        · have j1 : ¬ (q : Int) < an := by omega
          go_wp2_with fail
          go_ret
          exact ⟨rfl, TA.out.trans TT.out⟩
end Go.Proofs.YtmmcikbedegigaaGreat
