/-
  The keys of the first file of level 0 and of all that are put together with it.
-/
import Derived.Test.YtkmcdjbadngfgaaPg
import Derived.Deep.LoopGhost
namespace Go.Proofs.Ytkmcdjbadngfgaa
open Go.RowKit
set_option maxRecDepth 100000
set_option maxHeartbeats 4000000
theorem gather_any (a : Option Addr) (n c : Nat) (l : List Tf) (x0 : Tf) (w : World) (h : Fils w a l) (hn : n = l.length) (hmx : n ≤ 1000000) (h0 : l[0]? = some x0) :
    Calls Try.prog 58 #[.slice a n c] w fun e w' => ∃ k : Kk, e = .returned k.agg ∧ Kof l k ∧ Gat (fls l) x0.f k.lo k.hi ∧ Closed (fls l) k.lo k.hi ∧ Turns (fun _ => False) w w' := by
  have HN := hide hn
  have H0 := hide h0
  obtain ⟨b, off, rfl, h6, hfb⟩ := fc_of h h0
  rw [Nat.zero_mul, Nat.add_zero] at h6
  have HF := hide h
  have K0 := hide (show Kof l x0.keys from ⟨x0, List.mem_of_getElem? h0, x0, List.mem_of_getElem? h0, rfl⟩)
  have hlen := (List.getElem?_eq_some_iff.1 h0).1
  have GS := hide (Gat.start (l := fls l) (f0 := x0.f) (List.mem_map.2 ⟨x0, List.mem_of_getElem? h0, rfl⟩))
  have KO := hide (keysOf_any x0)
  clear h h0 hfb
  have hn1 : (0 : Int) < n := by omega
  have hm : (n : Int) ≤ 1000000 := by omega
  clear hn hlen
  obtain ⟨la, lc, ma, mc, ⟨no, sz, ls, ms, en, sq⟩⟩ := x0
  obtain ⟨y0, y1, y2, y3, y4, y5⟩ := h6.quiet ((Turns.refl (fun _ => False) w).alloc (.cells #[.slice none 0 0, .slice none 0 0] 72))
  clear h6
  unfold Tf.keys Tf.agg Kk.agg at *
  simp only at *
  have HL1 := hide (show ls.length = ls.length from rfl)
  go_enter Try.func58, Try.ntmps58
  go_wp2_with fail
  go_step3
  go_wp2_with fail
  refine (KO.out _).mono ?_
  rintro e w1 ⟨rfl, t1⟩
  have T1 := hide (((Turns.refl (fun _ => False) w).alloc (.cells #[.slice none 0 0, .slice none 0 0] 72)).trans t1)
  have hsz := t1.size
  rw [World.size_alloc] at hsz
  have R2 := hide (t1.heap (heap_alloc_new w (.cells #[.slice none 0 0, .slice none 0 0] 72)) (fun x => x))
  have P2 := hide hsz
  clear t1 hsz y0 y1 y2 y3 y4 y5
  go_wp2_with fail
  go_step3
  have F1 := hide (HF.out.quiet T1.out)
  obtain ⟨w2, hw2⟩ : ∃ u, u = w1.alloc (.cells #[.slice la ls.length lc, .slice ma ms.length mc] 72) := ⟨_, rfl⟩
  have T2 := hide (show Turns (fun _ => False) w w2 by rw [hw2]; exact T1.out.alloc _)
  have R0 := hide (show w2.heap[w1.heap.size]? = some (.cells #[.slice la ls.length lc, .slice ma ms.length mc] 72 (0, 0)) by rw [hw2]; exact heap_alloc_new _ _)
  have R2' := hide (show w2.heap[w.heap.size]? = some (.cells #[.slice none 0 0, .slice none 0 0] 72 (0, 0)) by rw [hw2]; exact ((Turns.refl (fun _ => False) w1).alloc _).heap R2.out (fun x => x))
  rw [← hw2]
  clear hw2
  generalize hK : w1.heap.size = K at *
  generalize hW0 : w.heap.size = W0 at *
  have HW0 := hide hW0
  clear hK hW0 R2 T1 F1
  go_wp2_with fail
  go_loopg [] (unheld (fls l) ls ms) (fun m wr => ∃ k : Kk, wr.heap[K]? = some (.cells #[.slice k.la k.lo.length k.lc, .slice k.ma k.hi.length k.mc] 72 (0, 0)) ∧ Kof l k ∧ Gat (fls l) ⟨no, sz, ls, ms, en, sq⟩ k.lo k.hi ∧ unheld (fls l) k.lo k.hi ≤ m ∧ Turns (fun j => j = K) w2 wr)
  case atStart => exact ⟨⟨la, lc, ma, mc, ls, ms⟩, R0.out, K0.out, GS.out, Nat.le_refl _, Turns.refl _ _⟩
  case round =>
    obtain ⟨k, hrow, hkb, hga, hun, htr⟩ := hrel
    have HROW := hide hrow
    have HKO := hide hkb
    have HKB := hide (hkb.kb HF.out)
    have HGA := hide hga
    have HUN := hide hun
    have HTR := hide htr
    have HT := hide (show Turns (fun _ => False) w wr from T2.out.andThen htr fun j hj e => by have := P2.out; have := HW0.out; omega)
    clear hrow hkb hga hun htr
    obtain ⟨ka, kc, ja, jc, lo, hi⟩ := k
    simp only at HROW HKB HGA HUN
    have HKO2 := hide (show Kof l ⟨ka, kc, ja, jc, lo, hi⟩ from HKO.out)
    have CO := hide (fun (u : World) (tu : Turns (fun _ => False) w u) (y : Tf) (hy : FB w y) => koverlap_any ⟨ka, kc, ja, jc, lo, hi⟩ y u (HKB.out.quiet tu) (hy.quiet tu))
    have CH := hide (fun (u : World) (tu : Turns (fun _ => False) w u) (y : Tf) (hy : FB w y) => khold_any ⟨ka, kc, ja, jc, lo, hi⟩ y u (HKB.out.quiet tu) (hy.quiet tu))
    have CW := hide (fun (u : World) (tu : Turns (fun _ => False) w u) (y : Tf) (hy : FB w y) => kwith_any ⟨ka, kc, ja, jc, lo, hi⟩ y u (HKB.out.quiet tu) (hy.quiet tu))
    unfold Kk.agg at CO CH CW
    simp only at CO CH CW
    generalize hL3 : lo.length = L3 at *
    generalize hL4 : hi.length = L4 at *
    have HL3 := hide hL3
    have HL4 := hide hL4
    clear hL3 hL4
    go_wp2_with fail
    go_loopw [12] (fun i ws => ∃ q : Nat, i = .int .i64 (q : Nat) ∧ q ≤ n ∧ (∀ (j : Nat) (y : Tf), j < q → l[j]? = some y → ovK lo hi y.f = true → hoK lo hi y.f = true) ∧ Turns (fun _ => False) wr ws) (fun i _ => n - (intOf i).toNat)
    case atStart => exact ⟨0, rfl, Nat.zero_le _, fun j y hj => by omega, Turns.refl _ _⟩
    case round =>
      obtain ⟨q, rfl, hq, hall, ht⟩ := hrel
      have HALL := hide hall
      have HS := hide ht
      clear hall ht
      by_cases hqn : q < n
      · obtain ⟨y, hy⟩ : ∃ y, l[q]? = some y := ⟨_, List.getElem?_eq_getElem (by have := HN.out; omega)⟩
        have HTS := hide (HT.out.trans HS.out)
        obtain ⟨bb, oo, hbo, h6, hfb⟩ := fc_of (HF.out.quiet HTS.out) hy
        cases hbo
        have hfb0 : FB w y := (HF.out q y hy).2
        have i1 : (q : Int) < n := by omega
        have i0 : (0 : Int) ≤ q := by omega
        have HMEM := hide (show y.f ∈ fls l from List.mem_map.2 ⟨y, List.mem_of_getElem? hy, rfl⟩)
        have HNX := hide (fun (hb : ovK lo hi y.f = true → hoK lo hi y.f = true) (j : Nat) (z : Tf) (hj : j < q + 1) (hz : l[j]? = some z) (hz2 : ovK lo hi z.f = true) => show hoK lo hi z.f = true by
          rcases Nat.lt_or_ge j q with h | h
          · exact HALL.out j z h hz hz2
          · obtain rfl : j = q := by omega
            rw [hy] at hz
            cases hz
            exact hb hz2)
        have COy := hide (fun u t => CO.out u t y hfb0)
        have CHy := hide (fun u t => CH.out u t y hfb0)
        have CWy := hide (fun u t => CW.out u t y hfb0)
        have HKW := hide (HKO2.out.with (List.mem_of_getElem? hy))
        have HUL := hide (fun (hb : hoK lo hi y.f = false) => unheld_lt HMEM.out hb)
        have HST := hide (fun (hb : ovK lo hi y.f = true) => HGA.out.step HMEM.out hb)
        clear hfb0 hy CO CH CW
        generalize hkw : withK ⟨ka, kc, ja, jc, lo, hi⟩ y = kw at *
        have HLO := hide (show kw.lo = minB y.f lo ∧ kw.hi = maxB y.f hi by rw [← hkw]; exact ⟨withK_lo _ _, withK_hi _ _⟩)
        clear hkw
        generalize ovK lo hi y.f = ov at *
        generalize hoK lo hi y.f = ho at *
        obtain ⟨la', lc', ma', mc', ⟨no', sz', ls', ms', en', sq'⟩⟩ := y
        obtain ⟨y0, y1, y2, y3, y4, y5⟩ := h6
        unfold Tf.agg at COy CHy CWy
        simp only at *
        generalize ls'.length = L1' at *
        generalize ms'.length = L2' at *
        have TF := hide (((HS.out).alloc (.cells #[.int .u64 (no' : Nat), .int .i64 sz', .slice la' L1' lc', .slice ma' L2' mc', .int .i64 en', .int .u64 (sq' : Nat)] 29)))
        have RF := hide (heap_alloc_new wr (.cells #[.int .u64 (no' : Nat), .int .i64 sz', .slice la' L1' lc', .slice ma' L2' mc', .int .i64 en', .int .u64 (sq' : Nat)] 29))
        have p0 := cell_of_row _ K 0 _ 72 (0, 0) (TF.out.heap HROW.out (fun x => x))
        have p1 := cell_of_row _ K 1 _ 72 (0, 0) (TF.out.heap HROW.out (fun x => x))
        clear hfb
        go_wp2_with fail
        refine (COy.out _ (HT.out.trans TF.out)).mono ?_
        rintro e w3 ⟨rfl, t3⟩
        have T3 := hide (TF.out.trans t3)
        have R3 := hide (t3.heap RF.out (fun x => x))
        clear t3 COy y0 y1 y2 y3 y4 y5 p0 p1
        cases ov with
        | false =>
          go_wp2_with fail
          go_roundw
          case rel => exact ⟨q + 1, by go_num, by omega, HNX.out (by simp), T3.out⟩
          case measure => simp [intOf]; omega
        | true =>
          have p0 := cell_of_row w3 K 0 _ 72 (0, 0) (T3.out.heap HROW.out (fun x => x))
          have p1 := cell_of_row w3 K 1 _ 72 (0, 0) (T3.out.heap HROW.out (fun x => x))
          have c0 := cell_of_row w3 _ 0 _ 29 (0, 0) R3.out
          have c1 := cell_of_row w3 _ 1 _ 29 (0, 0) R3.out
          have c2 := cell_of_row w3 _ 2 _ 29 (0, 0) R3.out
          have c3 := cell_of_row w3 _ 3 _ 29 (0, 0) R3.out
          have c4 := cell_of_row w3 _ 4 _ 29 (0, 0) R3.out
          have c5 := cell_of_row w3 _ 5 _ 29 (0, 0) R3.out
          go_wp2_with fail
          refine (CHy.out _ (HT.out.trans T3.out)).mono ?_
          rintro e w4 ⟨rfl, t4⟩
          have T4 := hide (T3.out.trans t4)
          have R4 := hide (t4.heap R3.out (fun x => x))
          clear t4 CHy p0 p1 c0 c1 c2 c3 c4 c5
          cases ho with
          | true =>
            go_wp2_with fail
            go_roundw
            case rel => exact ⟨q + 1, by go_num, by omega, HNX.out (by simp), T4.out⟩
            case measure => simp [intOf]; omega
          | false =>
            have p0 := cell_of_row w4 K 0 _ 72 (0, 0) (T4.out.heap HROW.out (fun x => x))
            have p1 := cell_of_row w4 K 1 _ 72 (0, 0) (T4.out.heap HROW.out (fun x => x))
            have c0 := cell_of_row w4 _ 0 _ 29 (0, 0) R4.out
            have c1 := cell_of_row w4 _ 1 _ 29 (0, 0) R4.out
            have c2 := cell_of_row w4 _ 2 _ 29 (0, 0) R4.out
            have c3 := cell_of_row w4 _ 3 _ 29 (0, 0) R4.out
            have c4 := cell_of_row w4 _ 4 _ 29 (0, 0) R4.out
            have c5 := cell_of_row w4 _ 5 _ 29 (0, 0) R4.out
            go_wp2_with fail
            refine (CWy.out _ (HT.out.trans T4.out)).mono ?_
            rintro e w5 ⟨rfl, t5⟩
            have T5 := hide (T4.out.trans t5)
            clear t5 CWy p0 p1 c0 c1 c2 c3 c4 c5
            have r5 := T5.out.heap HROW.out (fun x => x)
            obtain ⟨ka', kc', ja', jc', lo', hi'⟩ := kw
            simp only at *
            have HKW3 := hide (show Kof l ⟨ka', kc', ja', jc', lo', hi'⟩ from HKW.out)
            generalize hL5 : lo'.length = L5 at *
            generalize hL6 : hi'.length = L6 at *
            have HL5 := hide hL5
            have HL6 := hide hL6
            clear hL5 hL6
            go_wp2_with (refine wpList_store_row rfl 72 _ _ rfl _ _ rfl rfl _ _ r5 ?_ ?_ ?_ ?_; (exact sz72); (simp only [List.size_toArray, List.length_cons, List.length_nil]); (simp [Value.oneCell']))
            go_wp2_with fail
            go_roundg (unheld (fls l) lo' hi')
            case measure =>
              have h1 := HUL.out trivial
              rw [← HLO.out.1, ← HLO.out.2] at h1
              exact Nat.lt_of_lt_of_le h1 HUN.out
            case rel =>
              have hg := HST.out trivial
              rw [← HLO.out.1, ← HLO.out.2] at hg
              have ts := turns_setRow w5 K #[.slice ka' L5 kc', .slice ja' L6 jc']
              have hr := setRow_heap w5 K _ #[.slice ka' L5 kc', .slice ja' L6 jc'] _ _ r5
              exact ⟨⟨ka', kc', ja', jc', lo', hi'⟩, by rw [HL5.out, HL6.out]; exact hr, HKW3.out, hg, Nat.le_refl _, (HTR.out.trans (T5.out.mono fun _ _ x => x.elim)).trans ts⟩
      · obtain rfl : q = n := by omega
        have HCL := hide (show Closed (fls l) lo hi from fun f hf ho => by
          obtain ⟨y, hy, rfl⟩ := List.mem_map.1 hf
          obtain ⟨j, hj⟩ := List.getElem?_of_mem hy
          exact HALL.out j y (by have := HN.out; have := (List.getElem?_eq_some_iff.1 hj).1; omega) hj ho)
        have r2 := HS.out.heap (HTR.out.heap R2'.out (show ¬ W0 = K by have := P2.out; omega)) (fun x => x)
        have p0 := cell_of_row _ K 0 _ 72 (0, 0) (HS.out.heap HROW.out (fun x => x))
        have p1 := cell_of_row _ K 1 _ 72 (0, 0) (HS.out.heap HROW.out (fun x => x))
        go_wp2_with (refine wpList_store_row rfl 72 _ _ rfl _ _ rfl rfl _ _ r2 ?_ ?_ ?_ ?_; (exact sz72); (simp only [List.size_toArray, List.length_cons, List.length_nil]); (simp [Value.oneCell']))
        rw [Exit.noGoto_ret]
        refine bodyPost_ret (v := .agg #[.slice ka L3 kc, .slice ja L4 jc]) ?_ rfl ?_
        · exact results_cell_row Try.results58 _ _ _ _ _ _ _ rfl (setRow_heap _ _ _ _ _ _ r2) Try.underlying72 rfl sz72
        · have TZ := (HT.out.trans HS.out).andThen (turns_setRow wr W0 #[.slice ka L3 kc, .slice ja L4 jc]) fun j hj e => by have := HW0.out; omega
          exact ⟨⟨ka, kc, ja, jc, lo, hi⟩, by rw [← HL3.out, ← HL4.out], HKO2.out, HGA.out, HCL.out, TZ⟩
end Go.Proofs.Ytkmcdjbadngfgaa
