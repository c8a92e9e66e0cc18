import Derived.Test.YtkmcdjbadngfgaaM13
import Derived.Deep.LoopGhost
import Derived.Test.YtkmcdjbadngfgaaM02
/-
  The keys of the first file of level 0 and of all that are put together with it.
-/
namespace Go.Proofs.Ytkmcdjbadngfgaa
open Go.RowKit
set_option maxRecDepth 100000
set_option maxHeartbeats 4000000
theorem gather_any (a : Option Addr) (n c : Nat) (l : List Tf) (x0 : Tf) (w : World) (h : Fils w a l) (hn : n = l.length) (hmx : n ≤ 1000000) (h0 : l[0]? = some x0) :
    Calls Try.prog 58 #[.slice a n c] w fun e w' => ∃ k : Kk, e = .returned k.agg ∧ Kof l k ∧ Gat (fls l) x0.f k.lo k.hi ∧ Closed (fls l) k.lo k.hi ∧ Turns (fun _ => False) w w' := by
  have HN := hide hn
  have H0 := hide h0
  obtain ⟨b, off, rfl, h6, hfb⟩ := fc_of h h0
  rw [Nat.zero_mul, Nat.add_zero] at h6
  have HF := hide h
  have K0 := hide (show Kof l x0.keys from ⟨x0, List.mem_of_getElem? h0, x0, List.mem_of_getElem? h0, rfl⟩)
  have hlen := (List.getElem?_eq_some_iff.1 h0).1
  have GS := hide (Gat.start (l := fls l) (f0 := x0.f) (List.mem_map.2 ⟨x0, List.mem_of_getElem? h0, rfl⟩))
  have KO := hide (keysOf_any x0)
  clear h h0 hfb
  have hn1 : (0 : Int) < n := by omega
  have hm : (n : Int) ≤ 1000000 := by omega
  clear hn hlen
  obtain ⟨la, lc, ma, mc, ⟨no, sz, ls, ms, en, sq⟩⟩ := x0
  obtain ⟨y0, y1, y2, y3, y4, y5⟩ := h6.quiet ((Turns.refl (fun _ => False) w).alloc (.cells #[.slice none 0 0, .slice none 0 0] 72))
  clear h6
  unfold Tf.keys Tf.agg Kk.agg at *
  simp only at *
  have HL1 := hide (show ls.length = ls.length from rfl)
  go_enter Try.func58, Try.ntmps58
  go_wp2_with fail
  go_step3
  go_wp2_with fail
  refine (KO.out _).mono ?_
  rintro e w1 ⟨rfl, t1⟩
  have T1 := hide (((Turns.refl (fun _ => False) w).alloc (.cells #[.slice none 0 0, .slice none 0 0] 72)).trans t1)
  have hsz := t1.size
  rw [World.size_alloc] at hsz
  have R2 := hide (t1.heap (heap_alloc_new w (.cells #[.slice none 0 0, .slice none 0 0] 72)) (fun x => x))
  have P2 := hide hsz
  clear t1 hsz y0 y1 y2 y3 y4 y5
  go_wp2_with fail
  go_step3
  have F1 := hide (HF.out.quiet T1.out)
  obtain ⟨w2, hw2⟩ : ∃ u, u = w1.alloc (.cells #[.slice la ls.length lc, .slice ma ms.length mc] 72) := ⟨_, rfl⟩
  have T2 := hide (show Turns (fun _ => False) w w2 by rw [hw2]; exact T1.out.alloc _)
  have R0 := hide (show w2.heap[w1.heap.size]? = some (.cells #[.slice la ls.length lc, .slice ma ms.length mc] 72 (0, 0)) by rw [hw2]; exact heap_alloc_new _ _)
  have R2' := hide (show w2.heap[w.heap.size]? = some (.cells #[.slice none 0 0, .slice none 0 0] 72 (0, 0)) by rw [hw2]; exact ((Turns.refl (fun _ => False) w1).alloc _).heap R2.out (fun x => x))
  rw [← hw2]
  clear hw2
  generalize hK : w1.heap.size = K at *
  generalize hW0 : w.heap.size = W0 at *
  have HW0 := hide hW0
  clear hK hW0 R2 T1 F1
  go_wp2_with fail
  go_loopg [] (unheld (fls l) ls ms) (fun m wr => ∃ k : Kk, wr.heap[K]? = some (.cells #[.slice k.la k.lo.length k.lc, .slice k.ma k.hi.length k.mc] 72 (0, 0)) ∧ Kof l k ∧ Gat (fls l) ⟨no, sz, ls, ms, en, sq⟩ k.lo k.hi ∧ unheld (fls l) k.lo k.hi ≤ m ∧ Turns (fun j => j = K) w2 wr)
  case atStart => exact ⟨⟨la, lc, ma, mc, ls, ms⟩, R0.out, K0.out, GS.out, Nat.le_refl _, Turns.refl _ _⟩
  case round =>
    obtain ⟨k, hrow, hkb, hga, hun, htr⟩ := hrel
    have HROW := hide hrow
    have HKO := hide hkb
    have HKB := hide (hkb.kb HF.out)
    have HGA := hide hga
    have HUN := hide hun
    have HTR := hide htr
    have HT := hide (show Turns (fun _ => False) w wr from T2.out.andThen htr fun j hj e => by have := P2.out; have := HW0.out; omega)
    clear hrow hkb hga hun htr
    obtain ⟨ka, kc, ja, jc, lo, hi⟩ := k
    simp only at HROW HKB HGA HUN
    have HKO2 := hide (show Kof l ⟨ka, kc, ja, jc, lo, hi⟩ from HKO.out)
    have CO := hide (fun (u : World) (tu : Turns (fun _ => False) w u) (y : Tf) (hy : FB w y) => koverlap_any ⟨ka, kc, ja, jc, lo, hi⟩ y u (HKB.out.quiet tu) (hy.quiet tu))
    have CH := hide (fun (u : World) (tu : Turns (fun _ => False) w u) (y : Tf) (hy : FB w y) => khold_any ⟨ka, kc, ja, jc, lo, hi⟩ y u (HKB.out.quiet tu) (hy.quiet tu))
    have CW := hide (fun (u : World) (tu : Turns (fun _ => False) w u) (y : Tf) (hy : FB w y) => kwith_any ⟨ka, kc, ja, jc, lo, hi⟩ y u (HKB.out.quiet tu) (hy.quiet tu))
    unfold Kk.agg at CO CH CW
    simp only at CO CH CW
    generalize hL3 : lo.length = L3 at *
    generalize hL4 : hi.length = L4 at *
    have HL3 := hide hL3
    have HL4 := hide hL4
    clear hL3 hL4
    go_wp2_with fail
    go_loopw [12] (fun i ws => ∃ q : Nat, i = .int .i64 (q : Nat) ∧ q ≤ n ∧ (∀ (j : Nat) (y : Tf), j < q → l[j]? = some y → ovK lo hi y.f = true → hoK lo hi y.f = true) ∧ Turns (fun _ => False) wr ws) (fun i _ => n - (intOf i).toNat)
    case atStart => exact ⟨0, rfl, Nat.zero_le _, fun j y hj => by omega, Turns.refl _ _⟩
    case round =>
      obtain ⟨q, rfl, hq, hall, ht⟩ := hrel
      have HALL := hide hall
      have HS := hide ht
      clear hall ht
      by_cases hqn : q < n
      · obtain ⟨y, hy⟩ : ∃ y, l[q]? = some y := ⟨_, List.getElem?_eq_getElem (by have := HN.out; omega)⟩
        have HTS := hide (HT.out.trans HS.out)
        obtain ⟨bb, oo, hbo, h6, hfb⟩ := fc_of (HF.out.quiet HTS.out) hy
        cases hbo
        have hfb0 : FB w y := (HF.out q y hy).2
        have i1 : (q : Int) < n := by omega
        have i0 : (0 : Int) ≤ q := by omega
        have HMEM := hide (show y.f ∈ fls l from List.mem_map.2 ⟨y, List.mem_of_getElem? hy, rfl⟩)
        have HNX := hide (fun (hb : ovK lo hi y.f = true → hoK lo hi y.f = true) (j : Nat) (z : Tf) (hj : j < q + 1) (hz : l[j]? = some z) (hz2 : ovK lo hi z.f = true) => show hoK lo hi z.f = true by
          rcases Nat.lt_or_ge j q with h | h
          · exact HALL.out j z h hz hz2
          · obtain rfl : j = q := by omega
            rw [hy] at hz
            cases hz
            exact hb hz2)
        have COy := hide (fun u t => CO.out u t y hfb0)
        have CHy := hide (fun u t => CH.out u t y hfb0)
        have CWy := hide (fun u t => CW.out u t y hfb0)
        have HKW := hide (HKO2.out.with (List.mem_of_getElem? hy))
        have HUL := hide (fun (hb : hoK lo hi y.f = false) => unheld_lt HMEM.out hb)
        have HST := hide (fun (hb : ovK lo hi y.f = true) => HGA.out.step HMEM.out hb)
        clear hfb0 hy CO CH CW
        generalize hkw : withK ⟨ka, kc, ja, jc, lo, hi⟩ y = kw at *
        have HLO := hide (show kw.lo = minB y.f lo ∧ kw.hi = maxB y.f hi by rw [← hkw]; exact ⟨withK_lo _ _, withK_hi _ _⟩)
        clear hkw
        generalize ovK lo hi y.f = ov at *
        generalize hoK lo hi y.f = ho at *
        obtain ⟨la', lc', ma', mc', ⟨no', sz', ls', ms', en', sq'⟩⟩ := y
        obtain ⟨y0, y1, y2, y3, y4, y5⟩ := h6
        unfold Tf.agg at COy CHy CWy
        simp only at *
        generalize ls'.length = L1' at *
        generalize ms'.length = L2' at *
        have TF := hide (((HS.out).alloc (.cells #[.int .u64 (no' : Nat), .int .i64 sz', .slice la' L1' lc', .slice ma' L2' mc', .int .i64 en', .int .u64 (sq' : Nat)] 29)))
        have RF := hide (heap_alloc_new wr (.cells #[.int .u64 (no' : Nat), .int .i64 sz', .slice la' L1' lc', .slice ma' L2' mc', .int .i64 en', .int .u64 (sq' : Nat)] 29))
        have p0 := cell_of_row _ K 0 _ 72 (0, 0) (TF.out.heap HROW.out (fun x => x))
        have p1 := cell_of_row _ K 1 _ 72 (0, 0) (TF.out.heap HROW.out (fun x => x))
        clear hfb
        go_wp2_with fail
        refine (COy.out _ (HT.out.trans TF.out)).mono ?_
        rintro e w3 ⟨rfl, t3⟩
        have T3 := hide (TF.out.trans t3)
        have R3 := hide (t3.heap RF.out (fun x => x))
        clear t3 COy y0 y1 y2 y3 y4 y5 p0 p1
        cases ov with
        | false =>
          go_wp2_with fail
          go_roundw
          case rel => exact ⟨q + 1, by go_num, by omega, HNX.out (by simp), T3.out⟩
          case measure => simp [intOf]; omega
        | true =>
          have p0 := cell_of_row w3 K 0 _ 72 (0, 0) (T3.out.heap HROW.out (fun x => x))
          have p1 := cell_of_row w3 K 1 _ 72 (0, 0) (T3.out.heap HROW.out (fun x => x))
          have c0 := cell_of_row w3 _ 0 _ 29 (0, 0) R3.out
          have c1 := cell_of_row w3 _ 1 _ 29 (0, 0) R3.out
          have c2 := cell_of_row w3 _ 2 _ 29 (0, 0) R3.out
          have c3 := cell_of_row w3 _ 3 _ 29 (0, 0) R3.out
          have c4 := cell_of_row w3 _ 4 _ 29 (0, 0) R3.out
          have c5 := cell_of_row w3 _ 5 _ 29 (0, 0) R3.out
          go_wp2_with fail
          refine (CHy.out _ (HT.out.trans T3.out)).mono ?_
          rintro e w4 ⟨rfl, t4⟩
          have T4 := hide (T3.out.trans t4)
          have R4 := hide (t4.heap R3.out (fun x => x))
          clear t4 CHy p0 p1 c0 c1 c2 c3 c4 c5
          cases ho with
          | true =>
            go_wp2_with fail
            go_roundw
            case rel => exact ⟨q + 1, by go_num, by omega, HNX.out (by simp), T4.out⟩
            case measure => simp [intOf]; omega
          | false =>
            have p0 := cell_of_row w4 K 0 _ 72 (0, 0) (T4.out.heap HROW.out (fun x => x))
            have p1 := cell_of_row w4 K 1 _ 72 (0, 0) (T4.out.heap HROW.out (fun x => x))
            have c0 := cell_of_row w4 _ 0 _ 29 (0, 0) R4.out
            have c1 := cell_of_row w4 _ 1 _ 29 (0, 0) R4.out
            have c2 := cell_of_row w4 _ 2 _ 29 (0, 0) R4.out
            have c3 := cell_of_row w4 _ 3 _ 29 (0, 0) R4.out
            have c4 := cell_of_row w4 _ 4 _ 29 (0, 0) R4.out
            have c5 := cell_of_row w4 _ 5 _ 29 (0, 0) R4.out
            go_wp2_with fail
            refine (CWy.out _ (HT.out.trans T4.out)).mono ?_
            rintro e w5 ⟨rfl, t5⟩
            have T5 := hide (T4.out.trans t5)
            clear t5 CWy p0 p1 c0 c1 c2 c3 c4 c5
            have r5 := T5.out.heap HROW.out (fun x => x)
            obtain ⟨ka', kc', ja', jc', lo', hi'⟩ := kw
            simp only at *
            have HKW3 := hide (show Kof l ⟨ka', kc', ja', jc', lo', hi'⟩ from HKW.out)
            generalize hL5 : lo'.length = L5 at *
            generalize hL6 : hi'.length = L6 at *
            have HL5 := hide hL5
            have HL6 := hide hL6
            clear hL5 hL6
            go_wp2_with (refine wpList_store_row rfl 72 _ _ rfl _ _ rfl rfl _ _ r5 ?_ ?_ ?_ ?_; (exact sz72); (simp only [List.size_toArray, List.length_cons, List.length_nil]); (simp [Value.oneCell']))
            go_wp2_with fail
            go_roundg (unheld (fls l) lo' hi')
            case measure =>
              have h1 := HUL.out trivial
              rw [← HLO.out.1, ← HLO.out.2] at h1
              exact Nat.lt_of_lt_of_le h1 HUN.out
            case rel =>
              have hg := HST.out trivial
              rw [← HLO.out.1, ← HLO.out.2] at hg
              have ts := turns_setRow w5 K #[.slice ka' L5 kc', .slice ja' L6 jc']
              have hr := setRow_heap w5 K _ #[.slice ka' L5 kc', .slice ja' L6 jc'] _ _ r5
              exact ⟨⟨ka', kc', ja', jc', lo', hi'⟩, by rw [HL5.out, HL6.out]; exact hr, HKW3.out, hg, Nat.le_refl _, (HTR.out.trans (T5.out.mono fun _ _ x => x.elim)).trans ts⟩
      · obtain rfl : q = n := by omega
        have HCL := hide (show Closed (fls l) lo hi from fun f hf ho => by
          obtain ⟨y, hy, rfl⟩ := List.mem_map.1 hf
          obtain ⟨j, hj⟩ := List.getElem?_of_mem hy
          exact HALL.out j y (by have := HN.out; have := (List.getElem?_eq_some_iff.1 hj).1; omega) hj ho)
        have r2 := HS.out.heap (HTR.out.heap R2'.out (show ¬ W0 = K by have := P2.out; omega)) (fun x => x)
        have p0 := cell_of_row _ K 0 _ 72 (0, 0) (HS.out.heap HROW.out (fun x => x))
        have p1 := cell_of_row _ K 1 _ 72 (0, 0) (HS.out.heap HROW.out (fun x => x))
        go_wp2_with (refine wpList_store_row rfl 72 _ _ rfl _ _ rfl rfl _ _ r2 ?_ ?_ ?_ ?_; (exact sz72); (simp only [List.size_toArray, List.length_cons, List.length_nil]); (simp [Value.oneCell']))
        rw [Exit.noGoto_ret]
        refine bodyPost_ret (v := .agg #[.slice ka L3 kc, .slice ja L4 jc]) ?_ rfl ?_
        · exact results_cell_row Try.results58 _ _ _ _ _ _ _ rfl (setRow_heap _ _ _ _ _ _ r2) Try.underlying72 rfl sz72
        · have TZ := (HT.out.trans HS.out).andThen (turns_setRow wr W0 #[.slice ka L3 kc, .slice ja L4 jc]) fun j hj e => by have := HW0.out; omega
          exact ⟨⟨ka, kc, ja, jc, lo, hi⟩, by rw [← HL3.out, ← HL4.out], HKO2.out, HGA.out, HCL.out, TZ⟩
end Go.Proofs.Ytkmcdjbadngfgaa

/-
  The file of the least number; the keys of the files that go down from a level.
-/
namespace Go.Proofs.Ytkmcdjbadngfgaa
open Go.RowKit
set_option maxRecDepth 100000
set_option maxHeartbeats 4000000
theorem upper1_any (x y : Tf) (w : World) : Calls Try.prog 61 #[x.agg, y.agg] w fun e w' => e = .returned (.int .i64 (cmpN x.f.no y.f.no)) ∧ Turns (fun _ => False) w w' := by
  obtain ⟨la, lc, ma, mc, ⟨no, sz, ls, ms, en, sq⟩⟩ := x
  obtain ⟨la2, lc2, ma2, mc2, ⟨no2, sz2, ls2, ms2, en2, sq2⟩⟩ := y
  unfold Tf.agg
  simp only at *
  generalize ls.length = L1
  generalize ms.length = L2
  generalize ls2.length = L3
  generalize ms2.length = L4
  have TA := hide (((Turns.refl (fun _ => False) w).alloc (.cells #[.int .u64 (no : Nat), .int .i64 sz, .slice la L1 lc, .slice ma L2 mc, .int .i64 en, .int .u64 (sq : Nat)] 29)).alloc (.cells #[.int .u64 (no2 : Nat), .int .i64 sz2, .slice la2 L3 lc2, .slice ma2 L4 mc2, .int .i64 en2, .int .u64 (sq2 : Nat)] 29))
  have CC := hide (cmp64_any no no2)
  generalize cmpN no no2 = z at *
  go_enter Try.func61, Try.ntmps61
  go_wp2_with fail
  refine (CC.out _).mono ?_
  rintro e w1 ⟨rfl, rfl⟩
  go_wp2_with fail
  go_ret
  exact ⟨rfl, TA.out⟩
theorem min_any (a : Option Addr) (n c : Nat) (l : List Tf) (x0 : Tf) (w : World) (h : Fils w a l) (hn : n = l.length) (hmx : n ≤ 1000000) (h0 : l[0]? = some x0) :
    Calls Try.prog 60 #[.slice a n c, .func (.func 61) #[] #[]] w fun e w' => ∃ (j : Nat) (y : Tf), e = .returned y.agg ∧ l[j]? = some y ∧ (∀ z ∈ l, y.f.no ≤ z.f.no) ∧ Turns (fun _ => False) w w' := by
  have HN := hide hn
  have H0 := hide h0
  obtain ⟨b, off, rfl, h6, hfb⟩ := fc_of h h0
  rw [Nat.zero_mul, Nat.add_zero] at h6
  have HF := hide h
  have hlen := (List.getElem?_eq_some_iff.1 h0).1
  have TR0 := hide ((Turns.refl (fun _ => False) w).alloc (.cells #[.int .u64 0, .int .i64 0, .slice none 0 0, .slice none 0 0, .int .i64 0, .int .u64 0] 29))
  have h6' := h6.quiet TR0.out
  have R2 := hide (heap_alloc_new w (.cells #[.int .u64 0, .int .i64 0, .slice none 0 0, .slice none 0 0, .int .i64 0, .int .u64 0] 29))
  clear h h0 hfb h6
  have hn1 : (1 : Int) ≤ n := by omega
  have hn0 : (0 : Int) < n := by omega
  have hm : (n : Int) ≤ 1000000 := by omega
  have hnn : 1 ≤ n := by omega
  clear hn hlen
  have HX0 := hide (show x0.cells = x0.cells from rfl)
  obtain ⟨la0, lc0, ma0, mc0, ⟨no0, sz0, ls0, ms0, en0, sq0⟩⟩ := x0
  obtain ⟨y0, y1, y2, y3, y4, y5⟩ := h6'
  clear HX0
  simp only at *
  go_enter Try.func60, Try.ntmps60
  go_wp2_with fail
  obtain ⟨w1, hw1⟩ : ∃ u, u = (w.alloc (.cells #[.int .u64 0, .int .i64 0, .slice none 0 0, .slice none 0 0, .int .i64 0, .int .u64 0] 29)).alloc (.cells #[.int .u64 (no0 : Nat), .int .i64 sz0, .slice la0 ls0.length lc0, .slice ma0 ms0.length mc0, .int .i64 en0, .int .u64 (sq0 : Nat)] 29) := ⟨_, rfl⟩
  rw [← hw1]
  have T1 := hide (show Turns (fun _ => False) w w1 by rw [hw1]; exact TR0.out.alloc _)
  have R0 := hide (show w1.heap[w.heap.size + 1]? = some (.cells (Tf.cells ⟨la0, lc0, ma0, mc0, ⟨no0, sz0, ls0, ms0, en0, sq0⟩⟩).toArray 29 (0, 0)) by rw [hw1, ← World.size_alloc]; exact heap_alloc_new _ _)
  have R2' := hide (show w1.heap[w.heap.size]? = some (.cells #[.int .u64 0, .int .i64 0, .slice none 0 0, .slice none 0 0, .int .i64 0, .int .u64 0] 29 (0, 0)) by rw [hw1]; exact ((Turns.refl (fun _ => False) _).alloc _).heap R2.out (fun x => x))
  have HS := hide (show w.heap.size = w.heap.size from rfl)
  clear hw1 y0 y1 y2 y3 y4 y5 R2 TR0
  generalize hW0 : w.heap.size = W0 at *
  have HW0 := hide hW0
  clear hW0 HS
  obtain ⟨G, hG⟩ : ∃ g, g = W0 + 1 := ⟨_, rfl⟩
  rw [← hG] at R0 ⊢
  have HG := hide hG
  clear hG
  go_loopw [6] (fun i wr => ∃ (k j : Nat) (y : Tf), i = .int .i64 (k : Nat) ∧ k ≤ n ∧ l[j]? = some y ∧ (∀ (q : Nat) (z : Tf), q < k → l[q]? = some z → y.f.no ≤ z.f.no) ∧ wr.heap[G]? = some (.cells y.cells.toArray 29 (0, 0)) ∧ Turns (fun j => j = G) w1 wr) (fun i _ => n - (intOf i).toNat)
  case atStart => exact ⟨1, 0, ⟨la0, lc0, ma0, mc0, ⟨no0, sz0, ls0, ms0, en0, sq0⟩⟩, rfl, hnn, H0.out, fun q z hq hz => by
      obtain rfl : q = 0 := by omega
      rw [H0.out] at hz; cases hz; exact Nat.le_refl _, R0.out, Turns.refl _ _⟩
  case round =>
    obtain ⟨k, j, m, rfl, hk, hj, hmin, hrow, htr⟩ := hrel
    have HJ := hide hj
    have HMIN := hide hmin
    have HROW := hide hrow
    have HTR := hide htr
    have HT := hide (show Turns (fun _ => False) w wr from T1.out.andThen htr fun j hj e => by have := HG.out; have := HW0.out; omega)
    clear hj hmin hrow htr
    by_cases hkn : k < n
    · obtain ⟨y, hy⟩ : ∃ y, l[k]? = some y := ⟨_, List.getElem?_eq_getElem (by have := HN.out; omega)⟩
      obtain ⟨bb, oo, hbo, h6, hfb⟩ := fc_of (HF.out.quiet HT.out) hy
      cases hbo
      have HY := hide hy
      have i1 : (k : Int) < n := by omega
      have i0 : (0 : Int) ≤ k := by omega
      have CU := hide (fun (u : World) (_ : Turns (fun _ => False) wr u) => upper1_any y m u)
      have HMY := hide (show ∀ z ∈ [m], z = m from fun z hz => by simpa using hz)
      clear hfb hy
      obtain ⟨la, lc, ma, mc, ⟨no, sz, ls, ms, en, sq⟩⟩ := y
      obtain ⟨la2, lc2, ma2, mc2, ⟨no2, sz2, ls2, ms2, en2, sq2⟩⟩ := m
      clear HMY
      obtain ⟨y0, y1, y2, y3, y4, y5⟩ := h6
      unfold Tf.agg at CU
      simp only [Tf.cells, Tf.lv, Tf.mv] at HROW
      simp only at *
      have HL := hide (show ls.length = ls.length ∧ ms.length = ms.length from ⟨rfl, rfl⟩)
      generalize hL1 : ls.length = L1 at *
      generalize hL2 : ms.length = L2 at *
      have HL1 := hide hL1
      have HL2 := hide hL2
      clear hL1 hL2 HL
      generalize hL3 : ls2.length = L3 at *
      generalize hL4 : ms2.length = L4 at *
      have HL3 := hide hL3
      have HL4 := hide hL4
      clear hL3 hL4
      have SK := hide (fun (u : World) (t : Turns (fun _ => False) wr u) => show (u.cell? ⟨b, off + k * 6, none⟩ = some (.int .u64 (no : Nat)) ∧ u.cell? ⟨b, off + k * 6 + 1, none⟩ = some (.int .i64 sz) ∧ u.cell? ⟨b, off + k * 6 + 2, none⟩ = some (.slice la L1 lc) ∧ u.cell? ⟨b, off + k * 6 + 3, none⟩ = some (.slice ma L2 mc) ∧ u.cell? ⟨b, off + k * 6 + 4, none⟩ = some (.int .i64 en) ∧ u.cell? ⟨b, off + k * 6 + 5, none⟩ = some (.int .u64 (sq : Nat))) ∧ u.cell? ⟨G, 0, none⟩ = some (.int .u64 (no2 : Nat)) ∧ u.cell? ⟨G, 1, none⟩ = some (.int .i64 sz2) ∧ u.cell? ⟨G, 2, none⟩ = some (.slice la2 L3 lc2) ∧ u.cell? ⟨G, 3, none⟩ = some (.slice ma2 L4 mc2) ∧ u.cell? ⟨G, 4, none⟩ = some (.int .i64 en2) ∧ u.cell? ⟨G, 5, none⟩ = some (.int .u64 (sq2 : Nat)) from ⟨⟨t.cell y0 (fun x => x), t.cell y1 (fun x => x), t.cell y2 (fun x => x), t.cell y3 (fun x => x), t.cell y4 (fun x => x), t.cell y5 (fun x => x)⟩, cell_of_row u G 0 _ 29 (0, 0) (t.heap HROW.out (fun x => x)), cell_of_row u G 1 _ 29 (0, 0) (t.heap HROW.out (fun x => x)), cell_of_row u G 2 _ 29 (0, 0) (t.heap HROW.out (fun x => x)), cell_of_row u G 3 _ 29 (0, 0) (t.heap HROW.out (fun x => x)), cell_of_row u G 4 _ 29 (0, 0) (t.heap HROW.out (fun x => x)), cell_of_row u G 5 _ 29 (0, 0) (t.heap HROW.out (fun x => x))⟩)
      clear y0 y1 y2 y3 y4 y5
      have tV := (Turns.refl (fun _ => False) wr).drew
      go_upto_region 7 with (fail)
      refine wp_region_held_drew (S := fun u => (u.cell? ⟨b, off + k * 6, none⟩ = some (.int .u64 (no : Nat)) ∧ u.cell? ⟨b, off + k * 6 + 1, none⟩ = some (.int .i64 sz) ∧ u.cell? ⟨b, off + k * 6 + 2, none⟩ = some (.slice la L1 lc) ∧ u.cell? ⟨b, off + k * 6 + 3, none⟩ = some (.slice ma L2 mc) ∧ u.cell? ⟨b, off + k * 6 + 4, none⟩ = some (.int .i64 en) ∧ u.cell? ⟨b, off + k * 6 + 5, none⟩ = some (.int .u64 (sq : Nat))) ∧ u.cell? ⟨G, 0, none⟩ = some (.int .u64 (no2 : Nat)) ∧ u.cell? ⟨G, 1, none⟩ = some (.int .i64 sz2) ∧ u.cell? ⟨G, 2, none⟩ = some (.slice la2 L3 lc2) ∧ u.cell? ⟨G, 3, none⟩ = some (.slice ma2 L4 mc2) ∧ u.cell? ⟨G, 4, none⟩ = some (.int .i64 en2) ∧ u.cell? ⟨G, 5, none⟩ = some (.int .u64 (sq2 : Nat))) (by kernel_rfl) (SK.out _ tV) (fun _ => ?_)
      change wpAnyH _ _ _ _ _ 8 (Array.replicate 8 false) _ _
      refine wpAnyH_take (i := 0) (oi := { dst := some 20, op := Op.move (Operand.tmp 1), type := 82, pos := "sort.go:85", after := #[], guard := none }) (v := .func (.func 61) #[] #[]) rfl (by kernel_rfl) (by kernel_rfl) (by kernel_rfl) (fun _ _ _ h => h) (Or.inl ⟨by rfl, ?_⟩) (SK.out _ tV) ?_
      · rintro w ⟨⟨a0, a1, a2, a3, a4, a5⟩, b0, b1, b2, b3, b4, b5⟩
        go_simp
      simp only [Act.put, List.setIfInBounds_toArray, List.set_cons_zero, List.set_cons_succ]
      refine wpAnyH_take (i := 1) (oi := { dst := some 21, op := Op.move (Operand.tmp 0), type := 31, pos := "sort.go:85", after := #[], guard := none }) (v := .slice (some ⟨b, off, none⟩) n c) rfl (by kernel_rfl) (by kernel_rfl) (by kernel_rfl) (fun _ _ _ h => h) (Or.inl ⟨by rfl, ?_⟩) (SK.out _ tV) ?_
      · rintro w ⟨⟨a0, a1, a2, a3, a4, a5⟩, b0, b1, b2, b3, b4, b5⟩
        go_simp
      simp only [Act.put, List.setIfInBounds_toArray, List.set_cons_zero, List.set_cons_succ]
      refine wpAnyH_take (i := 2) (oi := { dst := some 22, op := Op.move (Operand.tmp 6), type := 3, pos := "sort.go:85", after := #[], guard := none }) (v := .int .i64 (k : Nat)) rfl (by kernel_rfl) (by kernel_rfl) (by kernel_rfl) (fun _ _ _ h => h) (Or.inl ⟨by rfl, ?_⟩) (SK.out _ tV) ?_
      · rintro w ⟨⟨a0, a1, a2, a3, a4, a5⟩, b0, b1, b2, b3, b4, b5⟩
        go_simp
      simp only [Act.put, List.setIfInBounds_toArray, List.set_cons_zero, List.set_cons_succ]
      refine wpAnyH_take (i := 3) (oi := { dst := some 23, op := Op.indexAddr 31 (Operand.tmp 21) (Operand.tmp 22), type := 0, pos := "sort.go:85", after := #[{ on := 1, ground := Ground.data }, { on := 2, ground := Ground.data }], guard := none }) (v := .pointer (some ⟨b, off + k * 6, none⟩)) rfl (by kernel_rfl) (by kernel_rfl) (by kernel_rfl) (fun _ _ _ h => h) (Or.inl ⟨by rfl, ?_⟩) (SK.out _ tV) ?_
      · rintro w ⟨⟨a0, a1, a2, a3, a4, a5⟩, b0, b1, b2, b3, b4, b5⟩
        go_simp
      simp only [Act.put, List.setIfInBounds_toArray, List.set_cons_zero, List.set_cons_succ]
      refine wpAnyH_take (i := 4) (oi := { dst := some 24, op := Op.load 29 (Operand.tmp 23), type := 29, pos := "sort.go:85", after := #[{ on := 3, ground := Ground.data }], guard := none }) (v := .agg #[.int .u64 (no : Nat), .int .i64 sz, .slice la L1 lc, .slice ma L2 mc, .int .i64 en, .int .u64 (sq : Nat)]) rfl (by kernel_rfl) (by kernel_rfl) (by kernel_rfl) (fun _ _ _ h => h) (Or.inl ⟨by rfl, ?_⟩) (SK.out _ tV) ?_
      · rintro w ⟨⟨a0, a1, a2, a3, a4, a5⟩, b0, b1, b2, b3, b4, b5⟩
        go_simp
      simp only [Act.put, List.setIfInBounds_toArray, List.set_cons_zero, List.set_cons_succ]
      refine wpAnyH_take (i := 5) (oi := { dst := some 25, op := Op.load 29 (Operand.tmp 5), type := 29, pos := "sort.go:85", after := #[], guard := none }) (v := .agg #[.int .u64 (no2 : Nat), .int .i64 sz2, .slice la2 L3 lc2, .slice ma2 L4 mc2, .int .i64 en2, .int .u64 (sq2 : Nat)]) rfl (by kernel_rfl) (by kernel_rfl) (by kernel_rfl) (fun _ _ _ h => h) (Or.inl ⟨by rfl, ?_⟩) (SK.out _ tV) ?_
      · rintro w ⟨⟨a0, a1, a2, a3, a4, a5⟩, b0, b1, b2, b3, b4, b5⟩
        go_simp
      simp only [Act.put, List.setIfInBounds_toArray, List.set_cons_zero, List.set_cons_succ]
      refine wpAnyH_ready (rs := [6]) (by kernel_rfl) (by simp) ?_
      refine AllReadyH.cons rfl (fun K hK => ?_) AllReadyH.nil
      go_simp
      refine (CU.out _ tV).mono ?_
      rintro oo Vn ⟨rfl, tC⟩
      have tN := tC
      have tV := tV.trans tN
      clear tC
      clear tN
      go_simp
      refine hK.out _ _ (SK.out _ tV) (fun _ => ?_)
      clear hK K
      refine wpAnyH_take (i := 7) (oi := { dst := some 27, op := Op.binOp BinOp.lss 3 (Operand.tmp 26) (Operand.const (Value.int IntKind.i64 0)) 3, type := 4, pos := "sort.go:85", after := #[{ on := 6, ground := Ground.data }], guard := none }) (v := .bool (decide (cmpN no no2 < 0))) rfl (by kernel_rfl) (by kernel_rfl) (by kernel_rfl) (fun _ _ _ h => h) (Or.inl ⟨by rfl, ?_⟩) (SK.out _ tV) ?_
      · rintro w ⟨⟨a0, a1, a2, a3, a4, a5⟩, b0, b1, b2, b3, b4, b5⟩
        go_simp
      simp only [Act.put, List.setIfInBounds_toArray, List.set_cons_zero, List.set_cons_succ]
      refine wpAnyH_done (by kernel_rfl) ?_ _
      have TU := hide tV
      have SU := hide (SK.out _ tV)
      clear tV
      have hrow := TU.out.heap HROW.out (fun x => x)
      obtain ⟨⟨a0, a1, a2, a3, a4, a5⟩, _⟩ := SU.out
      clear SU SK
      have HTV := hide (HTR.out.trans (TU.out.mono fun _ _ x => x.elim))
      have CN := hide (show cmpN no no2 < 0 ↔ no < no2 by unfold cmpN; split <;> (try split) <;> omega)
      generalize cmpN no no2 = z at *
      by_cases hz : z < 0
      · have HLT := hide (CN.out.1 hz)
        go_wp2_with (refine wpList_store_row rfl 29 _ _ rfl _ _ rfl rfl _ _ hrow ?_ ?_ ?_ ?_; (exact sz37); (simp only [List.size_toArray, List.length_cons, List.length_nil]); (simp [Value.oneCell']))
        have hset := setRow_heap _ G _ #[.int .u64 (no : Nat), .int .i64 sz, .slice la L1 lc, .slice ma L2 mc, .int .i64 en, .int .u64 (sq : Nat)] _ _ hrow
        have hts := turns_setRow Vn G #[.int .u64 (no : Nat), .int .i64 sz, .slice la L1 lc, .slice ma L2 mc, .int .i64 en, .int .u64 (sq : Nat)]
        have HSET := hide hset
        have HTS := hide hts
        clear hset hts hrow
        generalize Vn.setRow G #[.int .u64 (no : Nat), .int .i64 sz, .slice la L1 lc, .slice ma L2 mc, .int .i64 en, .int .u64 (sq : Nat)] = V2 at *
        go_wp2_with fail
        go_roundw
        case rel =>
          refine ⟨k + 1, k, ⟨la, lc, ma, mc, ⟨no, sz, ls, ms, en, sq⟩⟩, by go_num, by omega, HY.out, fun q u hq hu => ?_, ?_, HTV.out.trans HTS.out⟩
          · rcases Nat.lt_or_ge q k with h | h
            · have := HMIN.out q u h hu
              have := HLT.out
              show no ≤ u.f.no
              exact Nat.le_trans (Nat.le_of_lt HLT.out) ‹_›
            · obtain rfl : q = k := by omega
              rw [HY.out] at hu; cases hu; exact Nat.le_refl _
          · simp only [Tf.cells, Tf.lv, Tf.mv, HL1.out, HL2.out]; exact HSET.out
        case measure => simp [intOf]; omega
      · have HLT := hide (show no2 ≤ no by have := mt CN.out.2 hz; omega)
        clear hrow
        go_wp2_with fail
        go_roundw
        case rel =>
          refine ⟨k + 1, j, ⟨la2, lc2, ma2, mc2, ⟨no2, sz2, ls2, ms2, en2, sq2⟩⟩, by go_num, by omega, HJ.out, fun q u hq hu => ?_, ?_, HTV.out⟩
          · rcases Nat.lt_or_ge q k with h | h
            · exact HMIN.out q u h hu
            · obtain rfl : q = k := by omega
              rw [HY.out] at hu; cases hu; exact HLT.out
          · simp only [Tf.cells, Tf.lv, Tf.mv, HL3.out, HL4.out]; exact TU.out.heap HROW.out (fun x => x)
        case measure => simp [intOf]; omega
    · obtain rfl : k = n := by omega
      have hrow := HROW.out
      have r2 := HTR.out.heap R2'.out (show ¬ W0 = G by have := HG.out; omega)
      obtain ⟨la2, lc2, ma2, mc2, ⟨no2, sz2, ls2, ms2, en2, sq2⟩⟩ := m
      simp only [Tf.cells, Tf.lv, Tf.mv] at hrow
      have HJ' := hide HJ.out
      simp only at *
      have c0 := cell_of_row wr G 0 _ 29 (0, 0) hrow
      have c1 := cell_of_row wr G 1 _ 29 (0, 0) hrow
      have c2 := cell_of_row wr G 2 _ 29 (0, 0) hrow
      have c3 := cell_of_row wr G 3 _ 29 (0, 0) hrow
      have c4 := cell_of_row wr G 4 _ 29 (0, 0) hrow
      have c5 := cell_of_row wr G 5 _ 29 (0, 0) hrow
      clear hrow
      generalize hL3 : ls2.length = L3 at *
      generalize hL4 : ms2.length = L4 at *
      have HL3 := hide hL3
      have HL4 := hide hL4
      clear hL3 hL4
      go_wp2_with (refine wpList_store_row rfl 29 _ _ rfl _ _ rfl rfl _ _ r2 ?_ ?_ ?_ ?_; (exact sz37); (simp only [List.size_toArray, List.length_cons, List.length_nil]); (simp [Value.oneCell']))
      refine bodyPost_ret (v := .agg #[.int .u64 (no2 : Nat), .int .i64 sz2, .slice la2 L3 lc2, .slice ma2 L4 mc2, .int .i64 en2, .int .u64 (sq2 : Nat)]) ?_ rfl ?_
      · exact results_cell_row Try.results60 _ _ _ _ _ _ _ rfl (setRow_heap _ _ _ _ _ _ r2) Try.underlying29 rfl sz37
      · refine ⟨j, ⟨la2, lc2, ma2, mc2, ⟨no2, sz2, ls2, ms2, en2, sq2⟩⟩, by unfold Tf.agg; rw [← HL3.out, ← HL4.out], HJ.out, fun z hz => ?_, HT.out.andThen (turns_setRow _ _ _) fun j hj e => by have := HW0.out; omega⟩
        obtain ⟨q, hq⟩ := List.getElem?_of_mem hz
        exact HMIN.out q z (by have := HN.out; have := (List.getElem?_eq_some_iff.1 hq).1; omega) hq
end Go.Proofs.Ytkmcdjbadngfgaa

/-
  The keys of the files that go down from a level; clones.
-/
namespace Go.Proofs.Ytkmcdjbadngfgaa
open Go.RowKit
set_option maxRecDepth 100000
set_option maxHeartbeats 4000000
def UpP (l : List Fl) (z : Int) (lo hi : List (BitVec 8)) : Prop := if z = 0 then ∃ f0, l[0]? = some f0 ∧ Gat l f0 lo hi ∧ Closed l lo hi else ∃ f ∈ l, lo = f.least ∧ hi = f.most ∧ ∀ g ∈ l, f.no ≤ g.no
theorem upper_any (a : Option Addr) (n c : Nat) (l : List Tf) (x0 : Tf) (z : Nat) (w : World) (h : Fils w a l) (hn : n = l.length) (hmx : n ≤ 1000000) (h0 : l[0]? = some x0) :
    Calls Try.prog 45 #[.slice a n c, .int .i64 (z : Nat)] w fun e w' => ∃ k : Kk, e = .returned k.agg ∧ Kof l k ∧ UpP (fls l) (z : Nat) k.lo k.hi ∧ Turns (fun _ => False) w w' := by
  have TA := hide ((Turns.refl (fun _ => False) w).alloc (.cells #[.slice none 0 0, .slice none 0 0] 72))
  have R0 := hide (heap_alloc_new w (.cells #[.slice none 0 0, .slice none 0 0] 72))
  have HZ := hide (show w.heap.size = w.heap.size from rfl)
  by_cases z0 : z = 0
  · subst z0
    have GA := hide (gather_any a n c l x0 _ (h.quiet TA.out) hn hmx h0)
    have H0 := hide h0
    clear h h0 hn HZ
    go_enter Try.func45, Try.ntmps45
    go_wp2_with fail
    refine GA.out.mono ?_
    rintro e w1 ⟨k, rfl, hkb, hga, hcl, t1⟩
    have r1 := t1.heap R0.out (fun x => x)
    obtain ⟨ka, kc, ja, jc, lo, hi⟩ := k
    have HKB := hide hkb
    have HGA := hide hga
    have HCL := hide hcl
    have T1 := hide (TA.out.trans t1)
    clear hkb hga hcl t1
    unfold Kk.agg
    simp only at *
    have HL := hide (show lo.length = lo.length ∧ hi.length = hi.length from ⟨rfl, rfl⟩)
    go_wp2_with (refine wpList_store_row rfl 72 _ _ rfl _ _ rfl rfl _ _ r1 ?_ ?_ ?_ ?_; (exact sz72); (simp only [List.size_toArray, List.length_cons, List.length_nil]); (simp [Value.oneCell']))
    refine bodyPost_ret (v := .agg #[.slice ka lo.length kc, .slice ja hi.length jc]) ?_ rfl ?_
    · exact results_cell_row Try.results45 _ _ _ _ _ _ _ rfl (setRow_heap _ _ _ _ _ _ r1) Try.underlying72 rfl sz72
    · have ts := turns_setRow w1 w.heap.size #[.slice ka lo.length kc, .slice ja hi.length jc]
      refine ⟨⟨ka, kc, ja, jc, lo, hi⟩, rfl, HKB.out, ?_, T1.out.andThen ts fun j hj e => by omega⟩
      · unfold UpP; rw [if_pos rfl]; exact ⟨x0.f, fls_at H0.out, HGA.out, HCL.out⟩
  · have GA := hide (min_any a n c l x0 _ (h.quiet TA.out) hn hmx h0)
    have HF := hide h
    have KO := hide (fun (y : Tf) (u : World) => keysOf_any y u)
    clear h h0 hn HZ
    have zi : ¬ (z : Int) = 0 := by omega
    go_enter Try.func45, Try.ntmps45
    go_wp2_with fail
    refine GA.out.mono ?_
    rintro e w1 ⟨j, y, rfl, hj, hmin, t1⟩
    have HJ := hide hj
    have HM := hide hmin
    have T1 := hide (TA.out.trans t1)
    have R1 := hide (t1.heap R0.out (fun x => x))
    have KY := hide (KO.out y)
    clear hj hmin t1 KO
    have HY := hide (show (w.heap.size, y.f.least, y.f.most) = (w.heap.size, y.f.least, y.f.most) from rfl)
    unfold Tf.agg Tf.keys Kk.agg at KY
    obtain ⟨la, lc, ma, mc, ⟨no, sz, ls, ms, en, sq⟩⟩ := y
    unfold Tf.agg
    simp only at *
    clear HY
    go_wp2_with fail
    refine (KY.out _).mono ?_
    rintro e w2 ⟨rfl, t2⟩
    have T2 := hide (T1.out.trans t2)
    have r2 := t2.heap R1.out (fun x => x)
    clear t2
    go_wp2_with (refine wpList_store_row rfl 72 _ _ rfl _ _ rfl rfl _ _ r2 ?_ ?_ ?_ ?_; (exact sz72); (simp only [List.size_toArray, List.length_cons, List.length_nil]); (simp [Value.oneCell']))
    refine bodyPost_ret (v := .agg #[.slice la ls.length lc, .slice ma ms.length mc]) ?_ rfl ?_
    · exact results_cell_row Try.results45 _ _ _ _ _ _ _ rfl (setRow_heap _ _ _ _ _ _ r2) Try.underlying72 rfl sz72
    · have ts := turns_setRow w2 w.heap.size #[.slice la ls.length lc, .slice ma ms.length mc]
      have TZ := T2.out.andThen ts fun j hj e => by omega
      refine ⟨⟨la, lc, ma, mc, ls, ms⟩, rfl, ⟨_, List.mem_of_getElem? HJ.out, _, List.mem_of_getElem? HJ.out, rfl⟩, ?_, TZ⟩
      unfold UpP
      rw [if_neg zi]
      refine ⟨⟨no, sz, ls, ms, en, sq⟩, List.mem_map.2 ⟨_, List.mem_of_getElem? HJ.out, rfl⟩, rfl, rfl, fun g hg => ?_⟩
      obtain ⟨q, hq, rfl⟩ := List.mem_map.1 hg
      exact HM.out q hq
end Go.Proofs.Ytkmcdjbadngfgaa
