/-
  small.
-/
import Derived.Test.YtkmcdjbadngfgaaWs
namespace Go.Proofs.Ytkmcdjbadngfgaa
open Go.RowKit
set_option maxRecDepth 100000
set_option maxHeartbeats 4000000
def levN (L : List Lv) : Nat := (L.map fun x => keysN (fls x.l)).sum
theorem levN_snoc (L : List Lv) (x : Lv) : levN (L ++ [x]) = levN L + keysN (fls x.l) := by simp [levN]
theorem keysN_snoc (l : List Fl) (f : Fl) : keysN (l ++ [f]) = keysN l + (f.least.length + f.most.length) := by simp [keysN]
theorem small_any (a : Option Addr) (n c next seq log : Nat) (L : List Lv) (w : World) (h : Levs w a L) (hn : n = L.length) (hmx : n ≤ reachBytes) (hl : ∀ x ∈ L, x.l.length ≤ reachBytes) :
    Calls Try.prog 14 #[verAgg a n c next seq log] w fun e w' => e = .returned (.bool (decide (n ≤ 10) && (decide (w64 (cnt L : Nat) ≤ 100) && decide (w64 (levN L : Nat) ≤ 10000)))) ∧ Turns (fun _ => False) w w' := by
  have TA := hide ((Turns.refl (fun _ => False) w).alloc (.cells #[.slice a n c, .int .u64 (next : Nat), .int .u64 (seq : Nat), .int .u64 (log : Nat)] 25))
  have R0 := hide (heap_alloc_new w (.cells #[.slice a n c, .int .u64 (next : Nat), .int .u64 (seq : Nat), .int .u64 (log : Nat)] 25))
  have HL := hide hn
  have HA := hide h
  have HX := hide hl
  unfold reachBytes at hmx
  have hmi : (n : Int) ≤ 140737488355328 := by omega
  clear hn h hl
  unfold verAgg
  go_enter Try.func14, Try.ntmps14
  go_wp2_with fail
  generalize w.alloc (.cells #[.slice a n c, .int .u64 (next : Nat), .int .u64 (seq : Nat), .int .u64 (log : Nat)] 25) = w0 at *
  generalize w.heap.size = g at *
  go_loopw [3, 4, 5] (fun sv bv iv wr => ∃ k : Nat, sv = .int .i64 (w64 (cnt (L.take k) : Nat)) ∧ bv = .int .i64 (w64 (levN (L.take k) : Nat)) ∧ iv = .int .i64 (k : Nat) ∧ k ≤ n ∧ Turns (fun _ => False) w0 wr) (fun _ _ iv _ => n - (intOf iv).toNat)
  case atStart => exact ⟨0, rfl, rfl, rfl, by omega, Turns.refl _ _⟩
  case round =>
    obtain ⟨k, rfl, rfl, rfl, hk, ht⟩ := hrel
    have TT := hide ht
    have p0 := ht.cell (cell_of_row w0 g 0 _ 25 (0, 0) R0.out) (fun x => x)
    by_cases hk2 : k < n
    · have i1 : (k : Int) < n := by omega
      have i0 : (0 : Int) ≤ (k : Int) := by omega
      have hkl : k < L.length := by have := HL.out; omega
      obtain ⟨⟨b, off, rfl, hc⟩, hfl⟩ := (HA.out.quiet (TA.out.trans ht)) k L[k] (List.getElem?_eq_getElem hkl)
      have HFL := hide hfl
      have hxl := HX.out L[k] (List.getElem_mem hkl)
      have HTK := hide (List.take_succ_eq_append_getElem hkl)
      have HC1 := hide (cnt_take (List.getElem?_eq_getElem hkl))
      have HC2 := hide (show levN (L.take (k + 1)) = levN (L.take k) + keysN (fls L[k].l) by rw [HTK.out, levN_snoc])
      generalize hLK : L[k] = x at *
      obtain ⟨xa, xc, xl⟩ := x
      have HLK := hide hLK
      clear hLK
      simp only at *
      clear ht hfl HTK
      unfold reachBytes at hxl
      go_wp2_with fail
      generalize hM : levN (L.take k) = M at *
      clear hM
      clear p0 hc
      have P0 := hide (fun (u : World) (t : Turns (fun _ => False) wr u) => t.cell ((TT.out).cell (cell_of_row w0 g 0 _ 25 (0, 0) R0.out) (fun x => x)) (fun x => x))
      have PC := hide (fun (u : World) (t : Turns (fun _ => False) wr u) => HA.out.quiet ((TA.out.trans TT.out).trans t))
      have HXL := hide (show L[k]? = some ⟨xa, xc, xl⟩ from by rw [List.getElem?_eq_getElem hkl, HLK.out])
      go_loopw [4, 6] (fun bv iv wq => ∃ q : Nat, bv = .int .i64 (w64 ((M + keysN (fls (xl.take q)) : Nat) : Int)) ∧ iv = .int .i64 (q : Nat) ∧ q ≤ xl.length ∧ Turns (fun _ => False) wr wq) (fun _ iv _ => xl.length - (intOf iv).toNat)
      case atStart => exact ⟨0, rfl, rfl, by omega, Turns.refl _ _⟩
      case round =>
        obtain ⟨q, rfl, rfl, hq, hu⟩ := hrel
        have UU := hide hu
        have p0 := P0.out _ hu
        obtain ⟨⟨b2, off2, e2, hc⟩, hfl⟩ := PC.out _ hu k _ HXL.out
        cases e2
        by_cases hq2 : q < xl.length
        · have j1 : (q : Int) < xl.length := by omega
          have j0 : (0 : Int) ≤ (q : Int) := by omega
          obtain ⟨b3, off3, rfl, h6, _⟩ := fc_of hfl (List.getElem?_eq_getElem hq2)
          have HWS := hide (show keysN (fls (xl.take (q + 1))) = keysN (fls (xl.take q)) + (xl[q].f.least.length + xl[q].f.most.length) from by rw [List.take_succ_eq_append_getElem hq2]; unfold fls; rw [List.map_append, List.map_singleton, keysN_snoc])
          have c2 := h6.c2
          have c3 := h6.c3
          generalize xl[q].f.least.length = L1 at *
          generalize xl[q].f.most.length = L2 at *
          clear h6 hfl hu
          generalize keysN (fls (xl.take q)) = kq at *
          have HQ := hide (show ∀ x y : Int, IntKind.i64.wrap (IntKind.i64.wrap (w64 ((M + kq : Nat) : Int) + x) + y) = w64 (((M + kq : Nat) : Int) + (x + y)) from fun x y => by
            rw [w64_add]
            unfold w64
            simp only [IntKind.wrap_i64]
            omega)
          generalize hz : w64 ((M + kq : Nat) : Int) = z at *
          clear hz
          go_wp2_with fail
          go_quiet (fail)
          go_wp2
          go_roundw
          case rel =>
            refine ⟨q + 1, ?_, by go_num, by omega, ?_⟩
            · rw [HWS.out, ← Nat.add_assoc, Int.natCast_add (M + kq), Int.natCast_add L1, ← HQ.out, wr64, wr64]
            · first
                | exact UU.out.drew
                | exact UU.out.drewN _
          case measure => simp [intOf]; omega
        · have j1 : ¬ (q : Int) < xl.length := by omega
          obtain rfl : q = xl.length := by omega
          have HKE := hide (show M + keysN (fls (xl.take xl.length)) = levN (L.take (k + 1)) from by rw [List.take_length]; exact HC2.out.symm)
          rw [HKE.out]
          have HCE := hide (show IntKind.i64.wrap (w64 (cnt (L.take k) : Nat) + xl.length) = w64 (cnt (L.take (k + 1)) : Nat) from by rw [w64_add, HC1.out, Int.natCast_add])
          clear hfl hu
          go_wp2_with fail
          go_roundw
          case rel => exact ⟨k + 1, by rw [← HCE.out, wr64], rfl, by go_num, by omega, TT.out.trans UU.out⟩
          case measure => simp [intOf]; omega
    · have i1 : ¬ (k : Int) < n := by omega
      have hkn : k = n := by omega
      have HK := hide hkn
      have hT : L.take k = L := by rw [HK.out, HL.out, List.take_length]
      rw [hT]
      generalize hz : w64 (levN L : Nat) = z at *
      generalize hy : w64 (cnt L : Nat) = y at *
      have HZ2 := hide hz
      have HY2 := hide hy
      clear hk hk2 hkn ht hz hy hT
      by_cases h1 : (n : Int) ≤ 10
      · have g1 : n ≤ 10 := by omega
        by_cases h2 : y ≤ 100
        · by_cases h3 : z ≤ 10000
          · have HF := hide (show (decide (n ≤ 10) && (decide (y ≤ 100) && decide (z ≤ 10000))) = true by simp [g1, h2, h3])
            clear g1
            go_wp2_with fail
            go_ret
            exact ⟨by rw [HZ2.out, HY2.out, HF.out]; rfl, TA.out.trans TT.out⟩
          · have HF := hide (show (decide (n ≤ 10) && (decide (y ≤ 100) && decide (z ≤ 10000))) = false by simp [h3])
            clear g1
            go_wp2_with fail
            go_ret
            exact ⟨by rw [HZ2.out, HY2.out, HF.out]; rfl, TA.out.trans TT.out⟩
        · have HF := hide (show (decide (n ≤ 10) && (decide (y ≤ 100) && decide (z ≤ 10000))) = false by simp [h2])
          clear g1
          go_wp2_with fail
          go_ret
          exact ⟨by rw [HZ2.out, HY2.out, HF.out]; rfl, TA.out.trans TT.out⟩
      · have g1 : ¬ n ≤ 10 := by omega
        have HF := hide (show (decide (n ≤ 10) && (decide (y ≤ 100) && decide (z ≤ 10000))) = false by simp [g1])
        clear g1
        go_wp2_with fail
        go_ret
        exact ⟨by rw [HZ2.out, HY2.out, HF.out]; rfl, TA.out.trans TT.out⟩
end Go.Proofs.Ytkmcdjbadngfgaa
