/-
  The law's own functions: which of two texts is ahead; whether two files overlap; whether a file is among some.
-/
import Derived.Test.YtkmcdjbadngfgaaPl
namespace Go.Proofs.Ytkmcdjbadngfgaa
open Go.RowKit
set_option maxRecDepth 100000
set_option maxHeartbeats 4000000
theorem kbefore_any (a a' : Option Addr) (n n' c c' : Nat) (x y : List (BitVec 8)) (w : World) (h : Bytes w (.slice a n c) x) (h' : Bytes w (.slice a' n' c') y) :
    Calls Try.prog 41 #[.slice a n c, .slice a' n' c'] w fun e w' => e = .returned (.bool (decide (cmpB x y < 0))) ∧ w' = w := by
  have c1 := conv_any h
  have c2 := conv_any h'
  have HB := hide (show Op.bytesLess (u8s x) (u8s y) = decide (cmpB x y < 0) by
    have h1 := less_cmp (u8s x) (u8s y)
    have h2 := cmpB_vals x y
    unfold cmpB at h2 ⊢
    rw [Bool.eq_iff_iff, h1, decide_eq_true_iff]
    omega)
  clear h h'
  go_enter Try.func41, Try.ntmps41
  go_wp2_with fail
  go_ret
  exact ⟨congrArg (fun b => Ending.returned (Value.bool b)) HB.out, rfl⟩
def ovL (x y : Fl) : Bool := decide (¬ cmpB x.most y.least < 0) && decide (¬ cmpB y.most x.least < 0)
theorem loverlaps_any (x y : Tf) (w : World) (h : FB w x) (h' : FB w y) : Calls Try.prog 24 #[x.agg, y.agg] w fun e w' => e = .returned (.bool (ovL x.f y.f)) ∧ Turns (fun _ => False) w w' := by
  obtain ⟨la, lc, ma, mc, ⟨no, sz, ls, ms, en, sq⟩⟩ := x
  obtain ⟨la2, lc2, ma2, mc2, ⟨no2, sz2, ls2, ms2, en2, sq2⟩⟩ := y
  have TA := hide (((Turns.refl (fun _ => False) w).alloc (.cells #[.int .u64 (no : Nat), .int .i64 sz, .slice la ls.length lc, .slice ma ms.length mc, .int .i64 en, .int .u64 (sq : Nat)] 29)).alloc (.cells #[.int .u64 (no2 : Nat), .int .i64 sz2, .slice la2 ls2.length lc2, .slice ma2 ms2.length mc2, .int .i64 en2, .int .u64 (sq2 : Nat)] 29))
  have C1 := hide (kbefore_any ma la2 ms.length ls2.length mc lc2 ms ls2 _ (h.quiet TA.out).2 (h'.quiet TA.out).1)
  have C2 := hide (kbefore_any ma2 la ms2.length ls.length mc2 lc ms2 ls _ (h'.quiet TA.out).2 (h.quiet TA.out).1)
  have HO := hide (show ovL ⟨no, sz, ls, ms, en, sq⟩ ⟨no2, sz2, ls2, ms2, en2, sq2⟩ = (decide (¬ cmpB ms ls2 < 0) && decide (¬ cmpB ms2 ls < 0)) from rfl)
  clear h h'
  unfold Tf.agg
  simp only at *
  generalize ovL ⟨no, sz, ls, ms, en, sq⟩ ⟨no2, sz2, ls2, ms2, en2, sq2⟩ = R at *
  generalize ls.length = L1 at *
  generalize ms.length = L2 at *
  generalize ls2.length = L3 at *
  generalize ms2.length = L4 at *
  generalize cmpB ms ls2 = X1 at *
  generalize cmpB ms2 ls = X2 at *
  by_cases x1 : X1 < 0
  · rw [decide_eq_true x1] at C1
    have HR := hide (show R = false by rw [HO.out, and_f (show ¬ ¬ X1 < 0 from fun h => h x1)])
    clear HO x1
    go_enter Try.func24, Try.ntmps24
    go_wp2_with fail
    refine C1.out.mono ?_
    rintro e w1 ⟨rfl, rfl⟩
    go_wp2_with fail
    go_ret
    exact ⟨by rw [HR.out]; rfl, TA.out⟩
  · rw [decide_eq_false x1] at C1
    by_cases x2 : X2 < 0
    · rw [decide_eq_true x2] at C2
      have HR := hide (show R = false by rw [HO.out, and_tf (show ¬ ¬ X2 < 0 from fun h => h x2)])
      clear HO x1 x2
      go_enter Try.func24, Try.ntmps24
      go_wp2_with fail
      refine C1.out.mono ?_
      rintro e w1 ⟨rfl, rfl⟩
      go_wp2_with fail
      refine C2.out.mono ?_
      rintro e w1 ⟨rfl, rfl⟩
      go_wp2_with fail
      go_ret
      exact ⟨by rw [HR.out]; rfl, TA.out⟩
    · rw [decide_eq_false x2] at C2
      have HR := hide (show R = true by rw [HO.out, and_tt x1 x2])
      clear HO x1 x2
      go_enter Try.func24, Try.ntmps24
      go_wp2_with fail
      refine C1.out.mono ?_
      rintro e w1 ⟨rfl, rfl⟩
      go_wp2_with fail
      refine C2.out.mono ?_
      rintro e w1 ⟨rfl, rfl⟩
      go_wp2_with fail
      go_ret
      exact ⟨by rw [HR.out]; rfl, TA.out⟩
def amongF (l : List Fl) (no : Nat) : Bool := l.any fun f => decide (f.no = no)
theorem among_any (a : Option Addr) (n c : Nat) (l : List Tf) (x : Tf) (w : World) (h : Fils w a l) (hn : n = l.length) (hmx : n ≤ 1000000) : Calls Try.prog 23 #[.slice a n c, x.agg] w fun e w' => e = .returned (.bool (amongF (fls l) x.f.no)) ∧ Turns (fun _ => False) w w' := by
  have HN := hide hn
  have hm : (n : Int) ≤ 1000000 := by omega
  obtain ⟨la, lc, ma, mc, ⟨no, sz, ls, ms, en, sq⟩⟩ := x
  have TA := hide ((Turns.refl (fun _ => False) w).alloc (.cells #[.int .u64 (no : Nat), .int .i64 sz, .slice la ls.length lc, .slice ma ms.length mc, .int .i64 en, .int .u64 (sq : Nat)] 29))
  have R0 := hide (heap_alloc_new w (.cells #[.int .u64 (no : Nat), .int .i64 sz, .slice la ls.length lc, .slice ma ms.length mc, .int .i64 en, .int .u64 (sq : Nat)] 29))
  have HF := hide (h.quiet TA.out)
  have HO := hide (show amongF (fls l) no = (fls l).any fun f => decide (f.no = no) from rfl)
  clear hn h
  unfold Tf.agg
  simp only at *
  generalize ls.length = L1 at *
  generalize ms.length = L2 at *
  generalize amongF (fls l) no = R at *
  go_enter Try.func23, Try.ntmps23
  go_wp2_with fail
  generalize w.alloc (.cells #[.int .u64 (no : Nat), .int .i64 sz, .slice la L1 lc, .slice ma L2 mc, .int .i64 en, .int .u64 (sq : Nat)] 29) = w1 at *
  generalize w.heap.size = P at *
  go_loopw [5] (fun i wr => ∃ k : Nat, i = .int .i64 (k : Nat) ∧ k ≤ n ∧ (∀ (j : Nat) (y : Tf), j < k → l[j]? = some y → y.f.no ≠ no) ∧ Turns (fun _ => False) w1 wr) (fun i _ => n - (intOf i).toNat)
  case atStart => exact ⟨0, rfl, Nat.zero_le _, fun j y hj => by omega, Turns.refl _ _⟩
  case round =>
    obtain ⟨k, rfl, hk, hno, ht⟩ := hrel
    have HNO := hide hno
    have HT := hide ht
    clear hno ht
    by_cases hkn : k < n
    · obtain ⟨y, hy⟩ : ∃ y, l[k]? = some y := ⟨_, List.getElem?_eq_getElem (by have := HN.out; omega)⟩
      obtain ⟨b, off, rfl, h6, _⟩ := fc_of (HF.out.quiet HT.out) hy
      have i1 : (k : Int) < n := by omega
      have i0 : (0 : Int) ≤ k := by omega
      have HY := hide hy
      have p0 := cell_of_row wr P 0 _ 29 (0, 0) (HT.out.heap R0.out (fun x => x))
      have y0 := h6.c0
      clear hy h6
      generalize hz : y.f.no = z at *
      have HZ := hide hz
      clear hz
      by_cases hzn : z = no
      · subst hzn
        have HR := hide (show R = true by
          rw [HO.out, List.any_eq_true]
          exact ⟨y.f, List.mem_map.2 ⟨y, List.mem_of_getElem? HY.out, rfl⟩, by rw [HZ.out]; simp⟩)
        go_wp2_with fail
        go_quiet (fail)
        go_wp2
        go_ret
        refine ⟨by rw [HR.out]; rfl, ?_⟩
        first
          | exact TA.out.trans HT.out.drew
          | exact TA.out.trans (HT.out.drewN _)
      · have hzi : ¬ (z : Int) = no := by omega
        have HZN := hide hzn
        clear hzn
        go_wp2_with fail
        go_quiet (fail)
        go_wp2
        go_roundw
        case rel =>
          refine ⟨k + 1, by go_num, by omega, fun j u hj hu => ?_, ?_⟩
          · rcases Nat.lt_or_ge j k with h | h
            · exact HNO.out j u h hu
            · obtain rfl : j = k := by omega
              rw [HY.out] at hu; cases hu; rw [HZ.out]; exact HZN.out
          · first
              | exact HT.out.drew
              | exact HT.out.drewN _
        case measure => simp [intOf]; omega
    · obtain rfl : k = n := by omega
      have HR := hide (show R = false by
        rw [HO.out, List.any_eq_false]
        intro f hf
        obtain ⟨y, hy, rfl⟩ := List.mem_map.1 hf
        obtain ⟨j, hj⟩ := List.getElem?_of_mem hy
        have := HNO.out j y (by have := HN.out; have := (List.getElem?_eq_some_iff.1 hj).1; omega) hj
        simpa using this)
      go_wp2_with fail
      go_ret
      exact ⟨by rw [HR.out]; rfl, TA.out.trans HT.out⟩
end Go.Proofs.Ytkmcdjbadngfgaa
