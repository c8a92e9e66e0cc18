/-
  Whether a list of files has one that may not be, or that is too new; whether it is in order.
-/
import Derived.Test.YtkmcdjbadngfgaaVa
namespace Go.Proofs.Ytkmcdjbadngfgaa
open Go.RowKit
set_option maxRecDepth 100000
set_option maxHeartbeats 4000000
def wrongT (x : Tf) : Bool := wrongF x.f
def newT (next : Nat) (x : Tf) : Bool := decide (next ≤ x.f.no)
theorem isWrongT_any (x : Tf) (w : World) (h : FB w x) : Calls Try.prog 70 #[x.agg] w fun e w' => e = .returned (.bool (wrongT x)) ∧ Turns (fun _ => False) w w' := isWrongFile_any x w h
theorem isTooNew_any (x : Tf) (vp next : Nat) (w : World) (hc : w.cell? ⟨vp, 1, none⟩ = some (.int .u64 (next : Nat))) : Calls Try.prog 69 #[x.agg, .pointer (some ⟨vp, 0, none⟩)] w fun e w' => e = .returned (.bool (newT next x)) ∧ Turns (fun _ => False) w w' := by
  obtain ⟨la, lc, ma, mc, ⟨no, sz, ls, ms, en, sq⟩⟩ := x
  have TA := hide ((Turns.refl (fun _ => False) w).alloc (.cells #[.int .u64 (no : Nat), .int .i64 sz, .slice la ls.length lc, .slice ma ms.length mc, .int .i64 en, .int .u64 (sq : Nat)] 29))
  have hc2 := TA.out.cell hc (fun x => x)
  unfold Tf.agg
  simp only
  go_enter Try.func69, Try.ntmps69
  go_wp2_with fail
  go_ret
  exact ⟨congrArg Ending.returned (congrArg Value.bool (Bool.eq_iff_iff.2 (by simp [newT]))), TA.out⟩
theorem index_wrong (a : Option Addr) (n c : Nat) (l : List Tf) (w : World) (h : Fils w a l) (hn : n = l.length) (hmx : n ≤ 1000000) :
    Calls Try.prog 81 #[.slice a n c, .func (.func 70) #[] #[]] w fun e w' => ∃ z : Int, e = .returned (.int .i64 z) ∧ (0 ≤ z ↔ l.any wrongT = true) ∧ Turns (fun _ => False) w w' := by
  have H := hide h
  have HL := hide hn
  have hni : (n : Int) ≤ 1000000 := by omega
  clear h hn
  go_enter Try.func81, Try.ntmps81
  go_wp2_with fail
  go_loopw [8] (fun i wr => ∃ k : Nat, i = .int .i64 (k : Nat) ∧ k ≤ n ∧ (l.take k).any wrongT = false ∧ Turns (fun _ => False) w wr) (fun i _ => n - (intOf i).toNat)
  case atStart => exact ⟨0, rfl, Nat.zero_le _, rfl, Turns.refl _ _⟩
  case round =>
    obtain ⟨k, rfl, hk, hno, hb⟩ := hrel
    have HNO := hide hno
    have HB := hide hb
    clear hno hb
    by_cases hkn : k < n
    · obtain ⟨x, hx⟩ : ∃ x, l[k]? = some x := ⟨_, List.getElem?_eq_getElem (by have := HL.out; omega)⟩
      obtain ⟨b, off, rfl, h6, hfb⟩ := fc_of (H.out.quiet HB.out) hx
      have i1 : (k : Int) < (n : Int) := by omega
      have i0 : (0 : Int) ≤ (k : Int) := by omega
      have HTK := hide (show (l.take (k + 1)).any wrongT = wrongT x by rw [List.take_add_one, hx, List.any_append, HNO.out]; simp)
      have HANY := hide (show wrongT x = true → l.any wrongT = true from fun e => List.any_eq_true.2 ⟨x, List.mem_of_getElem? hx, e⟩)
      have CC := hide (isWrongT_any x wr hfb)
      obtain ⟨y0, y1, y2, y3, y4, y5⟩ := h6
      unfold Tf.agg at CC
      clear hfb hx
      go_wp2_with fail
      refine CC.out.mono ?_
      rintro e w1 ⟨rfl, t1⟩
      have B1 := hide (HB.out.trans t1)
      clear t1 CC y0 y1 y2 y3 y4 y5
      generalize hq : wrongT x = q at *
      have HQ := hide hq
      clear hq
      cases q
      · go_wp2_with fail
        go_roundw
        case rel => exact ⟨k + 1, by go_num, by omega, HTK.out, B1.out⟩
        case measure => simp [intOf]; omega
      · go_wp2_with fail
        go_ret
        exact ⟨_, rfl, ⟨fun _ => HANY.out trivial, fun _ => by omega⟩, B1.out⟩
    · obtain rfl : k = n := by omega
      have ht : l.take k = l := List.take_of_length_le (by have := HL.out; omega)
      have HT := hide ht
      clear ht
      go_wp2_with fail
      go_ret
      refine ⟨_, rfl, ⟨fun h => by omega, fun h => ?_⟩, HB.out⟩
      have := HNO.out
      rw [HT.out, h] at this
      cases this
theorem contains_wrong (a : Option Addr) (n c : Nat) (l : List Tf) (w : World) (h : Fils w a l) (hn : n = l.length) (hmx : n ≤ 1000000) :
    Calls Try.prog 66 #[.slice a n c, .func (.func 70) #[] #[]] w fun e w' => e = .returned (.bool (l.any wrongT)) ∧ Turns (fun _ => False) w w' := by
  have IX := hide (index_wrong a n c l w h hn hmx)
  clear h hn
  go_enter Try.func66, Try.ntmps66
  go_wp2_with fail
  refine IX.out.mono ?_
  rintro e w1 ⟨z, rfl, hz, t1⟩
  have HZ := hide hz
  have B1 := hide t1
  clear hz t1 IX
  go_wp2_with fail
  go_ret
  refine ⟨congrArg Ending.returned (congrArg Value.bool (Bool.eq_iff_iff.2 ?_)), B1.out⟩
  rw [← HZ.out]
  simp
theorem index_new (a : Option Addr) (n c : Nat) (l : List Tf) (vp next : Nat) (w : World) (h : Fils w a l) (hn : n = l.length) (hmx : n ≤ 1000000) (hv : w.cell? ⟨vp, 1, none⟩ = some (.int .u64 (next : Nat))) :
    Calls Try.prog 81 #[.slice a n c, .func (.func 69) #[] #[.pointer (some ⟨vp, 0, none⟩)]] w fun e w' => ∃ z : Int, e = .returned (.int .i64 z) ∧ (0 ≤ z ↔ l.any (newT next) = true) ∧ Turns (fun _ => False) w w' := by
  have H := hide h
  have HL := hide hn
  have hni : (n : Int) ≤ 1000000 := by omega
  clear h hn
  go_enter Try.func81, Try.ntmps81
  go_wp2_with fail
  go_loopw [8] (fun i wr => ∃ k : Nat, i = .int .i64 (k : Nat) ∧ k ≤ n ∧ (l.take k).any (newT next) = false ∧ Turns (fun _ => False) w wr) (fun i _ => n - (intOf i).toNat)
  case atStart => exact ⟨0, rfl, Nat.zero_le _, rfl, Turns.refl _ _⟩
  case round =>
    obtain ⟨k, rfl, hk, hno, hb⟩ := hrel
    have HNO := hide hno
    have HB := hide hb
    clear hno hb
    by_cases hkn : k < n
    · obtain ⟨x, hx⟩ : ∃ x, l[k]? = some x := ⟨_, List.getElem?_eq_getElem (by have := HL.out; omega)⟩
      obtain ⟨b, off, rfl, h6, hfb⟩ := fc_of (H.out.quiet HB.out) hx
      have i1 : (k : Int) < (n : Int) := by omega
      have i0 : (0 : Int) ≤ (k : Int) := by omega
      have HTK := hide (show (l.take (k + 1)).any (newT next) = (newT next) x by rw [List.take_add_one, hx, List.any_append, HNO.out]; simp)
      have HANY := hide (show (newT next) x = true → l.any (newT next) = true from fun e => List.any_eq_true.2 ⟨x, List.mem_of_getElem? hx, e⟩)
      have CC := hide (isTooNew_any x vp next wr (HB.out.cell hv (fun x => x)))
      obtain ⟨y0, y1, y2, y3, y4, y5⟩ := h6
      unfold Tf.agg at CC
      clear hfb hx
      go_wp2_with fail
      refine CC.out.mono ?_
      rintro e w1 ⟨rfl, t1⟩
      have B1 := hide (HB.out.trans t1)
      clear t1 CC y0 y1 y2 y3 y4 y5
      generalize hq : (newT next) x = q at *
      have HQ := hide hq
      clear hq
      cases q
      · go_wp2_with fail
        go_roundw
        case rel => exact ⟨k + 1, by go_num, by omega, HTK.out, B1.out⟩
        case measure => simp [intOf]; omega
      · go_wp2_with fail
        go_ret
        exact ⟨_, rfl, ⟨fun _ => HANY.out trivial, fun _ => by omega⟩, B1.out⟩
    · obtain rfl : k = n := by omega
      have ht : l.take k = l := List.take_of_length_le (by have := HL.out; omega)
      have HT := hide ht
      clear ht
      go_wp2_with fail
      go_ret
      refine ⟨_, rfl, ⟨fun h => by omega, fun h => ?_⟩, HB.out⟩
      have := HNO.out
      rw [HT.out, h] at this
      cases this
theorem contains_new (a : Option Addr) (n c : Nat) (l : List Tf) (vp next : Nat) (w : World) (h : Fils w a l) (hn : n = l.length) (hmx : n ≤ 1000000) (hv : w.cell? ⟨vp, 1, none⟩ = some (.int .u64 (next : Nat))) :
    Calls Try.prog 66 #[.slice a n c, .func (.func 69) #[] #[.pointer (some ⟨vp, 0, none⟩)]] w fun e w' => e = .returned (.bool (l.any (newT next))) ∧ Turns (fun _ => False) w w' := by
  have IX := hide (index_new a n c l vp next w h hn hmx hv)
  clear h hn
  go_enter Try.func66, Try.ntmps66
  go_wp2_with fail
  refine IX.out.mono ?_
  rintro e w1 ⟨z, rfl, hz, t1⟩
  have HZ := hide hz
  have B1 := hide t1
  clear hz t1 IX
  go_wp2_with fail
  go_ret
  refine ⟨congrArg Ending.returned (congrArg Value.bool (Bool.eq_iff_iff.2 ?_)), B1.out⟩
  rw [← HZ.out]
  simp
def aheadF (lev : Nat) (a b : Fl) : Bool := if lev = 0 then decide (a.no < b.no) else decide (cmpB a.most b.least < 0)
theorem isAhead_any (lev : Nat) (x y : Tf) (w : World) (h : FB w x) (h' : FB w y) : Calls Try.prog 83 #[.int .i64 (lev : Nat), x.agg, y.agg] w fun e w' => e = .returned (.bool (aheadF lev x.f y.f)) ∧ Turns (fun _ => False) w w' := by
  obtain ⟨la, lc, ma, mc, ⟨no, sz, ls, ms, en, sq⟩⟩ := x
  obtain ⟨la', lc', ma', mc', ⟨no', sz', ls', ms', en', sq'⟩⟩ := y
  have TA := hide (((Turns.refl (fun _ => False) w).alloc (.cells #[.int .u64 (no : Nat), .int .i64 sz, .slice la ls.length lc, .slice ma ms.length mc, .int .i64 en, .int .u64 (sq : Nat)] 29)).alloc (.cells #[.int .u64 (no' : Nat), .int .i64 sz', .slice la' ls'.length lc', .slice ma' ms'.length mc', .int .i64 en', .int .u64 (sq' : Nat)] 29))
  have CB := hide (compareB_any ma la' ms.length ls'.length mc lc' ms ls' _ (h.quiet TA.out).2 (h'.quiet TA.out).1)
  unfold Tf.agg
  simp only
  clear h h'
  by_cases hl : lev = 0
  · subst hl
    go_enter Try.func83, Try.ntmps83
    go_wp2_with fail
    go_ret
    exact ⟨congrArg Ending.returned (congrArg Value.bool (Bool.eq_iff_iff.2 (by simp [aheadF]))), TA.out⟩
  · have hli : ¬ (lev : Int) = 0 := by omega
    go_enter Try.func83, Try.ntmps83
    go_wp2_with fail
    refine CB.out.mono ?_
    rintro e w1 ⟨rfl, rfl⟩
    go_wp2_with fail
    go_ret
    exact ⟨congrArg Ending.returned (congrArg Value.bool (Bool.eq_iff_iff.2 (by simp [aheadF, hl]))), TA.out⟩
end Go.Proofs.Ytkmcdjbadngfgaa
