/-
  The document's order of keys; whether a file may be, and may stand behind another one.
-/
import Derived.Test.YtkmcdjbadngfgaaVj
import Derived.Deep.Light
import Derived.Deep.RegionHeld
namespace Go.Proofs.Ytkmcdjbadngfgaa
open Go.RowKit
set_option maxRecDepth 100000
set_option maxHeartbeats 4000000
theorem cmpB_cons (a b : BitVec 8) (l r : List (BitVec 8)) : cmpB (a :: l) (b :: r) = if a.toNat < b.toNat then -1 else if b.toNat < a.toNat then 1 else cmpB l r := by
  have h : ∀ x y : BitVec 8, (UInt8.ofNat ((x.toNat : Int)).toNat < UInt8.ofNat ((y.toNat : Int)).toNat) ↔ x.toNat < y.toNat := fun x y => by
    have h1 := x.isLt
    have h2 := y.isLt
    rw [UInt8.lt_iff_toNat_lt]
    simp only [Int.toNat_natCast, UInt8.toNat_ofNat']
    omega
  show Lib.compareBytes (u8s (a :: l)) (u8s (b :: r)) = _
  have hu : ∀ (x : BitVec 8) (t : List (BitVec 8)), u8s (x :: t) = UInt8.ofNat ((x.toNat : Int)).toNat :: u8s t := fun x t => rfl
  rw [hu, hu, Lib.compareBytes]
  by_cases h1 : a.toNat < b.toNat
  · rw [if_pos h1, if_pos ((h a b).2 h1)]
  · rw [if_neg h1, if_neg (fun q => h1 ((h a b).1 q))]
    by_cases h2 : b.toNat < a.toNat
    · rw [if_pos h2, if_pos ((h b a).2 h2)]
    · rw [if_neg h2, if_neg (fun q => h2 ((h b a).1 q))]
      rfl
theorem cmpB_at : ∀ (k : Nat) (x y : List (BitVec 8)) (h1 : k < x.length) (h2 : k < y.length), x.take k = y.take k → x[k] ≠ y[k] → (cmpB x y < 0 ↔ x[k].toNat < y[k].toNat)
  | 0, a :: l, b :: r, _, _, _, hne => by
    have hne' : a.toNat ≠ b.toNat := fun q => hne (BitVec.eq_of_toNat_eq q)
    rw [cmpB_cons]
    simp only [List.getElem_cons_zero]
    split
    · simp_all
    · split
      · simp_all
      · omega
  | k + 1, a :: l, b :: r, h1, h2, ht, hne => by
    simp only [List.take_succ_cons, List.cons.injEq] at ht
    have := cmpB_at k l r (by simpa using h1) (by simpa using h2) ht.2 (by simpa using hne)
    rw [cmpB_cons, ht.1, if_neg (Nat.lt_irrefl _), if_neg (Nat.lt_irrefl _)]
    simpa using this
theorem cmpB_end : ∀ (k : Nat) (x y : List (BitVec 8)), x.take k = y.take k → (k = x.length ∧ k ≤ y.length ∨ k = y.length ∧ k ≤ x.length) → (cmpB x y < 0 ↔ x.length < y.length)
  | 0, [], [], _, _ => by decide
  | 0, [], b :: r, _, _ => by
    have : cmpB [] (b :: r) = -1 := rfl
    rw [this]; simp
  | 0, a :: l, [], _, _ => by
    have : cmpB (a :: l) [] = 1 := rfl
    rw [this]; simp
  | 0, a :: l, b :: r, _, h => by simp at h
  | k + 1, [], y, _, h => by
    rcases h with ⟨h, _⟩ | ⟨_, h⟩ <;> simp at h
  | k + 1, a :: l, [], _, h => by
    rcases h with ⟨_, h⟩ | ⟨h, _⟩ <;> simp at h
  | k + 1, a :: l, b :: r, ht, h => by
    simp only [List.take_succ_cons, List.cons.injEq] at ht
    have := cmpB_end k l r ht.2 (by simpa using h)
    rw [cmpB_cons, ht.1, if_neg (Nat.lt_irrefl _), if_neg (Nat.lt_irrefl _)]
    simpa using this
theorem rbefore_any (a a' : Option Addr) (n n' c c' : Nat) (x y : List (BitVec 8)) (w : World) (h : Bytes w (.slice a n c) x) (h' : Bytes w (.slice a' n' c') y) (hn : n ≤ 1000000000) (hn' : n' ≤ 1000000000) :
    Calls Try.prog 67 #[.slice a n c, .slice a' n' c'] w fun e w' => e = .returned (.bool (decide (cmpB x y < 0))) ∧ ∃ m, w' = w.drewN m := by
  have hl := h.len
  have hl' := h'.len
  have H := hide h
  have H' := hide h'
  have HL := hide hl
  have HL' := hide hl'
  clear h h' hl hl'
  go_enter Try.func67, Try.ntmps67
  go_wp2_with fail
  go_loopw [5] (fun i wr => ∃ k : Nat, i = .int .i64 (k : Nat) ∧ k ≤ n ∧ k ≤ n' ∧ x.take k = y.take k ∧ ∃ m, wr = w.drewN m) (fun i _ => n - (intOf i).toNat)
  case atStart => exact ⟨0, rfl, Nat.zero_le _, Nat.zero_le _, rfl, 0, rfl⟩
  case round =>
    obtain ⟨k, rfl, hk, hk', htk, m, rfl⟩ := hrel
    have HTK := hide htk
    clear htk
    by_cases hkn : k < n ∧ k < n'
    · obtain ⟨hk1, hk2⟩ := hkn
      obtain ⟨b, off, rfl⟩ := H.out.addr (by omega)
      obtain ⟨b', off', rfl⟩ := H'.out.addr (by omega)
      have hkx : k < x.length := by have := HL.out; omega
      have hky : k < y.length := by have := HL'.out; omega
      have h1 := H.out.at k hkx
      have h2 := H'.out.at k hky
      have e1 : x.getD k 0 = x[k] := by simp [List.getD, hkx]
      have e2 : y.getD k 0 = y[k] := by simp [List.getD, hky]
      rw [e1] at h1
      rw [e2] at h2
      have i1 : (k : Int) < (n : Int) := by omega
      have i2 : (k : Int) < (n' : Int) := by omega
      have i0 : (0 : Int) ≤ (k : Int) := by omega
      clear e1 e2
      by_cases hxy : x[k] = y[k]
      · have HT2 := hide (take_eq_succ hkx hky HTK.out hxy)
        rw [← hxy] at h2
        generalize x[k].toNat = q at *
        clear hxy
        go_wp2_with fail
        go_quiet (fail)
        go_wp2
        go_roundw
        case rel => exact ⟨k + 1, by go_num, by omega, by omega, HT2.out, _, rfl⟩
        case measure => simp [intOf]; omega
      · have hne : x[k].toNat ≠ y[k].toNat := fun e => hxy (BitVec.eq_of_toNat_eq e)
        have HC := hide (show decide (cmpB x y < 0) = decide (x[k].toNat < y[k].toNat) from decide_eq_decide.2 (cmpB_at k x y hkx hky HTK.out hxy))
        generalize x[k].toNat = q at *
        generalize y[k].toNat = q' at *
        have hne' : ¬ (q : Int) = (q' : Int) := by omega
        clear hxy hne
        go_wp2_with fail
        go_quiet (fail)
        go_wp2_with fail
        go_quiet (fail)
        go_wp2_with fail
        go_ret
        go_light
        refine ⟨congrArg Ending.returned (congrArg Value.bool HC.out.symm), ?_⟩
        first | exact ⟨_, rfl⟩ | (rw [World.drewN_drewN]; exact ⟨_, rfl⟩) | (rw [World.drewN_drewN, World.drewN_drewN]; exact ⟨_, rfl⟩)
    · have HC := hide (show decide (cmpB x y < 0) = decide (x.length < y.length) from decide_eq_decide.2 (cmpB_end k x y HTK.out (by go_light; have := HL.out; have := HL'.out; omega)))
      have hor : ¬ ((k : Int) < (n : Int) ∧ (k : Int) < (n' : Int)) := by omega
      have HD := hide (show decide (n < n') = decide (x.length < y.length) by rw [HL.out, HL'.out])
      by_cases h1 : (k : Int) < (n : Int)
      · have h2 : ¬ (k : Int) < (n' : Int) := fun q => hor ⟨h1, q⟩
        clear hkn hor
        go_wp2_with fail
        go_ret
        go_light
        exact ⟨congrArg Ending.returned (congrArg Value.bool (HD.out.trans HC.out.symm)), m, rfl⟩
      · clear hkn hor
        go_wp2_with fail
        go_ret
        go_light
        exact ⟨congrArg Ending.returned (congrArg Value.bool (HD.out.trans HC.out.symm)), m, rfl⟩
theorem drewN_turns (w : World) (m : Nat) : Turns (fun _ => False) w (w.drewN m) := (Turns.refl _ w).drewN m
theorem rBefore_any (a a' : Option Addr) (n n' c c' : Nat) (x y : List (BitVec 8)) (w : World) (h : Bytes w (.slice a n c) x) (h' : Bytes w (.slice a' n' c') y) (hn : n ≤ 1000000000) (hn' : n' ≤ 1000000000) :
    Calls Try.prog 50 #[.slice a n c, .slice a' n' c'] w fun e w' => e = .returned (.bool (decide (cmpB x y < 0))) ∧ Turns (fun _ => False) w w' := by
  have CB := hide (rbefore_any a a' n n' c c' x y w h h' hn hn')
  clear h h'
  go_enter Try.func50, Try.ntmps50
  go_wp2_with fail
  refine CB.out.mono ?_
  rintro e w1 ⟨rfl, m, rfl⟩
  have T := hide (drewN_turns w m)
  go_wp2_with fail
  go_ret
  exact ⟨rfl, T.out⟩
theorem rkey_any (a : Option Addr) (n c : Nat) (w : World) : Calls Try.prog 53 #[.slice a n c] w fun e w' => e = .returned (.bool (isK n)) ∧ w' = w := by
  by_cases h1 : (1 : Int) ≤ n
  · go_enter Try.func53, Try.ntmps53
    go_wp2_with fail
    go_ret
    exact ⟨congrArg Ending.returned (congrArg Value.bool (Bool.eq_iff_iff.2 (by unfold isK; simp; omega))), rfl⟩
  · go_enter Try.func53, Try.ntmps53
    go_wp2_with fail
    go_ret
    exact ⟨congrArg Ending.returned (congrArg Value.bool (Bool.eq_iff_iff.2 (by unfold isK; simp; omega))), rfl⟩
def okF (next : Nat) (f : Fl) : Bool := !wrongF f && decide (f.no < next)
theorem rfile_any (x : Tf) (next : Nat) (w : World) (h : FB w x) : Calls Try.prog 38 #[x.agg, .int .u64 (next : Nat)] w fun e w' => e = .returned (.bool (okF next x.f)) ∧ Turns (fun _ => False) w w' := by
  obtain ⟨la, lc, ma, mc, ⟨no, sz, ls, ms, en, sq⟩⟩ := x
  have H := hide h
  have TA := hide ((Turns.refl (fun _ => False) w).alloc (.cells #[.int .u64 (no : Nat), .int .i64 sz, .slice la ls.length lc, .slice ma ms.length mc, .int .i64 en, .int .u64 (sq : Nat)] 29))
  clear h
  unfold Tf.agg
  simp only
  by_cases h0 : no < 1
  · have i0 : ¬ (1 : Int) ≤ no := by omega
    go_enter Try.func38, Try.ntmps38
    go_wp2_with fail
    go_ret
    exact ⟨congrArg Ending.returned (congrArg Value.bool (by simp [okF, wrongF, h0])), TA.out⟩
  have i0 : (1 : Int) ≤ no := by omega
  by_cases h1 : ¬ no < next
  · have i1 : ¬ (no : Int) < next := by omega
    go_enter Try.func38, Try.ntmps38
    go_wp2_with fail
    go_ret
    exact ⟨congrArg Ending.returned (congrArg Value.bool (by simp [okF, wrongF, h1])), TA.out⟩
  have i1 : (no : Int) < next := by omega
  by_cases h2 : sz < 0
  · have i2 : ¬ (0 : Int) ≤ sz := by omega
    go_enter Try.func38, Try.ntmps38
    go_wp2_with fail
    go_ret
    exact ⟨congrArg Ending.returned (congrArg Value.bool (by simp [okF, wrongF, h2])), TA.out⟩
  have i2 : (0 : Int) ≤ sz := by omega
  by_cases h3 : 16777216 < sz
  · have i3 : ¬ sz ≤ 16777216 := by omega
    go_enter Try.func38, Try.ntmps38
    go_wp2_with fail
    go_ret
    exact ⟨congrArg Ending.returned (congrArg Value.bool (by simp [okF, wrongF, h3])), TA.out⟩
  have i3 : sz ≤ 16777216 := by omega
  by_cases h4 : en < 1
  · have i4 : ¬ (1 : Int) ≤ en := by omega
    go_enter Try.func38, Try.ntmps38
    go_wp2_with fail
    go_ret
    exact ⟨congrArg Ending.returned (congrArg Value.bool (by simp [okF, wrongF, h4])), TA.out⟩
  have i4 : (1 : Int) ≤ en := by omega
  by_cases h5 : 16777216 < en
  · have i5 : ¬ en ≤ 16777216 := by omega
    go_enter Try.func38, Try.ntmps38
    go_wp2_with fail
    go_ret
    exact ⟨congrArg Ending.returned (congrArg Value.bool (by simp [okF, wrongF, h5])), TA.out⟩
  have i5 : en ≤ 16777216 := by omega
  by_cases h6 : 72057594037927935 < sq
  · have i6 : ¬ (sq : Int) ≤ 72057594037927935 := by omega
    go_enter Try.func38, Try.ntmps38
    go_wp2_with fail
    go_ret
    exact ⟨congrArg Ending.returned (congrArg Value.bool (by simp [okF, wrongF, h6])), TA.out⟩
  have i6 : (sq : Int) ≤ 72057594037927935 := by omega
  cases k1 : isK ls.length with
  | false =>
    go_enter Try.func38, Try.ntmps38
    go_wp2_with fail
    refine (rkey_any la ls.length lc _).mono ?_
    rintro e w1 ⟨rfl, rfl⟩
    rw [k1]
    go_wp2_with fail
    go_ret
    exact ⟨congrArg Ending.returned (congrArg Value.bool (by simp [okF, wrongF, k1])), TA.out⟩
  | true =>
    cases k2 : isK ms.length with
    | false =>
      go_enter Try.func38, Try.ntmps38
      go_wp2_with fail
      refine (rkey_any la ls.length lc _).mono ?_
      rintro e w1 ⟨rfl, rfl⟩
      rw [k1]
      go_wp2_with fail
      refine (rkey_any ma ms.length mc _).mono ?_
      rintro e w2 ⟨rfl, rfl⟩
      rw [k2]
      go_wp2_with fail
      go_ret
      exact ⟨congrArg Ending.returned (congrArg Value.bool (by simp [okF, wrongF, k1, k2])), TA.out⟩
    | true =>
      have hb1 : ls.length ≤ 4096 := by unfold isK at k1; simp at k1; omega
      have hb2 : ms.length ≤ 4096 := by unfold isK at k2; simp at k2; omega
      have CB := hide (rBefore_any ma la ms.length ls.length mc lc ms ls _ (H.out.quiet TA.out).2 (H.out.quiet TA.out).1 (by omega) (by omega))
      go_enter Try.func38, Try.ntmps38
      go_wp2_with fail
      refine (rkey_any la ls.length lc _).mono ?_
      rintro e w1 ⟨rfl, rfl⟩
      rw [k1]
      go_wp2_with fail
      refine (rkey_any ma ms.length mc _).mono ?_
      rintro e w2 ⟨rfl, rfl⟩
      rw [k2]
      go_wp2_with fail
      refine CB.out.mono ?_
      rintro e w3 ⟨rfl, t3⟩
      have T3 := hide (TA.out.trans t3)
      clear t3
      have HS := hide (cmpB_swap ls ms)
      go_wp2_with fail
      go_ret
      exact ⟨congrArg Ending.returned (congrArg Value.bool (by have := HS.out; simp [okF, wrongF, k1, k2]; rw [Bool.eq_iff_iff]; simp; omega)), T3.out⟩
theorem rbehind_any (lev : Nat) (x y : Tf) (w : World) (h : FB w x) (h' : FB w y) (hx : x.f.most.length ≤ 1000000000) (hy : y.f.least.length ≤ 1000000000) : Calls Try.prog 39 #[x.agg, y.agg, .int .i64 (lev : Nat)] w fun e w' => e = .returned (.bool (aheadF lev x.f y.f)) ∧ Turns (fun _ => False) w w' := by
  obtain ⟨la, lc, ma, mc, ⟨no, sz, ls, ms, en, sq⟩⟩ := x
  obtain ⟨la', lc', ma', mc', ⟨no', sz', ls', ms', en', sq'⟩⟩ := y
  have TA := hide (((Turns.refl (fun _ => False) w).alloc (.cells #[.int .u64 (no : Nat), .int .i64 sz, .slice la ls.length lc, .slice ma ms.length mc, .int .i64 en, .int .u64 (sq : Nat)] 29)).alloc (.cells #[.int .u64 (no' : Nat), .int .i64 sz', .slice la' ls'.length lc', .slice ma' ms'.length mc', .int .i64 en', .int .u64 (sq' : Nat)] 29))
  have CB := hide (rBefore_any ma la' ms.length ls'.length mc lc' ms ls' _ (h.quiet TA.out).2 (h'.quiet TA.out).1 hx hy)
  unfold Tf.agg
  simp only
  clear h h'
  by_cases hl : lev = 0
  · subst hl
    go_enter Try.func39, Try.ntmps39
    go_wp2_with fail
    go_ret
    exact ⟨congrArg Ending.returned (congrArg Value.bool (Bool.eq_iff_iff.2 (by simp [aheadF]))), TA.out⟩
  · have hli : ¬ (lev : Int) = 0 := by omega
    go_enter Try.func39, Try.ntmps39
    go_wp2_with fail
    refine CB.out.mono ?_
    rintro e w1 ⟨rfl, t1⟩
    have T1 := hide (TA.out.trans t1)
    clear t1
    go_wp2_with fail
    go_ret
    exact ⟨congrArg Ending.returned (congrArg Value.bool (Bool.eq_iff_iff.2 (by simp [aheadF, hl]))), T1.out⟩
end Go.Proofs.Ytkmcdjbadngfgaa
